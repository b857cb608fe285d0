/-
  CONTRACTS of jsonin.Parser and jsonin.All.
-/
import Derived.Test.YtacngbngljfedaaGa
import Derived.Test.YtacngbngljfedaaGe
import Derived.Test.YtacngbngljfedaaGd
import Derived.Deep.QuietTactic
import Derived.Deep.RegionWith
/-
  NO PROGRAM NEEDED: the JSON reader's places, and that they stay what they may be; kinds of tokens; all that it tells are parts without what their kind has not.
-/
namespace Go.Proofs.Ytacngbngljfedaa
open Go.Lib
/-- A token as the lexer tells it. -/
def KindT (t : Tk) : Prop := (t.k = 44 ∨ t.k = 58 ∨ t.k = 93 ∨ t.k = 125 ∨ t.k = 91 ∨ t.k = 123 ∨ t.k = 115 ∨ t.k = 110 ∨ t.k = 116 ∨ t.k = 102 ∨ t.k = 48) ∧ t.t.length ≤ 200 ∧ t.n.2 < 18446744073709551616
def WfX : Lx → Prop
  | .word k _ => k = 116 ∨ k = 102 ∨ k = 48
  | .str _ t => t.length ≤ 200
  | _ => True
theorem start_wf (b : Nat) : WfX (startX b).1 ∧ ∀ t ∈ (startX b).2, KindT t := by
  unfold startX
  split
  · exact ⟨trivial, by simp⟩
  split
  · rename_i h
    refine ⟨trivial, fun t ht => ?_⟩
    simp only [List.mem_cons, List.not_mem_nil, or_false] at ht
    subst ht
    simp only [isSgn, Bool.or_eq_true, beq_iff_eq] at h
    refine ⟨?_, by simp [sgnT], by simp [sgnT]⟩
    simp only [sgnT]
    omega
  split
  · exact ⟨by simp [WfX], by simp⟩
  split
  · exact ⟨trivial, by simp⟩
  split
  · exact ⟨.inl rfl, by simp⟩
  split
  · exact ⟨.inr (.inl rfl), by simp⟩
  split
  · exact ⟨.inr (.inr rfl), by simp⟩
  · exact ⟨trivial, by simp⟩
theorem endD_lt (d : Dec) : (endD d).1.2 < 18446744073709551616 := by
  cases d with
  | bad f => simp [endD]
  | num p m v =>
    simp only [endD]
    split
    · simp
    split
    · split
      · simp only; omega
      · simp
    split
    · simpa using by assumption
    · simp
theorem num_kind (d : Dec) : KindT ⟨110, [], (endD d).1⟩ := ⟨by simp, by simp, endD_lt d⟩
theorem step_wf (s : Lx) (h : WfX s) (b : UInt8) : WfX (stepX s b).1 ∧ ∀ t ∈ (stepX s b).2, KindT t := by
  match s, h with
  | .bad e, _ => exact ⟨trivial, by simp [stepX]⟩
  | .idle, _ => exact start_wf _
  | .str s t, h =>
    simp only [stepX]
    split
    · refine ⟨trivial, fun x hx => ?_⟩
      simp only [List.mem_cons, List.not_mem_nil, or_false] at hx
      subst hx
      exact ⟨by simp, h, by simp⟩
    split
    · exact ⟨trivial, by simp⟩
    split
    · exact ⟨trivial, by simp⟩
    · rename_i h3
      refine ⟨?_, by simp⟩
      show (t ++ (stepI s b).2).length ≤ 200
      omega
  | .num d, _ =>
    simp only [stepX]
    split
    · exact ⟨trivial, by simp⟩
    split
    · exact ⟨trivial, by simp⟩
    split
    · exact ⟨trivial, by simp⟩
    · have hw := start_wf b.toNat
      generalize startX b.toNat = q at hw ⊢
      obtain ⟨q1, q2⟩ := q
      cases q1 with
      | bad e => exact ⟨trivial, by simp [tellX]⟩
      | _ =>
        refine ⟨hw.1, fun t ht => ?_⟩
        simp only [tellX, List.mem_append, List.mem_cons, List.not_mem_nil, or_false] at ht
        rcases ht with rfl | ht
        · exact num_kind d
        · exact hw.2 t ht
  | .word k [], _ => exact ⟨trivial, by simp [stepX]⟩
  | .word k (x :: q), h =>
    simp only [stepX]
    split
    · split
      · refine ⟨trivial, fun t ht => ?_⟩
        simp only [List.mem_cons, List.not_mem_nil, or_false] at ht
        subst ht
        have h' : k = 116 ∨ k = 102 ∨ k = 48 := h
        exact ⟨by simp only [sgnT]; omega, by simp [sgnT], by simp [sgnT]⟩
      · exact ⟨h, by simp⟩
    · exact ⟨trivial, by simp⟩
theorem end_wf (s : Lx) : ∀ t ∈ (endX s).1, KindT t := by
  intro t ht
  cases s with
  | num d =>
    simp only [endX] at ht
    split at ht
    · simp at ht
    · simp only [List.mem_cons, List.not_mem_nil, or_false] at ht
      subst ht
      exact num_kind d
  | _ => simp [endX] at ht
/-! ### Places -/
/-- What may come next, as the reader names it. -/
def plJ : List FrJ → Bool → Nat
  | [], dn => if dn = true then 5 else 0
  | ⟨false, p⟩ :: _, _ => if p = 0 then 1 else if p = 1 then 5 else 0
  | ⟨true, p⟩ :: _, _ => if p = 0 then 3 else if p = 1 then 4 else if p = 2 then 0 else if p = 3 then 5 else 2
def OuterJ : List FrJ → Prop
  | [] => True
  | f :: r => f.p = (if f.map = true then 3 else 1) ∧ OuterJ r
def WfJ (D : Nat) (st : List FrJ) (dn : Bool) : Prop :=
  (dn = true → st = []) ∧ st.length ≤ D ∧ match st with
    | [] => True
    | f :: r => f.p ≤ (if f.map = true then 4 else 2) ∧ OuterJ r
def WfP (D : Nat) : Pj → Prop
  | .bad e => e ≠ 0 ∧ e < 100
  | .at_ st dn => WfJ D st dn
theorem outer_paid (st : List FrJ) (h : match st with | [] => True | f :: r => f.p ≤ (if f.map = true then 4 else 2) ∧ OuterJ r) : OuterJ (paidJ st) := by
  match st, h with
  | [], _ => trivial
  | ⟨false, p⟩ :: r, h => exact ⟨rfl, h.2⟩
  | ⟨true, p⟩ :: r, h => exact ⟨rfl, h.2⟩
theorem paid_len (st : List FrJ) : (paidJ st).length = st.length := by
  match st with
  | [] => rfl
  | ⟨false, p⟩ :: r => rfl
  | ⟨true, p⟩ :: r => rfl
theorem wf_outer {D : Nat} {st : List FrJ} (h : OuterJ st) (hl : st.length ≤ D) (hd : doneJ st = true → st = []) : WfJ D st (doneJ st) := by
  refine ⟨hd, hl, ?_⟩
  match st, h with
  | [], _ => trivial
  | ⟨false, p⟩ :: r, h => exact ⟨by have := h.1; simp at this; simp; omega, h.2⟩
  | ⟨true, p⟩ :: r, h => exact ⟨by have := h.1; simp at this; simp; omega, h.2⟩
theorem done_nil (st : List FrJ) : doneJ st = true → st = [] := by
  match st with
  | [] => exact fun _ => rfl
  | _ :: _ => exact fun h => by cases h
theorem wf_val {D : Nat} {st : List FrJ} {dn : Bool} (h : WfJ D st dn) (e : Ev) : WfP D (valJ st dn e).1 := by
  unfold valJ
  split
  · have hd : doneJ st = doneJ (paidJ st) := by
      match st with
      | [] => rfl
      | ⟨false, _⟩ :: _ => rfl
      | ⟨true, _⟩ :: _ => rfl
    show WfJ D (paidJ st) (doneJ st)
    rw [hd]
    exact wf_outer (outer_paid st h.2.2) (by rw [paid_len]; exact h.2.1) (done_nil _)
  · exact ⟨by decide, by decide⟩
theorem wf_open {D : Nat} {st : List FrJ} {dn : Bool} (h : WfJ D st dn) (m : Bool) (e : Ev) : WfP D (openJ D st dn m e).1 := by
  unfold openJ
  split
  · split
    · exact ⟨by decide, by decide⟩
    · refine ⟨fun hh => (by cases hh), ?_, ?_⟩
      · simp only [List.length_cons, paid_len]; omega
      · exact ⟨by simp, outer_paid st h.2.2⟩
  · exact ⟨by decide, by decide⟩
theorem wf_shut {D : Nat} {st : List FrJ} {dn : Bool} (h : WfJ D st dn) (m : Bool) : WfP D (shutJ m st).1 := by
  match st, h with
  | [], _ => exact ⟨by decide, by decide⟩
  | ⟨b, p⟩ :: r, h =>
    simp only [shutJ]
    by_cases hc : b = m ∧ (p = 0 ∨ p = if m = true then 3 else 1)
    · rw [if_pos hc]
      have h1 := h.2.1
      simp only [List.length_cons] at h1
      exact show WfJ D r (doneJ r) from wf_outer h.2.2.2 (by omega) (done_nil _)
    · rw [if_neg hc]
      exact ⟨by decide, by decide⟩
theorem wf_comma {D : Nat} {st : List FrJ} {dn : Bool} (h : WfJ D st dn) : WfP D (commaJ st).1 := by
  unfold commaJ
  split
  · exact ⟨fun hh => (by cases hh), h.2.1, by simp, h.2.2.2⟩
  · exact ⟨fun hh => (by cases hh), h.2.1, by simp, h.2.2.2⟩
  · exact ⟨by decide, by decide⟩
theorem wf_colon {D : Nat} {st : List FrJ} {dn : Bool} (h : WfJ D st dn) : WfP D (colonJ st).1 := by
  unfold colonJ
  split
  · exact ⟨fun hh => (by cases hh), h.2.1, by simp, h.2.2.2⟩
  · exact ⟨by decide, by decide⟩
theorem wf_str {D : Nat} {st : List FrJ} {dn : Bool} (h : WfJ D st dn) (t : List UInt8) : WfP D (strJ st dn t).1 := by
  have hv := wf_val h (evText t)
  unfold strJ
  split
  · exact ⟨fun hh => (by cases hh), h.2.1, by simp, h.2.2.2⟩
  · exact ⟨fun hh => (by cases hh), h.2.1, by simp, h.2.2.2⟩
  · exact hv
theorem wf_tok {D : Nat} {p : Pj} (h : WfP D p) (t : Tk) : WfP D (tokJ D p t).1 := by
  cases p with
  | bad e => exact h
  | at_ st dn =>
    simp only [tokJ]
    split
    · exact wf_comma h
    split
    · exact wf_colon h
    split
    · exact wf_shut h _
    split
    · exact wf_shut h _
    split
    · exact wf_open h _ _
    split
    · exact wf_open h _ _
    split
    · exact wf_str h _
    repeat' (first | exact wf_val h _ | split)
theorem wf_toks {D : Nat} : ∀ (l : List Tk) {p : Pj}, WfP D p → WfP D (toksJ D p l).1
  | [], _, h => h
  | t :: l, _, h => wf_toks l (wf_tok h t)
/-! ### What is told -/
/-- A part as this reader tells it. -/
def ToldE (e : Ev) : Prop := mayE e ∧ tidyE e = e ∧ EvOk e
theorem told_text (t : List UInt8) (h : t.length ≤ 200) : ToldE (evText t) := by
  refine ⟨⟨by simp [evText], by simp [evText], by simp [evText]⟩, rfl, ⟨by simp [evText], by simp [evText], by simp [evText], ?_⟩⟩
  simp only [evText, ByteArray.size, List.size_toArray]
  omega
theorem told_num (w : Bool × Nat) (h : w.2 < 18446744073709551616) : ToldE (evNum w) := ⟨⟨by simp [evNum], by simp [evNum], by simp [evNum]⟩, rfl, ⟨by simp [evNum], h, by simp [evNum], by simp [evNum, ByteArray.size]⟩⟩
theorem told_bool (b : Bool) : ToldE (evBool b) := ⟨⟨by simp [evBool], by simp [evBool], by simp [evBool]⟩, rfl, ⟨by simp [evBool], by simp [evBool], by simp [evBool], by simp [evBool, ByteArray.size]⟩⟩
theorem told_open (m : Bool) : ToldE (evOpen m) := by
  cases m <;> exact ⟨by decide, rfl, ⟨by simp [evOpen], by simp [evOpen], by simp [evOpen], by simp [evOpen, ByteArray.size]⟩⟩
theorem told_null : ToldE evNull := ⟨by decide, rfl, ⟨by simp [evNull], by simp [evNull], by simp [evNull], by simp [evNull, ByteArray.size]⟩⟩
theorem told_end : ToldE evEnd := ⟨by decide, rfl, ⟨by simp [evEnd], by simp [evEnd], by simp [evEnd], by simp [evEnd, ByteArray.size]⟩⟩
theorem told_shut (m : Bool) (st : List FrJ) : ∀ e ∈ (shutJ m st).2, ToldE e := by
  intro e he
  match st, he with
  | [], he => simp [shutJ] at he
  | ⟨b, p⟩ :: r, he =>
    simp only [shutJ] at he
    by_cases hc : b = m ∧ (p = 0 ∨ p = if m = true then 3 else 1)
    · rw [if_pos hc] at he
      simp only [List.mem_cons, List.not_mem_nil, or_false] at he
      subst he
      exact told_end
    · rw [if_neg hc] at he
      simp at he
theorem told_val {st : List FrJ} {dn : Bool} {e : Ev} (h : ToldE e) : ∀ x ∈ (valJ st dn e).2, ToldE x := by
  intro x hx
  unfold valJ at hx
  split at hx
  · simp only [List.mem_cons, List.not_mem_nil, or_false] at hx
    subst hx
    exact h
  · simp at hx
theorem told_tok (D : Nat) (p : Pj) (t : Tk) (hk : KindT t) : ∀ e ∈ (tokJ D p t).2, ToldE e := by
  intro e he
  cases p with
  | bad _ => simp [tokJ] at he
  | at_ st dn =>
    simp only [tokJ] at he
    split at he
    · unfold commaJ at he; split at he <;> simp at he
    split at he
    · unfold colonJ at he; split at he <;> simp at he
    split at he
    · exact told_shut _ _ e he
    split at he
    · exact told_shut _ _ e he
    split at he
    · unfold openJ at he
      split at he
      · split at he
        · simp at he
        · simp only [List.mem_cons, List.not_mem_nil, or_false] at he; subst he; exact told_open _
      · simp at he
    split at he
    · unfold openJ at he
      split at he
      · split at he
        · simp at he
        · simp only [List.mem_cons, List.not_mem_nil, or_false] at he; subst he; exact told_open _
      · simp at he
    split at he
    · unfold strJ at he
      split at he
      · simp only [List.mem_cons, List.not_mem_nil, or_false] at he; subst he; exact told_text _ hk.2.1
      · simp only [List.mem_cons, List.not_mem_nil, or_false] at he; subst he; exact told_text _ hk.2.1
      · exact told_val (told_text _ hk.2.1) e he
    split at he
    · exact told_val (told_num _ hk.2.2) e he
    split at he
    · exact told_val (told_bool _) e he
    split at he
    · exact told_val (told_bool _) e he
    · exact told_val told_null e he
theorem told_toks (D : Nat) : ∀ (l : List Tk) (p : Pj), (∀ t ∈ l, KindT t) → ∀ e ∈ (toksJ D p l).2, ToldE e
  | [], _, _, e, he => by simp [toksJ] at he
  | t :: l, p, h, e, he => by
    simp only [toksJ, List.mem_append] at he
    rcases he with he | he
    · exact told_tok D p t (h t (by simp)) e he
    · exact told_toks D l _ (fun x hx => h x (by simp [hx])) e he
end Go.Proofs.Ytacngbngljfedaa
/-
  LISTS OF PARTS AS VALUES ([]any) that a call makes and grows; the machine of JinPure over the tokens, one by one.
-/
namespace Go.Proofs.Ytacngbngljfedaa
open Go.RowKit
open Go.Lib
theorem info_any : (Try.prog.info? 20).map (fun i => (i.zero, i.size, i.bytes)) = some (some .nilIface, 1, 16) := by kernel_rfl
/-- A list of parts as values, of blocks that were not there. -/
structure Vls (w0 w : World) (v : Value) (L : List Ev) : Prop where
  win : Win w 20 1 v L.length (L.map valE)
  new : ∀ k ∈ Value.owner v, w0.heap.size ≤ k
theorem Vls.nil_ (w0 w : World) : Vls w0 w (.slice none 0 0) [] := ⟨Win.nil_ _ _ _, fun k hk => by simp [Value.owner] at hk⟩
theorem Vls.keep {w0 w w' : World} {v : Value} {L : List Ev} (h : Vls w0 w v L) (hk : ∀ k, k < w.heap.size → w0.heap.size ≤ k → w'.heap[k]? = w.heap[k]?) : Vls w0 w' v L :=
  ⟨h.win.keep fun k ho => hk k (h.win.lt k ho) (h.new k ho), h.new⟩
theorem Vls.go {w0 w w' : World} {v : Value} {L : List Ev} (h : Vls w0 w v L) (k : Below w.heap.size w w') : Vls w0 w' v L := h.keep fun i hi _ => k.block i hi
theorem Vls.sub {w0 w w' : World} {v : Value} {L : List Ev} {b o n : Nat} (h : Vls w0 w v L) (k : Sub b o n w w') (hb : b < w0.heap.size) : Vls w0 w' v L :=
  h.keep fun i hi h0 => k.step.block i hi (by simp only [List.mem_singleton]; omega)
theorem Vls.old {w0 w1 w : World} {v : Value} {L : List Ev} (h : Vls w0 w v L) (hs : w1.heap.size ≤ w0.heap.size) : Vls w1 w v L := ⟨h.win, fun k hk => Nat.le_trans hs (h.new k hk)⟩
theorem Vls.form {w0 w : World} {v : Value} {L : List Ev} (h : Vls w0 w v L) : ∃ a c, v = .slice a L.length c := by
  obtain ⟨a, c, h, _, _⟩ := h.win.slice_form
  exact ⟨a, c, h⟩
theorem vals_one (L : List Ev) : ∀ u ∈ L.map valE, u.oneCell' = true := by
  intro u hu
  obtain ⟨e, _, rfl⟩ := List.mem_map.1 hu
  unfold valE
  repeat' split
  all_goals rfl
/-- One more, or none. -/
theorem vls_more {w0 w w2 : World} {v v' : Value} {L K : List Ev} {n m : Nat} (h : Vls w0 w v L) (hn : L.length = n) (hm : K.length = m) (hs : w0.heap.size ≤ w.heap.size) (hW : Win w2 20 1 v' (n + m) (L.map valE ++ K.map valE))
    (hO : v'.ownBlock = v.ownBlock ∨ v'.ownBlock = some w.heap.size ∧ w.heap.size < w2.heap.size) : Vls w0 w2 v' (L ++ K) := by
  refine ⟨by rw [List.length_append, List.map_append, hn, hm]; exact hW, fun k hk => ?_⟩
  rcases hO with e | ⟨e, _⟩
  · exact h.new k ((ob_iff _ _).1 (e ▸ (ob_iff _ _).2 hk))
  · have := (ob_iff _ _).2 hk
    rw [e] at this
    cases this
    exact hs
end Go.Proofs.Ytacngbngljfedaa
/-
  CONTRACTS of jsonin.Parser, part A: where its grammar stands in memory; inMap, colon, comma, end, key, begin, value.
-/
namespace Go.Proofs.Ytacngbngljfedaa
open Go.RowKit
open Go.Lib
/-- One more place of a kind. -/
def updM (M : Nat → Bool) (i : Nat) (x : Bool) : Nat → Bool := fun j => if j = i then x else M j
/-- The place behind a container's begin. -/
def plB (m : Bool) : Nat := if m = true then 3 else 1
/-- The cells of a Parser but its lexer's: the depth, the place, how many are open, of which kinds. -/
structure GAt (w : World) (b o D pl k : Nat) (M : Nat → Bool) : Prop where
  room : Room w b o 38
  dep : w.cell? ⟨b, o + 1, none⟩ = some (.int .i64 D)
  plc : w.cell? ⟨b, o + 20, none⟩ = some (.int .i64 pl)
  opn : w.cell? ⟨b, o + 21, none⟩ = some (.int .i64 k)
  maps : ∀ i, i < 16 → w.cell? ⟨b, o + 22 + i, none⟩ = some (.bool (M i))
theorem GAt.fr {w : World} {b o D pl k : Nat} {M : Nat → Bool} (h : GAt w b o D pl k M) (j : Nat) (hj : j < 38) : w.frozen? ⟨b, o + j, none⟩ = false := by
  obtain ⟨c, t, fr, _, _, h3⟩ := h.room
  exact h3 _ (by omega) (by omega)
theorem GAt.frm {w : World} {b o D pl k : Nat} {M : Nat → Bool} (h : GAt w b o D pl k M) (i : Nat) (hi : i < 16) : w.frozen? ⟨b, o + 22 + i, none⟩ = false := by
  have := h.fr (22 + i) (by omega)
  rwa [← Nat.add_assoc] at this
theorem room_set {w : World} {b o n : Nat} (h : Room w b o n) (k : Nat) (v : Value) : Room (w.setCell ⟨b, k, none⟩ v) b o n := h.sub (sub_setCell (b := b) (o := k) (n := 1) w k v (by omega))
theorem GAt.cell_eq {w : World} {b o D pl k : Nat} {M : Nat → Bool} (h : GAt w b o D pl k M) (j : Nat) (hj : j < 38) (v : Value) : (w.setCell ⟨b, o + j, none⟩ v).cell? ⟨b, o + j, none⟩ = some v := by
  obtain ⟨u, hu, _⟩ := h.room.cell (o + j) (by omega) (by omega)
  obtain ⟨c, t, fr, hb, hc⟩ := cell_block hu
  have hlt := (Array.getElem?_eq_some_iff.1 hc).1
  have hh := heap_setCell_at w ⟨b, o + j, none⟩ v c t fr rfl hb
  simp only [World.cell?, hh]
  simp [hlt]
theorem GAt.setPl {w : World} {b o D pl k : Nat} {M : Nat → Bool} (h : GAt w b o D pl k M) (p : Nat) : GAt (w.setCell ⟨b, o + 20, none⟩ (.int .i64 p)) b o D p k M :=
  ⟨room_set h.room _ _, by rw [cell_setCell_ne _ _ _ _ _ (by omega)]; exact h.dep, h.cell_eq 20 (by omega) _, by rw [cell_setCell_ne _ _ _ _ _ (by omega)]; exact h.opn, fun i hi => by rw [cell_setCell_ne _ _ _ _ _ (by omega)]; exact h.maps i hi⟩
theorem GAt.setOpn {w : World} {b o D pl k : Nat} {M : Nat → Bool} (h : GAt w b o D pl k M) (p : Nat) : GAt (w.setCell ⟨b, o + 21, none⟩ (.int .i64 p)) b o D pl p M :=
  ⟨room_set h.room _ _, by rw [cell_setCell_ne _ _ _ _ _ (by omega)]; exact h.dep, by rw [cell_setCell_ne _ _ _ _ _ (by omega)]; exact h.plc, h.cell_eq 21 (by omega) _, fun i hi => by rw [cell_setCell_ne _ _ _ _ _ (by omega)]; exact h.maps i hi⟩
theorem GAt.setMap {w : World} {b o D pl k : Nat} {M : Nat → Bool} (h : GAt w b o D pl k M) (i : Nat) (hi : i < 16) (x : Bool) : GAt (w.setCell ⟨b, o + 22 + i, none⟩ (.bool x)) b o D pl k (updM M i x) := by
  refine ⟨room_set h.room _ _, by rw [cell_setCell_ne _ _ _ _ _ (by omega)]; exact h.dep, by rw [cell_setCell_ne _ _ _ _ _ (by omega)]; exact h.plc, by rw [cell_setCell_ne _ _ _ _ _ (by omega)]; exact h.opn, fun j hj => ?_⟩
  unfold updM
  by_cases e : j = i
  · subst e
    rw [if_pos rfl]
    have := h.cell_eq (22 + j) (by omega) (.bool x)
    rwa [← Nat.add_assoc] at this
  · rw [if_neg e, cell_setCell_ne _ _ _ _ _ (by omega)]
    exact h.maps j hj
theorem GAt.drewN {w : World} {b o D pl k : Nat} {M : Nat → Bool} (h : GAt w b o D pl k M) (q : Nat) : GAt (w.drewN q) b o D pl k M := ⟨h.room, h.dep, h.plc, h.opn, h.maps⟩
theorem GAt.keep {w w' : World} {b o D pl k : Nat} {M : Nat → Bool} (h : GAt w b o D pl k M) (hk : w'.heap[b]? = w.heap[b]?) : GAt w' b o D pl k M :=
  ⟨h.room.keep hk, by simpa only [World.cell?, hk] using h.dep, by simpa only [World.cell?, hk] using h.plc, by simpa only [World.cell?, hk] using h.opn, fun i hi => by simpa only [World.cell?, hk] using h.maps i hi⟩
theorem GAt.below {w w' : World} {b o D pl k : Nat} {M : Nat → Bool} (h : GAt w b o D pl k M) (hb : Below w.heap.size w w') : GAt w' b o D pl k M := h.keep (hb.block b h.room.lt)
/-- Of which kinds the open ones are. -/
def MapJ (M : Nat → Bool) : List FrJ → Prop
  | [] => True
  | f :: r => M r.length = f.map ∧ MapJ M r
theorem MapJ.paid {M : Nat → Bool} {st : List FrJ} (h : MapJ M st) : MapJ M (paidJ st) := by
  match st, h with
  | [], _ => trivial
  | ⟨false, _⟩ :: _, h => exact h
  | ⟨true, _⟩ :: _, h => exact h
theorem MapJ.set {M : Nat → Bool} {x : Bool} {i : Nat} : ∀ {st : List FrJ}, st.length ≤ i → MapJ M st → MapJ (updM M i x) st
  | [], _, _ => trivial
  | f :: r, hl, h => ⟨by simp only [List.length_cons] at hl; show (if r.length = i then x else M r.length) = f.map; rw [if_neg (by omega)]; exact h.1, MapJ.set (by simp only [List.length_cons] at hl; omega) h.2⟩
/-- The reader's grammar at a place that may be. -/
def GJ (w : World) (b o D : Nat) (st : List FrJ) (dn : Bool) : Prop := ∃ M, GAt w b o D (plJ st dn) st.length M ∧ MapJ M st ∧ WfJ D st dn ∧ D ≤ 16
/-- Behind a token. -/
def TookJ (w : World) (b o D : Nat) (p : Pj) (w' : World) : Prop :=
  (∃ w1, Below w.heap.size w w1 ∧ Sub b (o + 20) 18 w1 w') ∧ match p with
    | .bad e => e ≠ 0
    | .at_ st dn => GJ w' b o D st dn
def errP : Pj → Nat
  | .bad e => e
  | .at_ _ _ => 0
set_option maxRecDepth 100000 in
set_option maxHeartbeats 1000000 in
theorem in_map {w : World} {b o D pl k : Nat} {M : Nat → Bool} (h : GAt w b o D pl (k + 1) M) (hk : k < 16) :
    Calls Try.prog 64 #[.pointer (some ⟨b, o, none⟩)] w fun r w' => r = .returned (.bool (M k)) ∧ ∃ q, w' = w.drewN q := by
  have c1 := h.opn
  have f1 := h.fr 21 (by omega)
  have c2 := h.maps k hk
  have f2 := h.frm k hk
  have hs : ((k + 1 : Nat) : Int) - 1 = (k : Int) := by omega
  have hw : IntKind.i64.wrap (k : Int) = (k : Int) := by simp only [IntKind.wrap_i64]; omega
  clear h
  generalize M k = m at *
  go_enter Try.func64, Try.ntmps64
  go_wp2
  go_quiet (fail)
  go_wp2
  go_ret
  exact ⟨rfl, _, rfl⟩
theorem gj_mk {w : World} {b o D : Nat} {st : List FrJ} {dn : Bool} {pl k : Nat} {M : Nat → Bool} (hG : GAt w b o D pl k M) (h1 : pl = plJ st dn) (h2 : k = st.length) (hM : MapJ M st) (hW : WfJ D st dn) (hD : D ≤ 16) : GJ w b o D st dn := by
  subst h1 h2
  exact ⟨M, hG, hM, hW, hD⟩
theorem sub_pl (w : World) (b o : Nat) (v : Value) : Sub b (o + 20) 18 w (w.setCell ⟨b, o + 20, none⟩ v) := sub_setCell w _ v (by omega)
theorem sub_op (w : World) (b o : Nat) (v : Value) : Sub b (o + 20) 18 w (w.setCell ⟨b, o + 21, none⟩ v) := sub_setCell w _ v (by omega)
theorem sub_mp (w : World) (b o i : Nat) (hi : i < 16) (v : Value) : Sub b (o + 20) 18 w (w.setCell ⟨b, o + 22 + i, none⟩ v) := sub_setCell w _ v (by omega)
/-- COLON, by the place. -/
theorem colon_no {w : World} {b o D pl k : Nat} {M : Nat → Bool} (h : GAt w b o D pl k M) (hp : pl ≠ 4) :
    Calls Try.prog 52 #[.pointer (some ⟨b, o, none⟩)] w fun r w' => r = .returned (.int .i64 2) ∧ w' = w := by
  have c1 := h.plc
  have hz : ((pl : Int) != 4) = true := by simp; omega
  clear h hp
  go_enter Try.func52, Try.ntmps52
  go_wp2
  go_ret
  exact ⟨rfl, rfl⟩
theorem colon_yes {w : World} {b o D k : Nat} {M : Nat → Bool} (h : GAt w b o D 4 k M) :
    Calls Try.prog 52 #[.pointer (some ⟨b, o, none⟩)] w fun r w' => r = .returned (.int .i64 0) ∧ w' = w.setCell ⟨b, o + 20, none⟩ (.int .i64 0) := by
  have c1 := h.plc
  have f1 := h.fr 20 (by omega)
  clear h
  go_enter Try.func52, Try.ntmps52
  go_wp2
  go_ret
  exact ⟨rfl, rfl⟩
/-- COMMA. -/
theorem comma_none {w : World} {b o D pl : Nat} {M : Nat → Bool} (h : GAt w b o D pl 0 M) :
    Calls Try.prog 53 #[.pointer (some ⟨b, o, none⟩)] w fun r w' => r = .returned (.int .i64 2) ∧ w' = w := by
  have c1 := h.opn
  clear h
  go_enter Try.func53, Try.ntmps53
  go_wp2
  go_ret
  exact ⟨rfl, rfl⟩
theorem comma_no {w : World} {b o D pl k : Nat} {M : Nat → Bool} (h : GAt w b o D pl (k + 1) M) (hp : pl ≠ 5) :
    Calls Try.prog 53 #[.pointer (some ⟨b, o, none⟩)] w fun r w' => r = .returned (.int .i64 2) ∧ w' = w := by
  have c1 := h.opn
  have c2 := h.plc
  have hz : ((pl : Int) != 5) = true := by simp; omega
  have hk : (((k + 1 : Nat) : Int) == 0) = false := by simp; omega
  clear h hp
  generalize ((k + 1 : Nat) : Int) = K at *
  go_enter Try.func53, Try.ntmps53
  go_wp2
  go_ret
  exact ⟨rfl, rfl⟩
theorem comma_yes {w : World} {b o D k : Nat} {M : Nat → Bool} (h : GAt w b o D 5 (k + 1) M) (hk : k < 16) :
    Calls Try.prog 53 #[.pointer (some ⟨b, o, none⟩)] w fun r w' => r = .returned (.int .i64 0) ∧ Sub b (o + 20) 18 w w' ∧ GAt w' b o D (if M k = true then 2 else 0) (k + 1) M := by
  have c1 := h.opn
  have c2 := h.plc
  have f2 := h.fr 20 (by omega)
  have HM := Lib.hid (in_map (h.setPl 0) hk)
  have H1 := Lib.hid (h.setPl 0)
  have hk : (((k + 1 : Nat) : Int) == 0) = false := by simp; omega
  clear h
  generalize ((k + 1 : Nat) : Int) = K at *
  obtain ⟨m, hm⟩ : ∃ m, M k = m := ⟨_, rfl⟩
  rw [hm] at HM ⊢
  cases m with
  | true =>
    clear hm
    go_enter Try.func53, Try.ntmps53
    go_wp2_with fail
    refine HM.out.mono ?_
    rintro r w1 ⟨rfl, q, hq⟩
    have H2 := Lib.hid (H1.out.drewN q)
    have c3 := (H1.out.drewN q).plc
    have f3 := (H1.out.drewN q).fr 20 (by omega)
    have hs : Sub b (o + 20) 18 w w1 := by rw [hq]; exact (sub_pl w b o _).drewN q
    rw [← hq] at H2 c3 f3
    have HS := Lib.hid hs
    clear hs hq
    go_wp2
    go_ret
    exact ⟨rfl, HS.out.trans (sub_pl _ b o _), H2.out.setPl 2⟩
  | false =>
    clear hm
    go_enter Try.func53, Try.ntmps53
    go_wp2_with fail
    refine HM.out.mono ?_
    rintro r w1 ⟨rfl, q, hq⟩
    have H2 := Lib.hid (H1.out.drewN q)
    have hs : Sub b (o + 20) 18 w w1 := by rw [hq]; exact (sub_pl w b o _).drewN q
    rw [← hq] at H2
    have HS := Lib.hid hs
    clear hs hq
    go_wp2
    go_ret
    exact ⟨rfl, HS.out, H2.out⟩
end Go.Proofs.Ytacngbngljfedaa
/-
  CONTRACTS of jsonin.Parser, part B: end, key, begin, value.
-/
namespace Go.Proofs.Ytacngbngljfedaa
open Go.RowKit
open Go.Lib
theorem shut_none {w : World} {b o D pl : Nat} {M : Nat → Bool} (h : GAt w b o D pl 0 M) (m : Bool) :
    Calls Try.prog 54 #[.pointer (some ⟨b, o, none⟩), .bool m] w fun r w' => r = .returned (.int .i64 2) ∧ w' = w := by
  have c1 := h.opn
  clear h
  go_enter Try.func54, Try.ntmps54
  go_wp2
  go_ret
  exact ⟨rfl, rfl⟩
theorem shut_kind {w : World} {b o D pl k : Nat} {M : Nat → Bool} (h : GAt w b o D pl (k + 1) M) (hk : k < 16) (m : Bool) (hm : M k ≠ m) :
    Calls Try.prog 54 #[.pointer (some ⟨b, o, none⟩), .bool m] w fun r w' => r = .returned (.int .i64 2) ∧ ∃ q, w' = w.drewN q := by
  have c1 := h.opn
  have HM := Lib.hid (in_map h hk)
  have hk : (((k + 1 : Nat) : Int) == 0) = false := by simp; omega
  clear h
  generalize ((k + 1 : Nat) : Int) = K at *
  have hz : (!(M k == m)) = true := by simpa using hm
  clear hm
  generalize M k = m1 at *
  go_enter Try.func54, Try.ntmps54
  go_wp2_with fail
  refine HM.out.mono ?_
  rintro r w1 ⟨rfl, q, rfl⟩
  go_wp2
  go_ret
  exact ⟨rfl, _, rfl⟩
theorem shut_place {w : World} {b o D pl k : Nat} {M : Nat → Bool} (h : GAt w b o D pl (k + 1) M) (hk : k < 16) (m : Bool) (hm : M k = m) (h5 : pl ≠ 5) (h1 : pl ≠ 1) (h3 : pl ≠ 3) :
    Calls Try.prog 54 #[.pointer (some ⟨b, o, none⟩), .bool m] w fun r w' => r = .returned (.int .i64 2) ∧ ∃ q, w' = w.drewN q := by
  have c1 := h.opn
  have c2 : ∀ q, (w.drewN q).cell? ⟨b, o + 20, none⟩ = some (.int .i64 pl) := fun q => h.plc
  have HM := Lib.hid (in_map h hk)
  have hk : (((k + 1 : Nat) : Int) == 0) = false := by simp; omega
  clear h
  generalize ((k + 1 : Nat) : Int) = K at *
  have z5 : ((pl : Int) != 5) = true := by simp; omega
  have z1 : ((pl : Int) != 1) = true := by simp; omega
  have z3 : ((pl : Int) != 3) = true := by simp; omega
  clear h5 h1 h3
  rw [hm] at HM
  have hz : (m != m) = false := by simp
  clear hm
  go_enter Try.func54, Try.ntmps54
  go_wp2_with fail
  refine HM.out.mono ?_
  rintro r w1 ⟨rfl, q, hq⟩
  have c3 := c2 q
  rw [← hq] at c3
  have HQ := Lib.hid hq
  clear hq
  go_wp2
  go_ret
  exact ⟨rfl, _, HQ.out⟩
theorem shut_yes {w : World} {b o D pl k : Nat} {M : Nat → Bool} (h : GAt w b o D pl (k + 1) M) (hk : k < 16) (m : Bool) (hm : M k = m) (hp : pl = 5 ∨ pl = 1 ∨ pl = 3) :
    Calls Try.prog 54 #[.pointer (some ⟨b, o, none⟩), .bool m] w fun r w' => r = .returned (.int .i64 0) ∧ Sub b (o + 20) 18 w w' ∧ GAt w' b o D 5 k M := by
  have c1 := h.opn
  have HM := Lib.hid (in_map h hk)
  have HG := Lib.hid h
  have hs : ((k + 1 : Nat) : Int) - 1 = (k : Int) := by omega
  have hw : Hid (IntKind.i64.wrap (k : Int) = (k : Int)) := Lib.hid (by simp only [IntKind.wrap_i64]; omega)
  have hk : (((k + 1 : Nat) : Int) == 0) = false := by simp; omega
  clear h
  obtain ⟨K, hK⟩ : ∃ K : Int, ((k + 1 : Nat) : Int) = K := ⟨_, rfl⟩
  have HK := Lib.hid hK
  rw [hK] at c1 hs hk
  rw [hm] at HM
  have hz : (m != m) = false := by simp
  have HS0 := Lib.hid hs
  clear hm hK hs
  have key : ∀ P : Nat, pl = P → (P = 5 ∨ P = 1 ∨ P = 3) → Calls Try.prog 54 #[.pointer (some ⟨b, o, none⟩), .bool m] w fun r w' => r = .returned (.int .i64 0) ∧ Sub b (o + 20) 18 w w' ∧ GAt w' b o D 5 k M := by
    intro P hP hp
    subst hP
    rcases hp with rfl | rfl | rfl
    all_goals
      go_enter Try.func54, Try.ntmps54
      go_wp2_with fail
      refine HM.out.mono ?_
      rintro r w1 ⟨rfl, q, hq⟩
      have H1 := HG.out.drewN q
      have hs : Sub b (o + 20) 18 w (w.drewN q) := (Sub.refl _ _ _ _).drewN q
      rw [← hq] at H1 hs
      have HH := Lib.hid H1
      have HS := Lib.hid hs
      have c3 := H1.plc
      have c4 := H1.opn
      have f3 := H1.fr 20 (by omega)
      have f4 := H1.fr 21 (by omega)
      have hs0 := HS0.out
      rw [HK.out] at c4
      clear H1 hs hq
      go_wp2
      go_ret
      exact ⟨rfl, (HS.out.trans (sub_op _ b o _)).trans (sub_pl _ b o _), (HH.out.setOpn k).setPl 5⟩
  exact key pl rfl hp
end Go.Proofs.Ytacngbngljfedaa
/-
  CONTRACTS of jsonin.Parser, part C: key, begin, value.
-/
namespace Go.Proofs.Ytacngbngljfedaa
open Go.RowKit
open Go.Lib
theorem key_yes {w : World} {b o D pl k : Nat} {M : Nat → Bool} (h : GAt w b o D pl k M) (x : ByteArray) :
    Calls Try.prog 55 #[.pointer (some ⟨b, o, none⟩), .iface 108 (.string x)] w fun r w' => r = .returned (.int .i64 0) ∧ w' = w.setCell ⟨b, o + 20, none⟩ (.int .i64 4) := by
  have c1 := h.plc
  have f1 := h.fr 20 (by omega)
  have hA := fun W => is_word (.string x) W
  clear h
  go_enter Try.func55, Try.ntmps55
  go_wp2
  go_ret
  exact ⟨rfl, rfl⟩
theorem not_word_at (v : Value) (hv : v = .nilIface ∨ ∃ d x, v = .iface d x ∧ d ≠ 108) (W : World) : (Instr.typeAssert v 20 108 true).run Try.prog W = .ok (.tuple #[.string ⟨#[]⟩, .bool false]) W := by
  rcases hv with rfl | ⟨d, x, rfl, hd⟩
  · kernel_rfl
  · exact not_word d hd x W
theorem key_no {w : World} {b o : Nat} (v : Value) (hv : v = .nilIface ∨ ∃ d x, v = .iface d x ∧ d ≠ 108) :
    Calls Try.prog 55 #[.pointer (some ⟨b, o, none⟩), v] w fun r w' => r = .returned (.int .i64 2) ∧ w' = w := by
  have hA := fun W => not_word_at v hv W
  clear hv
  go_enter Try.func55, Try.ntmps55
  go_wp2
  go_ret
  exact ⟨rfl, rfl⟩
set_option maxRecDepth 100000 in
set_option maxHeartbeats 1000000 in
theorem begin_deep {w : World} {b o D pl : Nat} {M : Nat → Bool} (h : GAt w b o D pl D M) (m : Bool) (c : Int) :
    Calls Try.prog 65 #[.pointer (some ⟨b, o, none⟩), .agg #[.bool m, .int .i64 c]] w fun r w' => r = .returned (.int .i64 4) ∧ Sub b (o + 20) 18 w w' := by
  have hA := h.keep (w' := w.alloc (.cells #[.bool m, .int .i64 c] 111)) (Below.heap_alloc w _ b h.room.lt)
  have c1 := hA.opn
  have c2 := hA.dep
  have f1 := hA.fr 21 (by omega)
  have f2 := hA.fr 1 (by omega)
  have HB := Lib.hid h.room.lt
  have hz : ((D : Int) == (D : Int)) = true := by simp
  clear h hA
  generalize (D : Int) = K at *
  go_enter Try.func65, Try.ntmps65
  go_wp2
  go_quiet (fail)
  go_wp2
  go_ret
  exact ⟨rfl, (sub_alloc b _ _ w _ HB.out).drewN _⟩
theorem begun_list {w : World} {b o D pl k : Nat} {M : Nat → Bool} (h : GAt w b o D pl k M) (hk : k < 16) :
    GAt (((w.setCell ⟨b, o + 22 + k, none⟩ (.bool false)).setCell ⟨b, o + 21, none⟩ (.int .i64 ((k : Int) + 1))).setCell ⟨b, o + 20, none⟩ (.int .i64 1)) b o D (plB false) (k + 1) (updM M k false) := ((h.setMap k hk false).setOpn (k + 1)).setPl 1
theorem begun_map {w : World} {b o D pl k : Nat} {M : Nat → Bool} (h : GAt w b o D pl k M) (hk : k < 16) :
    GAt ((((w.setCell ⟨b, o + 22 + k, none⟩ (.bool true)).setCell ⟨b, o + 21, none⟩ (.int .i64 ((k : Int) + 1))).setCell ⟨b, o + 20, none⟩ (.int .i64 1)).setCell ⟨b, o + 20, none⟩ (.int .i64 3)) b o D (plB true) (k + 1) (updM M k true) := (((h.setMap k hk true).setOpn (k + 1)).setPl 1).setPl 3
set_option maxRecDepth 100000 in
set_option maxHeartbeats 2000000 in
theorem begin_yes {w : World} {b o D pl k : Nat} {M : Nat → Bool} (h : GAt w b o D pl k M) (hk : k < D) (hD : D ≤ 16) (m : Bool) (c : Int) :
    Calls Try.prog 65 #[.pointer (some ⟨b, o, none⟩), .agg #[.bool m, .int .i64 c]] w fun r w' => r = .returned (.int .i64 0) ∧ Sub b (o + 20) 18 w w' ∧ GAt w' b o D (plB m) (k + 1) (updM M k m) := by
  have hA := h.keep (w' := w.alloc (.cells #[.bool m, .int .i64 c] 111)) (Below.heap_alloc w _ b h.room.lt)
  have c1 := hA.opn
  have c2 := hA.dep
  have f1 := hA.fr 21 (by omega)
  have f2 := hA.fr 1 (by omega)
  have f3 := hA.frm k (by omega)
  have c4 := hA.plc
  have f4 := hA.fr 20 (by omega)
  have c3 := hA.maps k (by omega)
  have HB := Lib.hid h.room.lt
  have HA := Lib.hid hA
  have hne : b ≠ w.heap.size := Nat.ne_of_lt h.room.lt
  have hz : ((k : Int) == (D : Int)) = false := by simp; omega
  have hk2 : k < 16 := by omega
  have HK2 := Lib.hid hk2
  have hk4 : (k : Int) < 16 := by omega
  have hm : m = true ∨ m = false := by cases m <;> simp
  clear h hA hk hD
  generalize M k = u at *
  rcases hm with rfl | rfl
  all_goals
    go_enter Try.func65, Try.ntmps65
    go_wp2
    go_quiet (fail)
    go_wp2
    go_region_with (fail)
    all_goals
      go_wp2
      go_ret
      refine ⟨rfl, ?_, ?_⟩
      · repeat (with_reducible refine Sub.setCell ?_ _ _ (by omega))
        exact (sub_alloc b _ _ w _ HB.out).drewN _
      · first
          | (with_reducible exact begun_map (HA.out.drewN _) HK2.out)
          | (with_reducible exact begun_list (HA.out.drewN _) HK2.out)
theorem is_no_begin (v : Value) (hv : v = .nilIface ∨ ∃ d x, v = .iface d x ∧ d ≠ 111) (W : World) : (Instr.typeAssert v 20 111 true).run Try.prog W = .ok (.tuple #[.agg #[.bool false, .int .i64 0], .bool false]) W := by
  rcases hv with rfl | ⟨d, x, rfl, hd⟩
  · kernel_rfl
  · exact not_begin d hd x W
theorem value_place {w : World} {b o D pl k : Nat} {M : Nat → Bool} (h : GAt w b o D pl k M) (h0 : pl ≠ 0) (h1 : pl ≠ 1) (v : Value) :
    Calls Try.prog 56 #[.pointer (some ⟨b, o, none⟩), v] w fun r w' => r = .returned (.int .i64 2) ∧ w' = w := by
  have c1 := h.plc
  have z0 : ((pl : Int) != 0) = true := by simp; omega
  have z1 : ((pl : Int) != 1) = true := by simp; omega
  clear h h0 h1
  go_enter Try.func56, Try.ntmps56
  go_wp2
  go_ret
  exact ⟨rfl, rfl⟩
set_option maxRecDepth 100000 in
set_option maxHeartbeats 1000000 in
theorem value_plain {w : World} {b o D pl k : Nat} {M : Nat → Bool} (h : GAt w b o D pl k M) (hp : pl = 0 ∨ pl = 1) (v : Value) (hv : v = .nilIface ∨ ∃ d x, v = .iface d x ∧ d ≠ 111) :
    Calls Try.prog 56 #[.pointer (some ⟨b, o, none⟩), v] w fun r w' => r = .returned (.int .i64 0) ∧ Sub b (o + 20) 18 w w' ∧ GAt w' b o D 5 k M := by
  have hT := fun W => is_no_begin v hv W
  clear hv
  have hA := h.keep (w' := w.alloc (.cells #[.bool false, .int .i64 0] 111)) (Below.heap_alloc w _ b h.room.lt)
  have HA := Lib.hid hA
  have HB := Lib.hid h.room.lt
  have c0 := h.plc
  have c1 := hA.plc
  have f1 := hA.fr 20 (by omega)
  clear h hA
  rcases hp with rfl | rfl
  all_goals
    go_enter Try.func56, Try.ntmps56
    go_wp2
    go_ret
    exact ⟨rfl, (sub_alloc b _ _ w _ HB.out).trans (sub_pl _ b o _), HA.out.setPl 5⟩
set_option maxRecDepth 100000 in
set_option maxHeartbeats 1000000 in
theorem value_begin {w : World} {b o D pl k : Nat} {M : Nat → Bool} (h : GAt w b o D pl k M) (hp : pl = 0 ∨ pl = 1) (hk : k ≤ D) (hD : D ≤ 16) (m : Bool) (c : Int) :
    Calls Try.prog 56 #[.pointer (some ⟨b, o, none⟩), .iface 111 (.agg #[.bool m, .int .i64 c])] w fun r w' => r = .returned (.int .i64 (if k = D then 4 else 0)) ∧ Sub b (o + 20) 18 w w' ∧ (k ≠ D → GAt w' b o D (plB m) (k + 1) (updM M k m)) := by
  have hT := fun W => is_begin (.agg #[.bool m, .int .i64 c]) W
  have hA := h.keep (w' := w.alloc (.cells #[.bool m, .int .i64 c] 111)) (Below.heap_alloc w _ b h.room.lt)
  have HB := Lib.hid h.room.lt
  have c0 := h.plc
  have HC : Hid (Calls Try.prog 65 #[.pointer (some ⟨b, o, none⟩), .agg #[.bool m, .int .i64 c]] (w.alloc (.cells #[.bool m, .int .i64 c] 111)) fun r w' => r = .returned (.int .i64 (if k = D then 4 else 0)) ∧ Sub b (o + 20) 18 (w.alloc (.cells #[.bool m, .int .i64 c] 111)) w' ∧ (k ≠ D → GAt w' b o D (plB m) (k + 1) (updM M k m))) := Lib.hid (by
    by_cases e : k = D
    · subst e
      rw [if_pos rfl]
      exact (begin_deep hA m c).mono (by
        rintro r w' ⟨rfl, h1⟩
        exact ⟨rfl, h1, fun e => absurd rfl e⟩)
    · rw [if_neg e]
      exact (begin_yes hA (by omega) hD m c).mono (by
        rintro r w' ⟨rfl, h1, h2⟩
        exact ⟨rfl, h1, fun _ => h2⟩))
  clear h hA hk hD
  obtain ⟨E, hE⟩ : ∃ E : Int, (if k = D then 4 else 0 : Int) = E := ⟨_, rfl⟩
  rw [hE] at HC ⊢
  clear hE
  rcases hp with rfl | rfl
  all_goals
    go_enter Try.func56, Try.ntmps56
    go_wp2_with fail
    refine HC.out.mono ?_
    rintro r w1 ⟨rfl, h1, h2⟩
    have H1 := Lib.hid h1
    have H2 := Lib.hid h2
    clear h1 h2
    go_wp2
    go_ret
    exact ⟨rfl, (sub_alloc b _ _ w _ HB.out).trans H1.out, H2.out⟩
end Go.Proofs.Ytacngbngljfedaa
/-
  CONTRACTS of jsonin.Parser, part D: partOf, take: a token, by the machine of JinPure.
-/
namespace Go.Proofs.Ytacngbngljfedaa
open Go.RowKit
open Go.Lib
/-- The part that a token is; a colon and a comma are none. -/
def partE (t : Tk) : Option Ev :=
  if t.k = 91 then some (evOpen false) else if t.k = 123 then some (evOpen true) else if t.k = 93 ∨ t.k = 125 then some evEnd else if t.k = 115 then some (evText t.t)
  else if t.k = 110 then some (evNum t.n) else if t.k = 116 then some (evBool true) else if t.k = 102 then some (evBool false) else if t.k = 48 then some evNull else none
def partV (t : Tk) : Value := match partE t with
  | some e => valE e
  | none => .nilIface
/-- Parts ahead of an error are none; without one the part that it is. -/
theorem tok_part (D : Nat) (st : List FrJ) (dn : Bool) (t : Tk) (hk : KindT t) : (tokJ D (.at_ st dn) t).2 = if errP (tokJ D (.at_ st dn) t).1 = 0 then (partE t).toList else [] := by
  have hv : ∀ e, (valJ st dn e).2 = if errP (valJ st dn e).1 = 0 then [e] else [] := by
    intro e
    unfold valJ
    split <;> rfl
  have hs : ∀ m, (shutJ m st).2 = if errP (shutJ m st).1 = 0 then [evEnd] else [] := by
    intro m
    match st with
    | [] => rfl
    | ⟨b, p⟩ :: r =>
      by_cases hc : b = m ∧ (p = 0 ∨ p = if m = true then 3 else 1)
      · have e : shutJ m (⟨b, p⟩ :: r) = (.at_ r (doneJ r), [evEnd]) := if_pos hc
        rw [e]; rfl
      · have e : shutJ m (⟨b, p⟩ :: r) = (.bad 2, []) := if_neg hc
        rw [e]; rfl
  have ho : ∀ m e, (openJ D st dn m e).2 = if errP (openJ D st dn m e).1 = 0 then [e] else [] := by
    intro m e
    unfold openJ
    split
    · split <;> rfl
    · rfl
  have hc : (commaJ st).2 = [] := by unfold commaJ; split <;> rfl
  have hl : (colonJ st).2 = [] := by unfold colonJ; split <;> rfl
  have ht : ∀ x, (strJ st dn x).2 = if errP (strJ st dn x).1 = 0 then [evText x] else [] := by
    intro x
    have := hv (evText x)
    unfold strJ
    split
    · rfl
    · rfl
    · exact this
  obtain ⟨k, x, n⟩ := t
  rcases hk.1 with h | h | h | h | h | h | h | h | h | h | h
  all_goals simp only at h; subst h
  · simp [tokJ, partE, hc]
  · simp [tokJ, partE, hl]
  · simp [tokJ, partE, hs]
  · simp [tokJ, partE, hs]
  · simp [tokJ, partE, ho]
  · simp [tokJ, partE, ho]
  · simp [tokJ, partE, ht]
  · simp [tokJ, partE, hv]
  · simp [tokJ, partE, hv]
  · simp [tokJ, partE, hv]
  · simp [tokJ, partE, hv]
set_option maxRecDepth 100000 in
set_option maxHeartbeats 1000000 in
/-- PARTOF. -/
theorem part_of (t : Tk) (hk : KindT t) (w : World) :
    Calls Try.prog 44 #[tkV t] w fun r w' => r = .returned (.tuple #[partV t, .bool (partE t).isSome]) ∧ Below w.heap.size w w' := by
  obtain ⟨k, x, n, v⟩ := t
  have hk1 := hk.1
  clear hk
  simp only [tkV]
  simp only at hk1
  rcases hk1 with rfl | rfl | rfl | rfl | rfl | rfl | rfl | rfl | rfl | rfl | rfl
  all_goals
    go_enter Try.func44, Try.ntmps44
    go_wp2
    go_ret2
    exact ⟨rfl, up_alloc (Below.refl _ _) _⟩
end Go.Proofs.Ytacngbngljfedaa
/-
  CONTRACTS of jsonin.Parser, part E: take: a token, by the machine of JinPure.
-/
namespace Go.Proofs.Ytacngbngljfedaa
open Go.RowKit
open Go.Lib
def OutJ (w : World) (b o D : Nat) : Pj → Prop
  | .bad _ => True
  | .at_ st dn => GJ w b o D st dn
/-- What a step of the grammar does. -/
def DoesJ (w : World) (b o D : Nat) (p : Pj) (r : Ending) (w' : World) : Prop := r = .returned (.int .i64 (errP p)) ∧ Sub b (o + 20) 18 w w' ∧ OutJ w' b o D p
theorem does_bad {w w' : World} {b o D : Nat} (e : Nat) (h : Sub b (o + 20) 18 w w') : DoesJ w b o D (.bad e) (.returned (.int .i64 e)) w' := ⟨rfl, h, trivial⟩
theorem sub_dr (w : World) (b o n q : Nat) : Sub b o n w (w.drewN q) := (Sub.refl _ _ _ _).drewN q
theorem colon_gj {w : World} {b o D : Nat} {st : List FrJ} {dn : Bool} (h : GJ w b o D st dn) :
    Calls Try.prog 52 #[.pointer (some ⟨b, o, none⟩)] w (DoesJ w b o D (colonJ st).1) := by
  obtain ⟨M, hG, hM, hW, hD⟩ := h
  have no : plJ st dn ≠ 4 → (colonJ st).1 = .bad 2 → Calls Try.prog 52 #[.pointer (some ⟨b, o, none⟩)] w (DoesJ w b o D (colonJ st).1) := by
    intro h1 h2
    rw [h2]
    exact (colon_no hG h1).mono (by
      rintro r w' ⟨rfl, rfl⟩
      exact does_bad 2 (Sub.refl _ _ _ _))
  match st, hG, hM, hW, no with
  | [], hG, _, hW, no => exact no (by cases dn <;> simp [plJ]) rfl
  | ⟨false, p⟩ :: r, hG, _, hW, no => exact no (by simp only [plJ]; split <;> (try split) <;> omega) rfl
  | ⟨true, p⟩ :: r, hG, hM, hW, no =>
    by_cases hp : p = 1
    · subst hp
      refine (colon_yes hG).mono ?_
      rintro r w' ⟨rfl, rfl⟩
      exact ⟨rfl, sub_pl _ _ _ _, gj_mk (hG.setPl 0) rfl rfl hM (wf_colon hW) hD⟩
    · refine no (by simp only [plJ]; repeat' split <;> try omega) ?_
      unfold colonJ
      split
      · rename_i h; simp only [List.cons.injEq, FrJ.mk.injEq, true_and] at h; exact absurd h.1 hp
      · rfl
theorem comma_gj {w : World} {b o D : Nat} {st : List FrJ} {dn : Bool} (h : GJ w b o D st dn) :
    Calls Try.prog 53 #[.pointer (some ⟨b, o, none⟩)] w (DoesJ w b o D (commaJ st).1) := by
  obtain ⟨M, hG, hM, hW, hD⟩ := h
  match st, hG, hM, hW with
  | [], hG, _, hW =>
    refine (comma_none hG).mono ?_
    rintro r w' ⟨rfl, rfl⟩
    exact does_bad 2 (Sub.refl _ _ _ _)
  | ⟨m, p⟩ :: r, hG, hM, hW =>
    have hl := hW.2.1
    simp only [List.length_cons] at hl
    by_cases h5 : plJ (⟨m, p⟩ :: r) dn = 5
    · rw [h5] at hG
      refine (comma_yes (k := r.length) hG (by omega)).mono ?_
      rintro r' w' ⟨rfl, hs, hg⟩
      have hm : M r.length = m := hM.1
      rw [hm] at hg
      cases m with
      | false =>
        have hp : p = 1 := by simp only [plJ] at h5; split at h5 <;> (try split at h5) <;> omega
        subst hp
        exact ⟨rfl, hs, gj_mk hg rfl rfl hM (wf_comma hW) hD⟩
      | true =>
        have hp : p = 3 := by simp only [plJ] at h5; repeat' split at h5 <;> try omega
        subst hp
        exact ⟨rfl, hs, gj_mk hg rfl rfl hM (wf_comma hW) hD⟩
    · have hc : (commaJ (⟨m, p⟩ :: r)).1 = .bad 2 := by
        unfold commaJ
        split
        · rename_i h; simp only [List.cons.injEq, FrJ.mk.injEq] at h; obtain ⟨⟨rfl, rfl⟩, _⟩ := h; exact absurd rfl h5
        · rename_i h; simp only [List.cons.injEq, FrJ.mk.injEq] at h; obtain ⟨⟨rfl, rfl⟩, _⟩ := h; exact absurd rfl h5
        · rfl
      rw [hc]
      refine (comma_no (k := r.length) hG h5).mono ?_
      rintro r w' ⟨rfl, rfl⟩
      exact does_bad 2 (Sub.refl _ _ _ _)
theorem pl_done (st : List FrJ) (h : OuterJ st) : 5 = plJ st (doneJ st) := by
  match st, h with
  | [], _ => rfl
  | ⟨false, p⟩ :: r, h => have : p = 1 := h.1; subst this; rfl
  | ⟨true, p⟩ :: r, h => have : p = 3 := h.1; subst this; rfl
theorem pl_paid (st : List FrJ) : 5 = plJ (paidJ st) (doneJ st) := by
  match st with
  | [] => rfl
  | ⟨false, p⟩ :: r => rfl
  | ⟨true, p⟩ :: r => rfl
theorem shut_gj {w : World} {b o D : Nat} {st : List FrJ} {dn : Bool} (h : GJ w b o D st dn) (m : Bool) :
    Calls Try.prog 54 #[.pointer (some ⟨b, o, none⟩), .bool m] w (DoesJ w b o D (shutJ m st).1) := by
  obtain ⟨M, hG, hM, hW, hD⟩ := h
  match st, hG, hM, hW with
  | [], hG, _, hW =>
    refine (shut_none hG m).mono ?_
    rintro r w' ⟨rfl, rfl⟩
    exact does_bad 2 (Sub.refl _ _ _ _)
  | ⟨x, p⟩ :: r, hG, hM, hW =>
    have hl := hW.2.1
    simp only [List.length_cons] at hl
    have hm : M r.length = x := hM.1
    have hw := wf_shut hW m
    by_cases hx : x = m
    · subst hx
      have hpp := hW.2.2.1
      simp only at hpp
      by_cases hc : p = 0 ∨ p = if x = true then 3 else 1
      · have e : shutJ x (⟨x, p⟩ :: r) = (.at_ r (doneJ r), [evEnd]) := if_pos ⟨rfl, hc⟩
        rw [e] at hw ⊢
        refine (shut_yes (k := r.length) hG (by omega) x hm ?_).mono ?_
        · cases x <;> simp only [plJ] at hc ⊢ <;> rcases hc with rfl | rfl <;> simp
        rintro r' w' ⟨rfl, hs, hg⟩
        exact ⟨rfl, hs, gj_mk hg (pl_done r hW.2.2.2) rfl hM.2 hw hD⟩
      · have e : shutJ x (⟨x, p⟩ :: r) = (.bad 2, []) := if_neg (fun h => hc h.2)
        rw [e]
        have hpl : plJ (⟨x, p⟩ :: r) dn ≠ 5 ∧ plJ (⟨x, p⟩ :: r) dn ≠ 1 ∧ plJ (⟨x, p⟩ :: r) dn ≠ 3 := by
          cases x <;> simp at hc hpp <;> simp only [plJ] <;> repeat' (first | omega | split)
        refine (shut_place (k := r.length) hG (by omega) x hm hpl.1 hpl.2.1 hpl.2.2).mono ?_
        rintro r w' ⟨rfl, q, rfl⟩
        exact does_bad 2 (sub_dr _ _ _ _ _)
    · have e : shutJ m (⟨x, p⟩ :: r) = (.bad 2, []) := if_neg (fun h => hx h.1)
      rw [e]
      refine (shut_kind (k := r.length) hG (by omega) m (by rw [hm]; exact hx)).mono ?_
      rintro r w' ⟨rfl, q, rfl⟩
      exact does_bad 2 (sub_dr _ _ _ _ _)
theorem ready_pl {D : Nat} {st : List FrJ} {dn : Bool} (h : WfJ D st dn) : readyJ st dn = true ↔ plJ st dn = 0 ∨ plJ st dn = 1 := by
  match st, h with
  | [], _ => cases dn <;> simp [readyJ, plJ]
  | ⟨false, p⟩ :: r, h =>
    have hp : p ≤ 2 := h.2.2.1
    simp only [readyJ, plJ, Bool.or_eq_true, beq_iff_eq]
    repeat' split
    all_goals omega
  | ⟨true, p⟩ :: r, h =>
    have hp : p ≤ 4 := h.2.2.1
    simp only [readyJ, plJ, beq_iff_eq]
    repeat' split
    all_goals omega
theorem value_gj {w : World} {b o D : Nat} {st : List FrJ} {dn : Bool} (h : GJ w b o D st dn) (e : Ev) (v : Value) (hv : v = .nilIface ∨ ∃ d x, v = .iface d x ∧ d ≠ 111) :
    Calls Try.prog 56 #[.pointer (some ⟨b, o, none⟩), v] w (DoesJ w b o D (valJ st dn e).1) := by
  obtain ⟨M, hG, hM, hW, hD⟩ := h
  have hw := wf_val hW e
  unfold valJ at hw ⊢
  by_cases hr : readyJ st dn = true
  · rw [if_pos hr] at hw ⊢
    refine (value_plain hG ((ready_pl hW).1 hr) v hv).mono ?_
    rintro r w' ⟨rfl, hs, hg⟩
    exact ⟨rfl, hs, gj_mk hg (pl_paid st) (paid_len st).symm hM.paid hw hD⟩
  · rw [if_neg hr]
    have hp : ¬ (plJ st dn = 0 ∨ plJ st dn = 1) := fun h => hr ((ready_pl hW).2 h)
    refine (value_place hG (fun h => hp (.inl h)) (fun h => hp (.inr h)) v).mono ?_
    rintro r w' ⟨rfl, rfl⟩
    exact does_bad 2 (Sub.refl _ _ _ _)
theorem open_gj {w : World} {b o D : Nat} {st : List FrJ} {dn : Bool} (h : GJ w b o D st dn) (m : Bool) (e : Ev) (c : Int) :
    Calls Try.prog 56 #[.pointer (some ⟨b, o, none⟩), .iface 111 (.agg #[.bool m, .int .i64 c])] w (DoesJ w b o D (openJ D st dn m e).1) := by
  obtain ⟨M, hG, hM, hW, hD⟩ := h
  have hw := wf_open hW m e
  have hl := hW.2.1
  unfold openJ at hw ⊢
  by_cases hr : readyJ st dn = true
  · rw [if_pos hr] at hw ⊢
    refine (value_begin hG ((ready_pl hW).1 hr) hl hD m c).mono ?_
    rintro r w' ⟨rfl, hs, hg⟩
    by_cases hd : D ≤ st.length
    · rw [if_pos hd]
      have e2 : st.length = D := by omega
      rw [if_pos e2]
      exact does_bad 4 hs
    · rw [if_neg hd] at hw ⊢
      have e2 : st.length ≠ D := by omega
      rw [if_neg e2]
      refine ⟨rfl, hs, gj_mk (hg e2) ?_ ?_ ⟨?_, ?_⟩ hw hD⟩
      · cases m <;> rfl
      · simp [paid_len]
      · show updM M st.length m (paidJ st).length = m
        simp [updM, paid_len]
      · exact MapJ.set (by rw [paid_len]; exact Nat.le_refl _) hM.paid
  · rw [if_neg hr]
    have hp : ¬ (plJ st dn = 0 ∨ plJ st dn = 1) := fun h => hr ((ready_pl hW).2 h)
    refine (value_place hG (fun h => hp (.inl h)) (fun h => hp (.inr h)) _).mono ?_
    rintro r w' ⟨rfl, rfl⟩
    exact does_bad 2 (Sub.refl _ _ _ _)
end Go.Proofs.Ytacngbngljfedaa
/-
  CONTRACTS of jsonin.Parser, part F: take: a token, by the machine of JinPure.
-/
namespace Go.Proofs.Ytacngbngljfedaa
open Go.RowKit
open Go.Lib
set_option maxRecDepth 100000 in
set_option maxHeartbeats 1000000 in
theorem jtake_colon {w : World} {b o D : Nat} {p : Pj} (v : Value) (h : Calls Try.prog 52 #[.pointer (some ⟨b, o, none⟩)] w (DoesJ w b o D p)) :
    Calls Try.prog 45 #[.pointer (some ⟨b, o, none⟩), .int .u8 58, v] w (DoesJ w b o D p) := by
  have H := Lib.hid h
  clear h
  go_enter Try.func45, Try.ntmps45
  go_wp2_with fail
  refine H.out.mono ?_
  rintro r w1 ⟨rfl, h1⟩
  have H1 := Lib.hid h1
  clear h1
  obtain ⟨E, hE⟩ : ∃ E : Nat, errP p = E := ⟨_, rfl⟩
  have HE := Lib.hid hE
  rw [hE]
  clear hE
  go_wp2
  go_ret
  exact ⟨by rw [HE.out]; rfl, H1.out⟩
set_option maxRecDepth 100000 in
set_option maxHeartbeats 1000000 in
theorem jtake_comma {w : World} {b o D : Nat} {p : Pj} (v : Value) (h : Calls Try.prog 53 #[.pointer (some ⟨b, o, none⟩)] w (DoesJ w b o D p)) :
    Calls Try.prog 45 #[.pointer (some ⟨b, o, none⟩), .int .u8 44, v] w (DoesJ w b o D p) := by
  have H := Lib.hid h
  clear h
  go_enter Try.func45, Try.ntmps45
  go_wp2_with fail
  refine H.out.mono ?_
  rintro r w1 ⟨rfl, h1⟩
  have H1 := Lib.hid h1
  clear h1
  obtain ⟨E, hE⟩ : ∃ E : Nat, errP p = E := ⟨_, rfl⟩
  have HE := Lib.hid hE
  rw [hE]
  clear hE
  go_wp2
  go_ret
  exact ⟨by rw [HE.out]; rfl, H1.out⟩
set_option maxRecDepth 100000 in
set_option maxHeartbeats 1000000 in
theorem jtake_shut {w : World} {b o D : Nat} {p : Pj} (m : Bool) (v : Value) (h : Calls Try.prog 54 #[.pointer (some ⟨b, o, none⟩), .bool m] w (DoesJ w b o D p)) :
    Calls Try.prog 45 #[.pointer (some ⟨b, o, none⟩), .int .u8 (if m = true then 125 else 93), v] w (DoesJ w b o D p) := by
  have H := Lib.hid h
  clear h
  cases m
  all_goals
    simp only [if_true, Bool.false_eq_true, if_false]
    go_enter Try.func45, Try.ntmps45
    go_wp2_with fail
    refine H.out.mono ?_
    rintro r w1 ⟨rfl, h1⟩
    have H1 := Lib.hid h1
    clear h1
    obtain ⟨E, hE⟩ : ∃ E : Nat, errP p = E := ⟨_, rfl⟩
    have HE := Lib.hid hE
    rw [hE]
    clear hE
    go_wp2
    go_ret
    exact ⟨by rw [HE.out]; rfl, H1.out⟩
set_option maxRecDepth 100000 in
set_option maxHeartbeats 1000000 in
theorem jtake_val {w : World} {b o D pl k : Nat} {M : Nat → Bool} {p : Pj} (hG : GAt w b o D pl k M) (h2 : pl ≠ 2) (h3 : pl ≠ 3) (K : Int) (k1 : (K == 58) = false) (k2 : (K == 44) = false) (k3 : (K == 93) = false) (k4 : (K == 125) = false) (v : Value)
    (h : Calls Try.prog 56 #[.pointer (some ⟨b, o, none⟩), v] w (DoesJ w b o D p)) :
    Calls Try.prog 45 #[.pointer (some ⟨b, o, none⟩), .int .u8 K, v] w (DoesJ w b o D p) := by
  have H := Lib.hid h
  have c1 := hG.plc
  have z2 : ((pl : Int) == 2) = false := by simp; omega
  have z3 : ((pl : Int) == 3) = false := by simp; omega
  clear h h2 h3 hG
  go_enter Try.func45, Try.ntmps45
  go_wp2_with fail
  refine H.out.mono ?_
  rintro r w1 ⟨rfl, h1⟩
  have H1 := Lib.hid h1
  clear h1
  obtain ⟨E, hE⟩ : ∃ E : Nat, errP p = E := ⟨_, rfl⟩
  have HE := Lib.hid hE
  rw [hE]
  clear hE
  go_wp2
  go_ret
  exact ⟨by rw [HE.out]; rfl, H1.out⟩
set_option maxRecDepth 100000 in
set_option maxHeartbeats 1000000 in
theorem jtake_key {w : World} {b o D pl k : Nat} {M : Nat → Bool} {p : Pj} (hG : GAt w b o D pl k M) (h2 : pl = 2 ∨ pl = 3) (K : Int) (k1 : (K == 58) = false) (k2 : (K == 44) = false) (k3 : (K == 93) = false) (k4 : (K == 125) = false) (v : Value)
    (h : Calls Try.prog 55 #[.pointer (some ⟨b, o, none⟩), v] w (DoesJ w b o D p)) :
    Calls Try.prog 45 #[.pointer (some ⟨b, o, none⟩), .int .u8 K, v] w (DoesJ w b o D p) := by
  have H := Lib.hid h
  have c1 := hG.plc
  clear h hG
  rcases h2 with rfl | rfl
  all_goals
    go_enter Try.func45, Try.ntmps45
    go_wp2_with fail
    refine H.out.mono ?_
    rintro r w1 ⟨rfl, h1⟩
    have H1 := Lib.hid h1
    clear h1
    obtain ⟨E, hE⟩ : ∃ E : Nat, errP p = E := ⟨_, rfl⟩
    have HE := Lib.hid hE
    rw [hE]
    clear hE
    go_wp2
    go_ret
    exact ⟨by rw [HE.out]; rfl, H1.out⟩
/-- At a key's place. -/
theorem pl_key {D : Nat} {st : List FrJ} {dn : Bool} (h : WfJ D st dn) (hp : plJ st dn = 2 ∨ plJ st dn = 3) : ∃ p r, st = ⟨true, p⟩ :: r ∧ (p = 0 ∨ p = 4) := by
  match st, h with
  | [], _ => cases dn <;> simp [plJ] at hp
  | ⟨false, p⟩ :: r, h =>
    have hq : p ≤ 2 := h.2.2.1
    have hc : p = 0 ∨ p = 1 ∨ p = 2 := by omega
    rcases hc with rfl | rfl | rfl <;> simp [plJ] at hp
  | ⟨true, p⟩ :: r, h =>
    have hq : p ≤ 4 := h.2.2.1
    refine ⟨p, r, rfl, ?_⟩
    have hc : p = 0 ∨ p = 1 ∨ p = 2 ∨ p = 3 ∨ p = 4 := by omega
    rcases hc with rfl | rfl | rfl | rfl | rfl <;> simp [plJ] at hp ⊢
theorem key_bad {D : Nat} {st : List FrJ} {dn : Bool} (h : WfJ D st dn) (hp : plJ st dn = 2 ∨ plJ st dn = 3) : readyJ st dn = false := by
  obtain ⟨p, r, rfl, h0 | h0⟩ := pl_key h hp <;> subst h0 <;> rfl
theorem key_at_no {w : World} {b o D : Nat} (v : Value) (hv : v = .nilIface ∨ ∃ d x, v = .iface d x ∧ d ≠ 108) (p : Pj) (hp : p = .bad 2) :
    Calls Try.prog 55 #[.pointer (some ⟨b, o, none⟩), v] w (DoesJ w b o D p) := by
  subst hp
  refine (key_no v hv).mono ?_
  rintro r w' ⟨rfl, rfl⟩
  exact does_bad 2 (Sub.refl _ _ _ _)
theorem key_at_yes {w : World} {b o D : Nat} {st : List FrJ} {dn : Bool} (h : GJ w b o D st dn) (hp : plJ st dn = 2 ∨ plJ st dn = 3) (t : List UInt8) :
    Calls Try.prog 55 #[.pointer (some ⟨b, o, none⟩), .iface 108 (.string ⟨t.toArray⟩)] w (DoesJ w b o D (strJ st dn t).1) := by
  obtain ⟨M, hG, hM, hW, hD⟩ := h
  have hw := wf_str hW t
  obtain ⟨p, r, rfl, h0 | h0⟩ := pl_key hW hp
  all_goals
    subst h0
    refine (key_yes hG ⟨t.toArray⟩).mono ?_
    rintro r' w' ⟨rfl, rfl⟩
    exact ⟨rfl, sub_pl _ _ _ _, gj_mk (hG.setPl 4) rfl rfl hM hw hD⟩
theorem str_val {st : List FrJ} {dn : Bool} {D : Nat} (h : WfJ D st dn) (hp : ¬ (plJ st dn = 2 ∨ plJ st dn = 3)) (t : List UInt8) : strJ st dn t = valJ st dn (evText t) := by
  unfold strJ
  split
  · exact absurd (.inr rfl) hp
  · exact absurd (.inl rfl) hp
  · rfl
/-- TAKE. -/
theorem jtake_at {w : World} {b o D : Nat} {st : List FrJ} {dn : Bool} (h : GJ w b o D st dn) (t : Tk) (hk : KindT t) :
    Calls Try.prog 45 #[.pointer (some ⟨b, o, none⟩), .int .u8 t.k, partV t] w (DoesJ w b o D (tokJ D (.at_ st dn) t).1) := by
  have h0 := h
  obtain ⟨M, hG, hM, hW, hD⟩ := h0
  have vals : ∀ (e : Ev) (v : Value) (K : Int), (K == 58) = false → (K == 44) = false → (K == 93) = false → (K == 125) = false → (v = .nilIface ∨ ∃ d x, v = .iface d x ∧ d ≠ 111 ∧ d ≠ 108) →
      Calls Try.prog 45 #[.pointer (some ⟨b, o, none⟩), .int .u8 K, v] w (DoesJ w b o D (valJ st dn e).1) := by
    intro e v K k1 k2 k3 k4 hv
    by_cases hp : plJ st dn = 2 ∨ plJ st dn = 3
    · refine jtake_key hG hp K k1 k2 k3 k4 v (key_at_no v ?_ _ ?_)
      · rcases hv with hv | ⟨d, x, hv, _, hd⟩
        · exact .inl hv
        · exact .inr ⟨d, x, hv, hd⟩
      · unfold valJ; rw [if_neg (by rw [key_bad hW hp]; decide)]
    · refine jtake_val hG (fun h => hp (.inl h)) (fun h => hp (.inr h)) K k1 k2 k3 k4 v (value_gj h e v ?_)
      rcases hv with hv | ⟨d, x, hv, hd, _⟩
      · exact .inl hv
      · exact .inr ⟨d, x, hv, hd⟩
  have opens : ∀ (m : Bool) (K : Int), (K == 58) = false → (K == 44) = false → (K == 93) = false → (K == 125) = false →
      Calls Try.prog 45 #[.pointer (some ⟨b, o, none⟩), .int .u8 K, valE (evOpen m)] w (DoesJ w b o D (openJ D st dn m (evOpen m)).1) := by
    intro m K k1 k2 k3 k4
    have hv : valE (evOpen m) = .iface 111 (.agg #[.bool m, .int .i64 (-1)]) := by cases m <;> rfl
    rw [hv]
    by_cases hp : plJ st dn = 2 ∨ plJ st dn = 3
    · refine jtake_key hG hp K k1 k2 k3 k4 _ (key_at_no _ (.inr ⟨111, _, rfl, by decide⟩) _ ?_)
      unfold openJ; rw [if_neg (by rw [key_bad hW hp]; decide)]
    · exact jtake_val hG (fun h => hp (.inl h)) (fun h => hp (.inr h)) K k1 k2 k3 k4 _ (open_gj h m (evOpen m) (-1))
  obtain ⟨k, x, n⟩ := t
  rcases hk.1 with hh | hh | hh | hh | hh | hh | hh | hh | hh | hh | hh
  all_goals simp only at hh; subst hh
  · exact jtake_comma _ (comma_gj h)
  · exact jtake_colon _ (colon_gj h)
  · exact jtake_shut false _ (shut_gj h false)
  · exact jtake_shut true _ (shut_gj h true)
  · exact opens false _ rfl rfl rfl rfl
  · exact opens true _ rfl rfl rfl rfl
  · show Calls _ _ #[_, .int .u8 115, .iface 108 (.string ⟨x.toArray⟩)] w (DoesJ w b o D (strJ st dn x).1)
    by_cases hp : plJ st dn = 2 ∨ plJ st dn = 3
    · exact jtake_key hG hp _ rfl rfl rfl rfl _ (key_at_yes h hp x)
    · rw [str_val hW hp]
      exact jtake_val hG (fun h => hp (.inl h)) (fun h => hp (.inr h)) _ rfl rfl rfl rfl _ (value_gj h _ _ (.inr ⟨108, _, rfl, by decide⟩))
  · exact vals (evNum n) _ _ rfl rfl rfl rfl (.inr ⟨55, _, rfl, by decide, by decide⟩)
  · exact vals (evBool true) _ _ rfl rfl rfl rfl (.inr ⟨4, _, rfl, by decide, by decide⟩)
  · exact vals (evBool false) _ _ rfl rfl rfl rfl (.inr ⟨4, _, rfl, by decide, by decide⟩)
  · exact vals evNull _ _ rfl rfl rfl rfl (.inl rfl)
end Go.Proofs.Ytacngbngljfedaa
/-
  CONTRACTS of jsonin.Parser, part G: read: tokens, one by one.
-/
namespace Go.Proofs.Ytacngbngljfedaa
open Go.RowKit
open Go.Lib
theorem toksJ_append (D : Nat) : ∀ (a b : List Tk) (p : Pj), toksJ D p (a ++ b) = ((toksJ D (toksJ D p a).1 b).1, (toksJ D p a).2 ++ (toksJ D (toksJ D p a).1 b).2)
  | [], b, p => by simp [toksJ]
  | t :: a, b, p => by simp only [List.cons_append, toksJ, toksJ_append D a b, List.append_assoc]
theorem getT_eq {ts : List Tk} {j : Nat} (h : j < ts.length) : ts[j] = getT ts j := by simp [getT, h]
theorem toks_at {D : Nat} {p q : Pj} {ts : List Tk} {L : List Ev} {j : Nat} (hj : j < ts.length) (h : toksJ D p (ts.take j) = (q, L)) :
    toksJ D p (ts.take (j + 1)) = ((tokJ D q (getT ts j)).1, L ++ (tokJ D q (getT ts j)).2) := by
  rw [List.take_add_one, List.getElem?_eq_getElem hj, getT_eq hj, toksJ_append, h]
  simp only [Option.toList_some, toks_one]
theorem toks_stop {D e : Nat} {p : Pj} {ts : List Tk} {L : List Ev} {j : Nat} (h : toksJ D p (ts.take j) = (.bad e, L)) : toksJ D p ts = (.bad e, L) := by
  have := toksJ_append D (ts.take j) (ts.drop j) p
  rw [List.take_append_drop, h, toks_bad] at this
  simpa using this
theorem GJ.below {w w' : World} {b o D : Nat} {st : List FrJ} {dn : Bool} (h : GJ w b o D st dn) (k : Below w.heap.size w w') : GJ w' b o D st dn := by
  obtain ⟨M, hG, r⟩ := h
  exact ⟨M, hG.below k, r⟩
theorem GJ.room {w : World} {b o D : Nat} {st : List FrJ} {dn : Bool} (h : GJ w b o D st dn) : Room w b o 38 := by
  obtain ⟨M, hG, r⟩ := h
  exact hG.room
/-- In the midst of reading tokens. -/
structure RdJ (w0 w wr : World) (b o D : Nat) (st : List FrJ) (dn : Bool) (ts : List Tk) (v : Value) (j : Nat) (u : Value) (st' : List FrJ) (dn' : Bool) (L : List Ev) : Prop where
  toks : Tks w0 wr v ts
  own : ∀ k ∈ Value.owner v, k < w.heap.size
  at_ : toksJ D (.at_ st dn) (ts.take j) = (.at_ st' dn', L)
  vls : Vls w wr u L
  gj : GJ wr b o D st' dn'
  sub : Sub b (o + 20) 18 w wr
  len : L.length ≤ j
/-- The error of a step. -/
def endE (q : Pj) (E : Nat) : Nat := match q with
  | .bad e => e
  | .at_ _ _ => E
/-- What read tells. -/
structure ReadJ (w w' : World) (b o D : Nat) (q : Pj × List Ev) (E : Nat) (r : Ending) : Prop where
  tells : ∃ u, r = .returned (.tuple #[u, .int .i64 (endE q.1 E)]) ∧ Vls w w' u q.2
  sub : Sub b (o + 20) 18 w w'
  out : OutJ w' b o D q.1
theorem partV_form (t : Tk) : partV t = .nilIface ∨ ∃ d x, partV t = .iface d x := by
  unfold partV
  cases partE t with
  | none => exact .inl rfl
  | some e =>
    simp only
    unfold valE
    repeat' split
    all_goals first | exact .inl rfl | exact .inr ⟨_, _, rfl⟩
set_option maxRecDepth 100000 in
set_option maxHeartbeats 4000000 in
theorem read_at {w0 w : World} {b o D : Nat} {st : List FrJ} {dn : Bool} (h : GJ w b o D st dn) {ts : List Tk} {v : Value} (hT : Tks w0 w v ts) (hb : b < w0.heap.size) (hw : w0.heap.size ≤ w.heap.size) (hk : ∀ t ∈ ts, KindT t) (hn : ts.length ≤ 900) (E : Nat) :
    Calls Try.prog 30 #[.pointer (some ⟨b, o, none⟩), v, .int .i64 E] w fun r w' => ReadJ w w' b o D (toksJ D (.at_ st dn) ts) E r := by
  obtain ⟨a, c, rfl⟩ := hT.form
  have H0 : Hid (RdJ w0 w w b o D st dn ts (.slice a ts.length c) 0 (.slice none 0 0) st dn []) := Lib.hid ⟨hT, hT.win.lt, by simp [toksJ], Vls.nil_ _ _, h, Sub.refl _ _ _ _, by simp⟩
  have HB := Lib.hid hb
  have HW := Lib.hid hw
  have HK := Lib.hid hk
  have HN := Lib.hid hn
  clear hT hb hw hk hn h
  obtain ⟨n, hnn⟩ : ∃ n, ts.length = n := ⟨_, rfl⟩
  have HNN := Lib.hid hnn
  rw [hnn] at H0 ⊢
  have hn9 : n ≤ 900 := by have := HN.out; omega
  clear hnn
  go_enter Try.func30, Try.ntmps30
  go_wp2
  go_loopw [8, 10, 11, 12, 13, 16] (fun u _ _ _ _ i wr => ∃ (j : Nat) (st' : List FrJ) (dn' : Bool) (L : List Ev), i = .int .i64 j ∧ j ≤ n ∧ Hid (RdJ w0 w wr b o D st dn ts (.slice a n c) j u st' dn' L)) (fun _ _ _ _ _ i _ => n - (RowKit.intOf i).toNat)
  case atStart => exact ⟨0, st, dn, [], rfl, by omega, H0⟩
  case round =>
    obtain ⟨j, st', dn', L, rfl, hj, HR⟩ := hrel
    clear H0
    by_cases hlt : j < n
    · have hjt : j < ts.length := by rw [HNN.out]; exact hlt
      obtain ⟨g, off, c', hv, x0, x1, x2, x3⟩ := HR.out.toks.cells hjt
      obtain ⟨ua, uc, rfl⟩ := HR.out.vls.form
      have hkt := HK.out _ (List.getElem_mem hjt)
      rw [getT_eq hjt] at hkt
      have hq := toks_at hjt HR.out.at_
      have hp := tok_part D st' dn' (getT ts j) hkt
      have hwq : WfP D (tokJ D (.at_ st' dn') (getT ts j)).1 := wf_tok (by obtain ⟨M, _, _, h, _⟩ := HR.out.gj; exact h) _
      have hP := fun W => part_of (getT ts j) hkt W
      have hTk := fun W (h : GJ W b o D st' dn') => jtake_at h (getT ts j) hkt
      have hL1 := HR.out.len
      have hL2 : L.length ≤ 900 := by have := HN.out; omega
      obtain ⟨m, hm⟩ : ∃ m, L.length = m := ⟨_, rfl⟩
      have hform := partV_form (getT ts j)
      generalize getT ts j = t at *
      generalize hV : partV t = V at *
      obtain ⟨e, hS⟩ : ∃ e, partE t = e := ⟨_, rfl⟩
      rw [hS] at hP hp
      have hVe : ∀ x, e = some x → V = valE x := by
        rintro x rfl
        rw [← hV]
        unfold partV
        rw [hS]
      generalize hQ : tokJ D (.at_ st' dn') t = Q at *
      obtain ⟨q, qs⟩ := Q
      simp only at hq hp hwq hTk
      simp only [Value.slice.injEq] at hv
      obtain ⟨rfl, hvn, rfl⟩ := hv
      clear hvn
      unfold tkV at hP
      obtain ⟨k, tx, n1, n2⟩ := t
      simp only at x0 x1 x2 x3 hP hTk
      generalize (k : Int) = kk at *
      generalize (⟨tx.toArray⟩ : ByteArray) = X at *
      generalize (n2 : Int) = nn2 at *
      have HP := Lib.hid hP
      have HT := Lib.hid hTk
      have HQ := Lib.hid hq
      have HPP := Lib.hid hp
      have HVE := Lib.hid hVe
      have HL := Lib.hid (And.intro hm (And.intro hL1 hL2))
      rw [hm]
      clear hkt hq hp hP hTk hQ hV hS hVe hL1 hL2 hjt hm
      go_wp2_with fail
      refine (HP.out _).mono ?_
      rintro r w1 ⟨rfl, b1⟩
      have hb0 := up_trans (up_alloc (Below.refl _ wr) (.cells #[.int .u8 kk, .string X, .bool n1, .int .u64 nn2] 103)) b1
      have c0 := ((blk_new wr #[.int .u8 kk, .string X, .bool n1, .int .u64 nn2] 103).go b1).cell 0
      have hG1 := HR.out.gj.below hb0
      have HB1 := Lib.hid hb0
      have HG1 := Lib.hid hG1
      simp only [List.getElem?_toArray, List.getElem?_cons_zero] at c0
      clear b1 hb0 hG1
      go_wp2_with fail
      refine (HT.out _ HG1.out).mono ?_
      rintro r w2 ⟨rfl, hs2, ho2⟩
      have HS2 := Lib.hid hs2
      have HO2 := Lib.hid ho2
      clear hs2 ho2
      have hbw : b < w.heap.size := Nat.lt_of_lt_of_le HB.out HW.out
      have hbr : b < wr.heap.size := Nat.lt_of_lt_of_le hbw HR.out.sub.step.size
      have hsub : Sub b (o + 20) 18 w w2 := (HR.out.sub.trans (sub_of_below HB1.out hbr _ _)).trans HS2.out
      have hvls : Vls w w2 (.slice ua m uc) L := (HL.out.1 ▸ (HR.out.vls.go HB1.out)).sub HS2.out hbw
      have htks : Tks w0 w2 (.slice (some ⟨g, off, none⟩) n c) ts := (HR.out.toks.go HB1.out).sub HS2.out HB.out
      have HS3 := Lib.hid (And.intro hsub (And.intro hvls (And.intro htks (And.intro hbw hbr))))
      clear hsub hvls htks hbw hbr
      cases q with
      | bad x =>
        have hz : ((x : Int) != 0) = true := by have := hwq.1; simp; omega
        have HF : Hid (ReadJ w w2 b o D (toksJ D (.at_ st dn) ts) E (.returned (.tuple #[.slice ua m uc, .int .i64 x]))) := Lib.hid (by
          have h1 := HQ.out
          have h2 := HPP.out
          rw [if_neg (by exact hwq.1)] at h2
          rw [h2, List.append_nil] at h1
          rw [toks_stop h1]
          exact ⟨⟨_, rfl, HS3.out.2.1⟩, HS3.out.1, trivial⟩)
        simp only [errP]
        clear hwq
        go_wp2
        go_ret2
        exact HF.out
      | at_ st2 dn2 =>
        have h2 : qs = e.toList := by simpa [errP] using HPP.out
        subst h2
        simp only [errP]
        cases e with
        | none =>
          have HN1 : Hid (RdJ w0 w w2 b o D st dn ts (.slice (some ⟨g, off, none⟩) n c) (j + 1) (.slice ua m uc) st2 dn2 L) := Lib.hid ⟨HS3.out.2.2.1, HR.out.own, by rw [HQ.out]; simp, HS3.out.2.1, HO2.out, HS3.out.1, by have := HL.out.2.1; omega⟩
          simp only [Option.isSome]
          clear hwq
          go_wp2
          go_roundw
          case rel => exact ⟨j + 1, st2, dn2, L, rfl, hlt, HN1⟩
          case measure => simp [RowKit.intOf]; omega
        | some x =>
          simp only [Option.isSome]
          have hVx := HVE.out x rfl
          have hm9 : m ≤ 900 := by have := HL.out; omega
          have HNX : Hid (∀ v3 w4, Win w4 20 1 v3 (m + 1) (L.map valE ++ [V]) → (w2.alloc (.cells #[V] 20)).grownBy w4 (Value.slice ua m uc).ownBlock → (v3.ownBlock = (Value.slice ua m uc).ownBlock ∨ v3.ownBlock = some (w2.heap.size + 1) ∧ w2.heap.size + 1 < w4.heap.size) →
              RdJ w0 w w4 b o D st dn ts (.slice (some ⟨g, off, none⟩) n c) (j + 1) v3 st2 dn2 (L ++ [x])) := Lib.hid (by
            intro v3 w4 hW3 hG3 hO3
            have hbw := HS3.out.2.2.2.1
            have s2 : w.heap.size ≤ w2.heap.size := HS3.out.1.step.size
            have s3 : w2.heap.size ≤ (w2.alloc (.cells #[V] 20)).heap.size := by simp
            have hrow : ∀ k, (Value.slice ua m uc).ownBlock = some k → w.heap.size ≤ k := fun k hk => HS3.out.2.1.new k ((ob_iff _ _).1 hk)
            have ha : Sub b (o + 20) 18 w (w2.alloc (.cells #[V] 20)) := HS3.out.1.alloc _ hbw
            have hblk : ∀ k, k < w.heap.size → w4.heap[k]? = w2.heap[k]? := fun k hk => (hG3.block k (by omega) (fun e => by have := hrow k e.symm; omega)).trans (Below.heap_alloc w2 _ k (by omega))
            refine ⟨⟨HS3.out.2.2.1.win.keep fun k ho => hblk k (HR.out.own k ho), HS3.out.2.2.1.new⟩, HR.out.own, by rw [HQ.out]; rfl, ?_, ?_, sub_grown ha hG3 hbw hrow, ?_⟩
            · exact vls_more (w := w2.alloc (.cells #[V] 20)) (K := [x]) (HS3.out.2.1.keep fun i hi _ => Below.heap_alloc w2 _ i hi) HL.out.1 rfl (Nat.le_trans s2 s3) (by rw [hVx] at hW3; exact hW3) (by simpa using hO3)
            · obtain ⟨M, hG, r⟩ := HO2.out
              exact ⟨M, hG.keep (hblk b hbw), r⟩
            · have := HL.out.2.1
              simp only [List.length_append, List.length_cons, List.length_nil]; omega)
          have HWV : Hid (Win (w2.alloc (.cells #[V] 20)) 20 1 (.slice ua m uc) m (L.map valE)) := Lib.hid (by
            have := HS3.out.2.1.win.alloc (.cells #[V] 20)
            rwa [HL.out.1] at this)
          clear hwq hVx
          rcases hform with rfl | ⟨d, z, rfl⟩
          all_goals
            go_wp2_with (at_builtin; refine wpList_append_win rfl _ _ _ rfl Try.underlying49 info_any rfl rfl HWV.out _ rfl 1 _ (src_one _ Try.underlying49 _ _ _ rfl ?e3) ?e1 ?e2 ?_)
            case e1 => unfold maxLen; omega
            case e2 => omega
            case e3 => rfl
            intro v3 w4 hW3 hG3 hO3
            have HN1 := Lib.hid (HNX.out v3 w4 hW3.out hG3.out hO3.out)
            clear hW3 hG3 hO3
            go_wp2
            go_roundw
            case rel => exact ⟨j + 1, st2, dn2, L ++ [x], rfl, hlt, HN1⟩
            case measure => simp [RowKit.intOf]; omega
    · obtain rfl : j = n := by omega
      have HF : Hid (ReadJ w wr b o D (toksJ D (.at_ st dn) ts) E (.returned (.tuple #[_, .int .i64 E]))) := Lib.hid (by
        have h1 := HR.out.at_
        rw [List.take_of_length_le (by rw [HNN.out]; exact Nat.le_refl _)] at h1
        rw [h1]
        exact ⟨⟨_, rfl, HR.out.vls⟩, HR.out.sub, HR.out.gj⟩)
      go_wp2
      go_ret2
      exact HF.out
end Go.Proofs.Ytacngbngljfedaa
/-
  CONTRACTS of jsonin.Parser, part H: a Parser as a whole; had, told, Done, New.
-/
namespace Go.Proofs.Ytacngbngljfedaa
open Go.RowKit
open Go.Lib
theorem GJ.sub {w w' : World} {b o D o' n : Nat} {st : List FrJ} {dn : Bool} (h : GJ w b o D st dn) (k : Sub b o' n w w') (h1 : o + 2 ≤ o') (h2 : o' + n ≤ o + 20) : GJ w' b o D st dn := by
  obtain ⟨M, hG, r⟩ := h
  exact ⟨M, ⟨hG.room.sub k, (k.cell _ (by omega)).trans hG.dep, (k.cell _ (by omega)).trans hG.plc, (k.cell _ (by omega)).trans hG.opn, fun i hi => (k.cell _ (by omega)).trans (hG.maps i hi)⟩, r⟩
/-- The cells of a Parser at its beginning, or behind an error. -/
abbrev paZ (e D : Int) : List Value := [.int .i64 e, .int .i64 D] ++ lxZ 0 ++ [.int .i64 0, .int .i64 0, .bool false, .bool false, .bool false, .bool false, .bool false, .bool false, .bool false, .bool false, .bool false, .bool false, .bool false, .bool false, .bool false, .bool false, .bool false, .bool false]
/-- A Parser. -/
def PAt (w : World) (b o D : Nat) (s : Js) : Prop := (1 ≤ D ∧ D ≤ 16) ∧ match s.p with
  | .bad e => e ≠ 0 ∧ At w b o (paZ e D)
  | .at_ st dn => w.cell? ⟨b, o, none⟩ = some (.int .i64 0) ∧ LAt w b (o + 2) s.lx ∧ GJ w b o D st dn ∧ badX s.lx = none ∧ WfX s.lx
def j0 : Js := ⟨.idle, .at_ [] false⟩
theorem pat_zero {w : World} {b o D : Nat} (hD : 1 ≤ D ∧ D ≤ 16) (h : At w b o (paZ 0 D)) : PAt w b o D j0 := by
  have hl : At w b (o + 2) (lxZ 0) := At.right (vs := [.int .i64 0, .int .i64 D]) (us := lxZ 0) (At.left (vs := [.int .i64 0, .int .i64 D] ++ lxZ 0) h)
  refine ⟨hD, (h 0 _ rfl).1, hl, ⟨fun _ => false, ⟨h.room (by simp), (h 1 _ rfl).1, (h 20 _ rfl).1, (h 21 _ rfl).1, fun i hi => ?_⟩, trivial, ⟨fun h => (by cases h), by simp, trivial⟩, hD.2⟩, rfl, trivial⟩
  have h3 : ∀ i, i < 16 → (paZ 0 D)[22 + i]? = some (.bool false) := by
    intro i hi
    have hc : i = 0 ∨ i = 1 ∨ i = 2 ∨ i = 3 ∨ i = 4 ∨ i = 5 ∨ i = 6 ∨ i = 7 ∨ i = 8 ∨ i = 9 ∨ i = 10 ∨ i = 11 ∨ i = 12 ∨ i = 13 ∨ i = 14 ∨ i = 15 := by omega
    rcases hc with rfl | rfl | rfl | rfl | rfl | rfl | rfl | rfl | rfl | rfl | rfl | rfl | rfl | rfl | rfl | rfl <;> rfl
  have := (h (22 + i) _ (h3 i hi)).1
  rwa [← Nat.add_assoc] at this
theorem PAt.room {w : World} {b o D : Nat} {s : Js} (h : PAt w b o D s) : Room w b o 38 := by
  obtain ⟨hD, h⟩ := h
  revert h
  cases s.p with
  | bad e => exact fun h => h.2.room (by simp)
  | at_ st dn => exact fun h => h.2.2.1.room
theorem PAt.lt {w : World} {b o D : Nat} {s : Js} (h : PAt w b o D s) : b < w.heap.size := h.room.lt
theorem PAt.keep {w w' : World} {b o D : Nat} {s : Js} (h : PAt w b o D s) (hk : w'.heap[b]? = w.heap[b]?) : PAt w' b o D s := by
  obtain ⟨hD, h⟩ := h
  refine ⟨hD, ?_⟩
  revert h
  cases s.p with
  | bad e => exact fun h => ⟨h.1, h.2.keep hk⟩
  | at_ st dn =>
    rintro ⟨h1, h2, ⟨M, hG, r⟩, h4⟩
    exact ⟨by simpa only [World.cell?, hk] using h1, h2.keep hk, ⟨M, hG.keep hk, r⟩, h4⟩
theorem PAt.below {w w' : World} {b o D : Nat} {s : Js} (h : PAt w b o D s) (hb : Below w.heap.size w w') : PAt w' b o D s := h.keep (hb.block b h.lt)
/-- The first two cells. -/
theorem PAt.head {w : World} {b o D : Nat} {s : Js} (h : PAt w b o D s) : w.cell? ⟨b, o, none⟩ = some (.int .i64 (errP s.p)) ∧ w.cell? ⟨b, o + 1, none⟩ = some (.int .i64 D) := by
  obtain ⟨hD, h⟩ := h
  revert h
  cases s.p with
  | bad e => exact fun h => ⟨(h.2 0 _ rfl).1, (h.2 1 _ rfl).1⟩
  | at_ st dn =>
    rintro ⟨h1, h2, ⟨M, hG, r⟩, h4⟩
    exact ⟨h1, hG.dep⟩
set_option maxRecDepth 100000 in
set_option maxHeartbeats 1000000 in
theorem jhad_at {w : World} {b o D : Nat} {s : Js} (h : PAt w b o D s) :
    Calls Try.prog 29 #[.pointer (some ⟨b, o, none⟩)] w fun r w' => r = .returned (.int .i64 (errP s.p)) ∧ w = w' := by
  obtain ⟨c0, c1⟩ := h.head
  have hz : ((D : Int) == 0) = false := by have := h.1; simp; omega
  clear h
  generalize (errP s.p : Int) = e at *
  go_enter Try.func29, Try.ntmps29
  go_wp2
  go_ret
  exact ⟨rfl, rfl⟩
theorem jhad_nil (w : World) : Calls Try.prog 29 #[.pointer none] w fun r w' => r = .returned (.int .i64 14) ∧ w' = w := by
  go_enter Try.func29, Try.ntmps29
  go_wp2
  go_ret
  exact ⟨rfl, rfl⟩
set_option maxRecDepth 100000 in
set_option maxHeartbeats 1000000 in
theorem jtold_ok (p v : Value) (w : World) : Calls Try.prog 32 #[p, v, .int .i64 0] w fun r w' => r = .returned (.tuple #[v, .int .i64 0]) ∧ w' = w := by
  go_enter Try.func32, Try.ntmps32
  go_wp2
  go_ret2
  exact ⟨rfl, rfl⟩
set_option maxRecDepth 100000 in
set_option maxHeartbeats 2000000 in
theorem jtold_err {w : World} {b o D : Nat} (h : Room w b o 38) (hc : w.cell? ⟨b, o + 1, none⟩ = some (.int .i64 D)) (v : Value) (e : Nat) (he : e ≠ 0) :
    Calls Try.prog 32 #[.pointer (some ⟨b, o, none⟩), v, .int .i64 e] w fun r w' => r = .returned (.tuple #[v, .int .i64 e]) ∧ At w' b o (paZ e D) ∧ Sub b o 38 w w' := by
  have hz : ((e : Int) != 0) = true := by simp; omega
  have HT := Lib.hid h
  clear h he
  go_enter Try.func32, Try.ntmps32
  go_wp2_with (refine wpList_store_room rfl 84 _ _ rfl b o (paZ e D) rfl rfl HT.out (by kernel_rfl) (by kernel_rfl) ?_)
  intro w1 HP
  go_wp2
  go_ret2
  exact ⟨rfl, HP.out⟩
set_option maxRecDepth 100000 in
set_option maxHeartbeats 1000000 in
theorem jdone_at {w : World} {b o D : Nat} {st : List FrJ} {dn : Bool} (h : GJ w b o D st dn) :
    Calls Try.prog 36 #[.pointer (some ⟨b, o, none⟩)] w fun r w' => r = .returned (.bool dn) ∧ w' = w := by
  obtain ⟨M, hG, hM, hW, hD⟩ := h
  have c1 := hG.opn
  have c2 := hG.plc
  match st, hW with
  | [], hW =>
    have c1' : w.cell? ⟨b, o + 21, none⟩ = some (.int .i64 0) := c1
    clear hG hM hW hD c1
    cases dn
    · have c2' : w.cell? ⟨b, o + 20, none⟩ = some (.int .i64 0) := c2
      clear c2
      go_enter Try.func36, Try.ntmps36
      go_wp2
      go_ret
      exact ⟨rfl, rfl⟩
    · have c2' : w.cell? ⟨b, o + 20, none⟩ = some (.int .i64 5) := c2
      clear c2
      go_enter Try.func36, Try.ntmps36
      go_wp2
      go_ret
      exact ⟨rfl, rfl⟩
  | f :: r, hW =>
    have hdn : dn = false := by
      cases dn
      · rfl
      · exact absurd (hW.1 rfl) (by simp)
    subst hdn
    have hz : (((f :: r).length : Int) == 0) = false := by simp; omega
    clear hG hM hW hD c2
    generalize ((f :: r).length : Int) = K at *
    go_enter Try.func36, Try.ntmps36
    go_wp2
    go_ret
    exact ⟨rfl, rfl⟩
set_option maxRecDepth 100000 in
set_option maxHeartbeats 1000000 in
theorem jnew_any (D : Nat) (hD : 1 ≤ D ∧ D ≤ 16) (w : World) :
    Calls Try.prog 16 #[.int .i64 D] w fun r w' => r = .returned (.pointer (some ⟨w.heap.size, 0, none⟩)) ∧ PAt w' w.heap.size 0 D j0 ∧ Below w.heap.size w w' := by
  have h1 : ((D : Int) < 1) = False := by simp; omega
  have h2 : ((16 : Int) < (D : Int)) = False := by simp; omega
  have HP : Hid (PAt (w.alloc (.cells (paZ 0 D).toArray 84)) w.heap.size 0 D j0) := Lib.hid (pat_zero hD (at_block (heap_alloc_new w _)))
  clear hD
  go_enter Try.func16, Try.ntmps16
  go_wp2
  go_ret
  exact ⟨rfl, HP.out, up_alloc (Below.refl _ _) _⟩
end Go.Proofs.Ytacngbngljfedaa
/-
  CONTRACTS of jsonin.Parser, part I: Step, End.
-/
namespace Go.Proofs.Ytacngbngljfedaa
open Go.RowKit
open Go.Lib
/-- What Step tells. -/
structure StepR (w w' : World) (b o D : Nat) (q : Js × List Ev) (r : Ending) : Prop where
  tells : ∃ u, r = .returned (.tuple #[u, .int .i64 (errP q.1.p)]) ∧ Vls w w' u q.2
  at_ : PAt w' b o D q.1
  sub : Sub b o 38 w w'
theorem step_cases (D : Nat) (lx : Lx) (st : List FrJ) (dn : Bool) (hW : WfJ D st dn) (hl : ∀ e, lx = .bad e → e ≠ 0) (y : UInt8) :
    (endE (toksJ D (.at_ st dn) (stepX lx y).2).1 (errX (stepX lx y).1) = 0 → badX (stepX lx y).1 = none ∧ stepJ D ⟨lx, .at_ st dn⟩ y = (⟨(stepX lx y).1, (toksJ D (.at_ st dn) (stepX lx y).2).1⟩, (toksJ D (.at_ st dn) (stepX lx y).2).2) ∧ ∃ st' dn', (toksJ D (.at_ st dn) (stepX lx y).2).1 = .at_ st' dn') ∧
    (endE (toksJ D (.at_ st dn) (stepX lx y).2).1 (errX (stepX lx y).1) ≠ 0 → (stepJ D ⟨lx, .at_ st dn⟩ y).2 = (toksJ D (.at_ st dn) (stepX lx y).2).2 ∧ (stepJ D ⟨lx, .at_ st dn⟩ y).1.p = .bad (endE (toksJ D (.at_ st dn) (stepX lx y).2).1 (errX (stepX lx y).1))) := by
  have hb := bare_step lx y
  have hne : ∀ e, (stepX lx y).1 = .bad e → e ≠ 0 := by
    intro e he
    by_cases hlb : badX lx = none
    · exact step_err hlb y (by rw [he]; rfl)
    · cases lx with
      | bad e' =>
        simp only [stepX, Lx.bad.injEq] at he
        subst he
        exact hl _ rfl
      | _ => exact absurd rfl hlb
  simp only [stepJ]
  generalize stepX lx y = X at hb hne
  obtain ⟨x1, x2⟩ := X
  have wf := fun q (h : (toksJ D (.at_ st dn) x2).1 = q) => show WfP D q from h ▸ wf_toks x2 (p := .at_ st dn) hW
  cases x1 with
  | bad e =>
    have he := hne e rfl
    obtain rfl : x2 = [] := by
      have := hb (by simpa [errX] using he)
      exact (Prod.mk.inj this).2
    simp only [toksJ, endE, errX, badX]
    exact ⟨fun h => absurd h he, fun _ => ⟨trivial, trivial⟩⟩
  | idle | str _ _ | num _ | word _ _ =>
    simp only [badX, errX]
    cases hq : (toksJ D (.at_ st dn) x2).1 with
    | bad e =>
      have := (wf _ hq).1
      simp only [endE]
      exact ⟨fun h => absurd h this, fun _ => ⟨trivial, trivial⟩⟩
    | at_ st' dn' =>
      simp only [endE]
      exact ⟨fun _ => ⟨trivial, trivial, _, _, rfl⟩, fun h => absurd rfl h⟩
theorem toks_len (s : Lx) (y : UInt8) : (stepX s y).2.length ≤ 900 := by
  have start : ∀ x, (startX x).2.length ≤ 1 := by
    intro x
    unfold startX
    repeat' split
    all_goals simp
  have h := start y.toNat
  match s with
  | .bad e => simp [stepX]
  | .idle => simp only [stepX]; omega
  | .str s t => simp only [stepX]; repeat' split
                all_goals simp
  | .num d =>
    simp only [stepX]
    repeat' split
    all_goals first | simp | skip
    generalize startX y.toNat = q at *
    obtain ⟨q1, q2⟩ := q
    cases q1 <;> simp [tellX] at h ⊢ <;> omega
  | .word k [] => simp [stepX]
  | .word k (x :: q) =>
    simp only [stepX]
    repeat' split
    all_goals simp
theorem PAt.errX {w : World} {b o D : Nat} {lx : Lx} {st : List FrJ} {dn : Bool} (h : PAt w b o D ⟨lx, .at_ st dn⟩) : Go.Proofs.Ytacngbngljfedaa.errX lx = 0 := by
  have := h.2.2.2.2.1
  cases lx with
  | bad e => cases this
  | _ => rfl
set_option maxRecDepth 100000 in
set_option maxHeartbeats 2000000 in
theorem jstep_good {w : World} {b o D : Nat} {lx : Lx} {st : List FrJ} {dn : Bool} (h : PAt w b o D ⟨lx, .at_ st dn⟩) (y : UInt8) :
    Calls Try.prog 17 #[.pointer (some ⟨b, o, none⟩), .int .u8 y.toNat] w fun r w' => StepR w w' b o D (stepJ D ⟨lx, .at_ st dn⟩ y) r := by
  have h0 := h
  obtain ⟨hD, c0, hL, hG, hb, hW⟩ := h0
  have hbl := h.lt
  obtain ⟨M, hg, hM, hWJ, hD2⟩ := hG
  have hc := step_cases D lx st dn hWJ (fun e he => by rw [he] at hb; cases hb) y
  have hS := lstep_at hL y
  have hw := step_wf lx hW y
  have hln := toks_len lx y
  have HAD := Lib.hid (jhad_at h)
  generalize stepX lx y = X at *
  generalize stepJ D ⟨lx, .at_ st dn⟩ y = R at *
  obtain ⟨x1, x2⟩ := X
  simp only at hc hS hw hln
  generalize hE : Go.Proofs.Ytacngbngljfedaa.errX x1 = E at *
  have HRD : Hid (∀ w1 v, Tks w w1 v x2 → Sub b (o + 2) 18 w w1 → Calls Try.prog 30 #[.pointer (some ⟨b, o, none⟩), v, .int .i64 E] w1 fun r w' => ReadJ w1 w' b o D (toksJ D (.at_ st dn) x2) E r) := Lib.hid (fun w1 v hT hs =>
    read_at (GJ.sub ⟨M, hg, hM, hWJ, hD2⟩ hs (by omega) (by omega)) hT hbl hs.step.size hw.2 hln E)
  generalize toksJ D (.at_ st dn) x2 = Q at *
  obtain ⟨q1, q2⟩ := Q
  simp only at hc
  obtain ⟨F, hF⟩ : ∃ F, endE q1 E = F := ⟨_, rfl⟩
  rw [hF] at hc
  have HS := Lib.hid hS
  have HC := Lib.hid hc
  have HF := Lib.hid hF
  have HL := Lib.hid (And.intro hL (And.intro hbl (And.intro hW (And.intro hD (And.intro hw.1 h.room)))))
  have HE := Lib.hid hE
  have HDP := Lib.hid hg.dep
  have HC0 := Lib.hid c0
  clear hS hc hF hL hbl hb hW hD hw hln hg hM hWJ hD2 h c0 hE
  simp only [errP] at HAD
  by_cases hz : F = 0
  · go_enter Try.func17, Try.ntmps17
    go_wp2_with fail
    refine HAD.out.mono ?_
    rintro r w1 ⟨rfl, rfl⟩
    go_wp2_with fail
    refine HS.out.mono ?_
    rintro r w1 ⟨v1, rfl, hT1, hL1, hs1⟩
    have H1 := Lib.hid (And.intro hT1 (And.intro hL1 hs1))
    clear hT1 hL1 hs1
    go_wp2_with fail
    refine (HRD.out _ _ H1.out.1 H1.out.2.2).mono ?_
    rintro r w2 ⟨⟨u, rfl, hV⟩, hs2, ho2⟩
    simp only
    rw [HF.out]
    have H2 := Lib.hid (And.intro hV (And.intro hs2 ho2))
    clear hV hs2 ho2
    subst hz
    go_wp2_with fail
    refine (jtold_ok _ u w2).mono ?_
    rintro r w3 ⟨rfl, rfl⟩
    go_wp2
    go_ret2
    obtain ⟨k1, k2, st', dn', k3⟩ := HC.out.1 trivial
    rw [k2]
    subst k3
    have hs : Sub b o 38 w w3 := (H1.out.2.2.widen (by omega) (by omega)).trans (H2.out.2.1.widen (by omega) (by omega))
    exact ⟨⟨_, rfl, H2.out.1.old H1.out.2.2.step.size⟩, ⟨HL.out.2.2.2.1, ((H2.out.2.1.cell _ (by omega)).trans (H1.out.2.2.cell _ (by omega))).trans HC0.out, H1.out.2.1.sub H2.out.2.1 (by omega), H2.out.2.2, k1, HL.out.2.2.2.2.1⟩, hs⟩
  · go_enter Try.func17, Try.ntmps17
    go_wp2_with fail
    refine HAD.out.mono ?_
    rintro r w1 ⟨rfl, rfl⟩
    go_wp2_with fail
    refine HS.out.mono ?_
    rintro r w1 ⟨v1, rfl, hT1, hL1, hs1⟩
    have H1 := Lib.hid (And.intro hT1 (And.intro hL1 hs1))
    clear hT1 hL1 hs1
    go_wp2_with fail
    refine (HRD.out _ _ H1.out.1 H1.out.2.2).mono ?_
    rintro r w2 ⟨⟨u, rfl, hV⟩, hs2, ho2⟩
    simp only
    rw [HF.out]
    have H2 := Lib.hid (And.intro hV hs2)
    clear hV hs2 ho2
    have HT := Lib.hid (jtold_err (w := w2) (D := D) ((HL.out.2.2.2.2.2.sub H1.out.2.2).sub H2.out.2) (((H2.out.2.cell _ (by omega)).trans (H1.out.2.2.cell _ (by omega))).trans HDP.out) u F hz)
    go_wp2_with fail
    refine HT.out.mono ?_
    rintro r w3 ⟨rfl, hA, hs3⟩
    have H3 := Lib.hid (And.intro hA hs3)
    clear hA hs3
    go_wp2
    go_ret2
    obtain ⟨k1, k2⟩ := HC.out.2 hz
    have hs : Sub b o 38 w w3 := ((H1.out.2.2.widen (by omega) (by omega)).trans (H2.out.2.widen (by omega) (by omega))).trans H3.out.2
    have hv : Vls w w3 u q2 := (H2.out.1.old H1.out.2.2.step.size).sub H3.out.2 HL.out.2.1
    refine ⟨⟨_, by rw [k2]; rfl, by rw [k1]; exact hv⟩, ⟨HL.out.2.2.2.1, ?_⟩, hs⟩
    rw [k2]
    exact ⟨hz, H3.out.1⟩
set_option maxRecDepth 100000 in
set_option maxHeartbeats 1000000 in
theorem jstep_bad {w : World} {b o D e : Nat} {lx : Lx} (h : PAt w b o D ⟨lx, .bad e⟩) (y : UInt8) :
    Calls Try.prog 17 #[.pointer (some ⟨b, o, none⟩), .int .u8 y.toNat] w fun r w' => StepR w w' b o D (stepJ D ⟨lx, .bad e⟩ y) r := by
  have HAD := Lib.hid (jhad_at h)
  have HP := Lib.hid h
  have hz : ((e : Int) != 0) = true := by have := h.2.1; simp; omega
  simp only [errP] at HAD
  clear h
  go_enter Try.func17, Try.ntmps17
  go_wp2_with fail
  refine HAD.out.mono ?_
  rintro r w1 ⟨rfl, rfl⟩
  go_wp2
  go_ret2
  exact ⟨⟨_, rfl, Vls.nil_ _ _⟩, HP.out, Sub.refl _ _ _ _⟩
/-- STEP. -/
theorem jstep_at {w : World} {b o D : Nat} {s : Js} (h : PAt w b o D s) (y : UInt8) :
    Calls Try.prog 17 #[.pointer (some ⟨b, o, none⟩), .int .u8 y.toNat] w fun r w' => StepR w w' b o D (stepJ D s y) r := by
  obtain ⟨lx, p⟩ := s
  cases p with
  | bad e => exact jstep_bad h y
  | at_ st dn => exact jstep_good h y
end Go.Proofs.Ytacngbngljfedaa
/-
  CONTRACTS of jsonin.Parser, part J: End.
-/
namespace Go.Proofs.Ytacngbngljfedaa
open Go.RowKit
open Go.Lib
/-- What End tells. -/
structure EndR (w w' : World) (b o : Nat) (q : List Ev × Nat) (r : Ending) : Prop where
  tells : ∃ u, r = .returned (.tuple #[u, .int .i64 q.2]) ∧ Vls w w' u q.1
  sub : Sub b o 38 w w'
theorem end_nil (s : Lx) (h : (endX s).2 ≠ 0) : (endX s).1 = [] := by
  cases s with
  | num d =>
    simp only [endX] at h ⊢
    split at h
    · rename_i h1; rw [if_pos h1]
    · exact absurd rfl h
  | _ => rfl
theorem end_len (s : Lx) : (endX s).1.length ≤ 900 := by
  cases s with
  | num d => simp only [endX]; split <;> simp
  | _ => simp [endX]
theorem end_cases (D : Nat) (lx : Lx) (st : List FrJ) (dn : Bool) (hW : WfJ D st dn) :
    (endE (toksJ D (.at_ st dn) (endX lx).1).1 (endX lx).2 = 0 → ∃ st' dn', (toksJ D (.at_ st dn) (endX lx).1).1 = .at_ st' dn' ∧ endJ D ⟨lx, .at_ st dn⟩ = ((toksJ D (.at_ st dn) (endX lx).1).2, if dn' = true then 0 else 3)) ∧
    (endE (toksJ D (.at_ st dn) (endX lx).1).1 (endX lx).2 ≠ 0 → endJ D ⟨lx, .at_ st dn⟩ = ((toksJ D (.at_ st dn) (endX lx).1).2, endE (toksJ D (.at_ st dn) (endX lx).1).1 (endX lx).2)) := by
  have h1 := end_nil lx
  simp only [endJ]
  generalize endX lx = X at h1
  obtain ⟨x1, x2⟩ := X
  simp only at h1 ⊢
  by_cases he : x2 ≠ 0
  · rw [h1 he, if_pos he]
    simp only [toksJ, endE]
    exact ⟨fun h => absurd h he, fun _ => trivial⟩
  · rw [if_neg he]
    obtain rfl : x2 = 0 := by omega
    have wf := wf_toks x1 (p := .at_ st dn) hW
    generalize toksJ D (.at_ st dn) x1 = Q at wf ⊢
    obtain ⟨q1, q2⟩ := Q
    cases q1 with
    | bad e =>
      simp only [endE]
      exact ⟨fun h => absurd h wf.1, fun _ => trivial⟩
    | at_ st' dn' =>
      simp only [endE]
      refine ⟨fun _ => ⟨st', dn', rfl, ?_⟩, fun h => absurd rfl h⟩
      cases dn' <;> rfl
set_option maxRecDepth 100000 in
set_option maxHeartbeats 2000000 in
theorem jend_good {w : World} {b o D : Nat} {lx : Lx} {st : List FrJ} {dn : Bool} (h : PAt w b o D ⟨lx, .at_ st dn⟩) :
    Calls Try.prog 20 #[.pointer (some ⟨b, o, none⟩)] w fun r w' => EndR w w' b o (endJ D ⟨lx, .at_ st dn⟩) r := by
  have h0 := h
  obtain ⟨hD, c0, hL, hG, hb, hW⟩ := h0
  have hbl := h.lt
  obtain ⟨M, hg, hM, hWJ, hD2⟩ := hG
  have hc := end_cases D lx st dn hWJ
  have hS := lfin_at hL
  have hw := end_wf lx
  have hln := end_len lx
  have HAD := Lib.hid (jhad_at h)
  generalize endX lx = X at *
  generalize endJ D ⟨lx, .at_ st dn⟩ = R at *
  obtain ⟨x1, E⟩ := X
  simp only at hc hS hw hln
  have HRD : Hid (∀ w1 v, Tks w w1 v x1 → Sub b (o + 2) 18 w w1 → Calls Try.prog 30 #[.pointer (some ⟨b, o, none⟩), v, .int .i64 E] w1 fun r w' => ReadJ w1 w' b o D (toksJ D (.at_ st dn) x1) E r) := Lib.hid (fun w1 v hT hs =>
    read_at (GJ.sub ⟨M, hg, hM, hWJ, hD2⟩ hs (by omega) (by omega)) hT hbl hs.step.size hw hln E)
  generalize toksJ D (.at_ st dn) x1 = Q at *
  obtain ⟨q1, q2⟩ := Q
  simp only at hc
  obtain ⟨F, hF⟩ : ∃ F, endE q1 E = F := ⟨_, rfl⟩
  rw [hF] at hc
  have HS := Lib.hid hS
  have HC := Lib.hid hc
  have HF := Lib.hid hF
  have HL := Lib.hid (And.intro hbl (And.intro hD h.room))
  have HDP := Lib.hid hg.dep
  clear hS hc hF hL hbl hb hW hD hw hln hg hM hWJ hD2 h c0
  simp only [errP] at HAD
  by_cases hz : F = 0
  · obtain ⟨st', dn', k1, k2⟩ := HC.out.1 hz
    subst k1
    subst hz
    have HK := Lib.hid k2
    clear k2
    cases dn' with
    | true =>
      go_enter Try.func20, Try.ntmps20
      go_wp2_with fail
      refine HAD.out.mono ?_
      rintro r w1 ⟨rfl, rfl⟩
      go_wp2_with fail
      refine HS.out.mono ?_
      rintro r w1 ⟨v1, rfl, hT1, hL1, hs1⟩
      have H1 := Lib.hid (And.intro hT1 hs1)
      clear hT1 hL1 hs1
      go_wp2_with fail
      refine (HRD.out _ _ H1.out.1 H1.out.2).mono ?_
      rintro r w2 ⟨⟨u, rfl, hV⟩, hs2, ho2⟩
      simp only
      rw [HF.out]
      have H2 := Lib.hid (And.intro hV (And.intro hs2 ho2))
      clear hV hs2 ho2
      go_wp2_with fail
      refine (jdone_at H2.out.2.2).mono ?_
      rintro r w3 ⟨rfl, rfl⟩
      go_wp2_with fail
      refine (jtold_ok _ u _).mono ?_
      rintro r w3 ⟨rfl, rfl⟩
      go_wp2
      go_ret2
      rw [HK.out]
      exact ⟨⟨_, rfl, H2.out.1.old H1.out.2.step.size⟩, (H1.out.2.widen (by omega) (by omega)).trans (H2.out.2.1.widen (by omega) (by omega))⟩
    | false =>
      go_enter Try.func20, Try.ntmps20
      go_wp2_with fail
      refine HAD.out.mono ?_
      rintro r w1 ⟨rfl, rfl⟩
      go_wp2_with fail
      refine HS.out.mono ?_
      rintro r w1 ⟨v1, rfl, hT1, hL1, hs1⟩
      have H1 := Lib.hid (And.intro hT1 hs1)
      clear hT1 hL1 hs1
      go_wp2_with fail
      refine (HRD.out _ _ H1.out.1 H1.out.2).mono ?_
      rintro r w2 ⟨⟨u, rfl, hV⟩, hs2, ho2⟩
      simp only
      rw [HF.out]
      have H2 := Lib.hid (And.intro hV (And.intro hs2 ho2))
      have HT := Lib.hid (jtold_err (w := w2) (D := D) ((HL.out.2.2.sub H1.out.2).sub hs2) (((hs2.cell _ (by omega)).trans (H1.out.2.cell _ (by omega))).trans HDP.out) u 3 (by decide))
      clear hV hs2 ho2
      go_wp2_with fail
      refine (jdone_at H2.out.2.2).mono ?_
      rintro r w3 ⟨rfl, rfl⟩
      go_wp2_with fail
      refine HT.out.mono ?_
      rintro r w4 ⟨rfl, hA, hs3⟩
      have H3 := Lib.hid hs3
      clear hA hs3
      go_wp2
      go_ret2
      rw [HK.out]
      exact ⟨⟨_, rfl, (H2.out.1.old H1.out.2.step.size).sub H3.out HL.out.1⟩, ((H1.out.2.widen (by omega) (by omega)).trans (H2.out.2.1.widen (by omega) (by omega))).trans H3.out⟩
  · have HK := Lib.hid (HC.out.2 hz)
    have hz2 : ((F : Int) == 0) = false := by simp; omega
    go_enter Try.func20, Try.ntmps20
    go_wp2_with fail
    refine HAD.out.mono ?_
    rintro r w1 ⟨rfl, rfl⟩
    go_wp2_with fail
    refine HS.out.mono ?_
    rintro r w1 ⟨v1, rfl, hT1, hL1, hs1⟩
    have H1 := Lib.hid (And.intro hT1 hs1)
    clear hT1 hL1 hs1
    go_wp2_with fail
    refine (HRD.out _ _ H1.out.1 H1.out.2).mono ?_
    rintro r w2 ⟨⟨u, rfl, hV⟩, hs2, ho2⟩
    simp only
    rw [HF.out]
    have H2 := Lib.hid (And.intro hV hs2)
    have HT := Lib.hid (jtold_err (w := w2) (D := D) ((HL.out.2.2.sub H1.out.2).sub hs2) (((hs2.cell _ (by omega)).trans (H1.out.2.cell _ (by omega))).trans HDP.out) u F hz)
    clear hV hs2 ho2
    go_wp2_with fail
    refine HT.out.mono ?_
    rintro r w4 ⟨rfl, hA, hs3⟩
    have H3 := Lib.hid hs3
    clear hA hs3
    go_wp2
    go_ret2
    rw [HK.out]
    exact ⟨⟨_, rfl, (H2.out.1.old H1.out.2.step.size).sub H3.out HL.out.1⟩, ((H1.out.2.widen (by omega) (by omega)).trans (H2.out.2.widen (by omega) (by omega))).trans H3.out⟩
set_option maxRecDepth 100000 in
set_option maxHeartbeats 1000000 in
theorem jend_bad {w : World} {b o D e : Nat} {lx : Lx} (h : PAt w b o D ⟨lx, .bad e⟩) :
    Calls Try.prog 20 #[.pointer (some ⟨b, o, none⟩)] w fun r w' => EndR w w' b o (endJ D ⟨lx, .bad e⟩) r := by
  have HAD := Lib.hid (jhad_at h)
  have hz : ((e : Int) != 0) = true := by have := h.2.1; simp; omega
  simp only [errP] at HAD
  clear h
  go_enter Try.func20, Try.ntmps20
  go_wp2_with fail
  refine HAD.out.mono ?_
  rintro r w1 ⟨rfl, rfl⟩
  go_wp2
  go_ret2
  exact ⟨⟨_, rfl, Vls.nil_ _ _⟩, Sub.refl _ _ _ _⟩
/-- END. -/
theorem jend_at {w : World} {b o D : Nat} {s : Js} (h : PAt w b o D s) :
    Calls Try.prog 20 #[.pointer (some ⟨b, o, none⟩)] w fun r w' => EndR w w' b o (endJ D s) r := by
  obtain ⟨lx, p⟩ := s
  cases p with
  | bad e => exact jend_bad h
  | at_ st dn => exact jend_good h
end Go.Proofs.Ytacngbngljfedaa
/-
  CONTRACTS of package jsonin, part K: plain; All.
-/
namespace Go.Proofs.Ytacngbngljfedaa
open Go.RowKit
open Go.Lib
theorem heap_new2j (w : World) (x y : Obj) : ((w.alloc x).alloc y).heap[w.heap.size + 1]? = some y := by
  have := heap_alloc_new (w.alloc x) y
  simpa using this
set_option maxRecDepth 100000 in
set_option maxHeartbeats 2000000 in
theorem jplain_at {w0 w : World} {v : Value} {L : List Ev} (hV : Vls w0 w v L) (hL : ∀ e ∈ L, ToldE e) (hn : L.length ≤ 900) :
    Calls Try.prog 19 #[v] w fun r w' => ∃ u, r = .returned u ∧ Made w w' u L.length L := by
  obtain ⟨a, c, rfl⟩ := hV.form
  obtain ⟨n, hnn⟩ : ∃ n, L.length = n := ⟨_, rfl⟩
  have H0 : Hid (Made w w (.slice none 0 0) 0 (L.take 0)) := Lib.hid (by simpa using made_nil w)
  have HW := Lib.hid hV.win
  have HL := Lib.hid hL
  have HNN := Lib.hid hnn
  rw [hnn] at hn HW ⊢
  clear hV hL hnn
  go_enter Try.func19, Try.ntmps19
  go_wp2
  go_loopw [3, 5, 6, 7, 10] (fun l _ _ _ i wr => ∃ (j : Nat) (a1 : Option Addr) (c1 : Nat), l = .slice a1 j c1 ∧ i = .int .i64 j ∧ j ≤ n ∧ Hid (Made w wr (.slice a1 j c1) j (L.take j))) (fun _ _ _ _ i _ => n - (RowKit.intOf i).toNat)
  case atStart => exact ⟨0, none, 0, rfl, rfl, by omega, H0⟩
  case round =>
    obtain ⟨j, a1, c1, rfl, rfl, hj, HM⟩ := hrel
    clear H0
    by_cases hlt : j < n
    · have hjl : j < L.length := by rw [HNN.out]; exact hlt
      have hT := HL.out _ (List.getElem_mem hjl)
      have hwin : Win wr 20 1 (.slice a n c) n (L.map valE) := HW.out.keep fun k hk => HM.out.1.block k (HW.out.lt k hk)
      obtain ⟨g, off, c', hv, x0⟩ := hwin.elem j (valE L[j]) (by simp [hjl])
      have htk : L.take (j + 1) = L.take j ++ [L[j]] := by rw [List.take_add_one, List.getElem?_eq_getElem hjl]; rfl
      have hP := fun W => plain_any L[j] hT.1 W
      rw [hT.2.1] at hP
      generalize L[j] = e at *
      simp only [Value.slice.injEq] at hv
      obtain ⟨rfl, hv2, rfl⟩ := hv
      clear hv2
      obtain ⟨k, y, m, t, c2⟩ := e
      simp only [evV] at hP
      have HP := Lib.hid hP
      have HTK := Lib.hid htk
      generalize valE ⟨k, y, m, t, c2⟩ = V at *
      have hHM := HM.out
      clear hT hwin hP htk hjl
      go_wp2_with fail
      refine (HP.out _).mono ?_
      rintro r w1 ⟨rfl, b1⟩
      have HM1 := Lib.hid (hHM.go b1)
      clear hHM b1
      go_wp2_with (at_builtin; refine wpList_append_win rfl _ _ _ rfl Try.underlying23 info_ev rfl rfl ((HM1.out.2.1.alloc _).alloc _) _ rfl 1 _ (src_new _ Try.underlying23 5 1 (evsC [⟨k, y, m, t, c2⟩]) 40 _ rfl (evsC_one _) (heap_new2j _ _ _)) ?e1 ?e2 ?_)
      case e1 => unfold maxLen; omega
      case e2 => omega
      intro v3 w3 hW3 hG3 hO3
      have hM3 : Made w w3 v3 (j + 1) (L.take j ++ [⟨k, y, m, t, c2⟩]) := made_more HM1.out (up_alloc (up_alloc (Below.refl _ _) _) _) hW3.out hG3.out (by simpa using hO3.out)
      rw [← HTK.out] at hM3
      obtain ⟨a3, c3, rfl, _, _⟩ := hM3.2.1.slice_form
      have M3 := Lib.hid hM3
      clear hW3 hG3 hO3 hM3
      go_wp2
      go_roundw
      case rel => exact ⟨j + 1, a3, c3, rfl, rfl, hlt, M3⟩
      case measure => simp [RowKit.intOf]; omega
    · obtain rfl : j = n := by omega
      have HF : Hid (Made w wr (.slice a1 j c1) j L) := Lib.hid (by
        have := HM.out
        rwa [List.take_of_length_le (by rw [HNN.out]; exact Nat.le_refl _)] at this)
      go_wp2
      go_ret
      exact ⟨_, rfl, HF.out⟩
/-! ### How many parts there are at most -/
theorem tok_len (D : Nat) (p : Pj) (t : Tk) : (tokJ D p t).2.length ≤ 1 := by
  have hv : ∀ st dn e, (valJ st dn e).2.length ≤ 1 := by intro st dn e; unfold valJ; split <;> simp
  have hs : ∀ m st, (shutJ m st).2.length ≤ 1 := by
    intro m st
    match st with
    | [] => simp [shutJ]
    | ⟨b, q⟩ :: r =>
      by_cases hc : b = m ∧ (q = 0 ∨ q = if m = true then 3 else 1)
      · have e : shutJ m (⟨b, q⟩ :: r) = (.at_ r (doneJ r), [evEnd]) := if_pos hc
        rw [e]; simp
      · have e : shutJ m (⟨b, q⟩ :: r) = (.bad 2, []) := if_neg hc
        rw [e]; simp
  have ho : ∀ st dn m e, (openJ D st dn m e).2.length ≤ 1 := by
    intro st dn m e
    unfold openJ
    split
    · split <;> simp
    · simp
  have hc : ∀ st, (commaJ st).2.length ≤ 1 := by intro st; unfold commaJ; split <;> simp
  have hl : ∀ st, (colonJ st).2.length ≤ 1 := by intro st; unfold colonJ; split <;> simp
  have ht : ∀ st dn x, (strJ st dn x).2.length ≤ 1 := by
    intro st dn x
    have := hv st dn (evText x)
    unfold strJ
    split
    · simp
    · simp
    · exact this
  cases p with
  | bad e => simp [tokJ]
  | at_ st dn =>
    simp only [tokJ]
    repeat' split
    all_goals first | exact hc _ | exact hl _ | exact hs _ _ | exact ho _ _ _ _ | exact ht _ _ _ | exact hv _ _ _
theorem toksJ_len (D : Nat) : ∀ (l : List Tk) (p : Pj), (toksJ D p l).2.length ≤ l.length
  | [], p => by simp [toksJ]
  | t :: l, p => by
    have h1 := tok_len D p t
    have h2 := toksJ_len D l (tokJ D p t).1
    simp only [toksJ, List.length_append, List.length_cons]
    omega
theorem stepX_len (s : Lx) (y : UInt8) : (stepX s y).2.length ≤ 2 := by
  have start : ∀ x, (startX x).2.length ≤ 1 := by
    intro x
    unfold startX
    repeat' split
    all_goals simp
  have h := start y.toNat
  match s with
  | .bad e => simp [stepX]
  | .idle => simp only [stepX]; omega
  | .str s t => simp only [stepX]; repeat' split
                all_goals simp
  | .num d =>
    simp only [stepX]
    repeat' split
    all_goals first | simp | skip
    generalize startX y.toNat = q at *
    obtain ⟨q1, q2⟩ := q
    cases q1 <;> simp [tellX] at h ⊢ <;> omega
  | .word k [] => simp [stepX]
  | .word k (x :: q) =>
    simp only [stepX]
    repeat' split
    all_goals simp
theorem stepJ_len (D : Nat) (s : Js) (b : UInt8) : (stepJ D s b).2.length ≤ 2 := by
  unfold stepJ
  split
  · simp
  · split
    · simp
    · have h1 := toksJ_len D (stepX s.lx b).2 s.p
      have h2 := stepX_len s.lx b
      simp only
      omega
theorem runJ_len (D : Nat) : ∀ (l : List UInt8) (s : Js), (runJ D s l).2.length ≤ 2 * l.length
  | [], s => by simp [runJ]
  | b :: l, s => by
    have h1 := stepJ_len D s b
    have h2 := runJ_len D l (stepJ D s b).1
    simp only [runJ, List.length_append, List.length_cons]
    omega
theorem endX_len (s : Lx) : (endX s).1.length ≤ 1 := by
  cases s with
  | num d => simp only [endX]; split <;> simp
  | _ => simp [endX]
theorem endJ_len (D : Nat) (s : Js) : (endJ D s).1.length ≤ 1 := by
  unfold endJ
  split
  · simp
  · split
    · simp
    · have h1 := toksJ_len D (endX s.lx).1 s.p
      have h2 := endX_len s.lx
      split
      all_goals
        rename_i h
        rw [h] at h1
        simp only at h1 ⊢
        omega
/-! ### All of them are told parts -/
def WfS (D : Nat) (s : Js) : Prop := WfX s.lx ∧ WfP D s.p
theorem told_step (D : Nat) (s : Js) (h : WfS D s) (b : UInt8) : ∀ e ∈ (stepJ D s b).2, ToldE e := by
  intro e he
  unfold stepJ at he
  split at he
  · simp at he
  · split at he
    · simp at he
    · exact told_toks D _ _ (step_wf _ h.1 b).2 e he
theorem told_fin (D : Nat) (s : Js) : ∀ e ∈ (endJ D s).1, ToldE e := by
  intro e he
  unfold endJ at he
  split at he
  · simp at he
  · split at he
    · simp at he
    · have := told_toks D (endX s.lx).1 s.p (end_wf _)
      split at he
      all_goals
        rename_i h
        rw [h] at this
        exact this e he
theorem PAt.told {w : World} {b o D : Nat} {s : Js} (h : PAt w b o D s) (y : UInt8) : ∀ e ∈ (stepJ D s y).2, ToldE e := by
  obtain ⟨lx, p⟩ := s
  cases p with
  | bad e => intro e he; simp [stepJ] at he
  | at_ st dn =>
    obtain ⟨_, _, _, ⟨M, _, _, hW, _⟩, _, hX⟩ := h
    exact told_step D _ ⟨hX, hW⟩ y
theorem bad_run {D e : Nat} {lx : Lx} (l : List UInt8) : runJ D ⟨lx, .bad e⟩ l = (⟨lx, .bad e⟩, []) := by
  induction l with
  | nil => rfl
  | cons b l ih => simp only [runJ, stepJ, ih, List.append_nil]
theorem runJ_snoc (D : Nat) (s : Js) (l : List UInt8) (i : Nat) (h : i < l.length) : runJ D s (l.take (i + 1)) = ((stepJ D (runJ D s (l.take i)).1 l[i]).1, (runJ D s (l.take i)).2 ++ (stepJ D (runJ D s (l.take i)).1 l[i]).2) := by
  rw [List.take_add_one, List.getElem?_eq_getElem h, runJ_append]
  simp [runJ]
/-- Behind an error there is nothing more. -/
theorem all_stop {D e j : Nat} {l : List UInt8} (h : (runJ D j0 (l.take j)).1.p = .bad e) : allJ D l = ((runJ D j0 (l.take j)).2, e) := by
  have h1 := runJ_append D j0 (l.take j) (l.drop j)
  rw [List.take_append_drop] at h1
  show ((runJ D j0 l).2 ++ (endJ D (runJ D j0 l).1).1, (endJ D (runJ D j0 l).1).2) = _
  rw [h1]
  generalize runJ D j0 (l.take j) = R at h ⊢
  obtain ⟨⟨lx, p⟩, r⟩ := R
  simp only at h
  subst h
  rw [bad_run]
  simp [endJ]
end Go.Proofs.Ytacngbngljfedaa
/-
  CONTRACT of jsonin.All.
-/
namespace Go.Proofs.Ytacngbngljfedaa
open Go.RowKit
open Go.Lib
/-- In the midst of All: the Parser, in the block that New made; the parts so far. -/
structure AllI (w w1 wr : World) (D : Nat) (s : Js) (u : Value) (n : Nat) (L : List Ev) : Prop where
  pat : PAt wr w.heap.size 0 D s
  win : Win wr 40 5 u n (evsC L)
  own : ∀ k ∈ Value.owner u, w1.heap.size ≤ k
  below : Below w.heap.size w wr
  b1 : w.heap.size < w1.heap.size
  size : w1.heap.size ≤ wr.heap.size
/-- Behind a step that told parts, and their append. -/
theorem AllI.next {w w1 wr w2 w3 w4 : World} {D : Nat} {s s' : Js} {u u2 u3 : Value} {n m : Nat} {L K : List Ev} (h : AllI w w1 wr D s u n L) (hS : Sub w.heap.size 0 38 wr w2) (hP : PAt w2 w.heap.size 0 D s') (hM : Made w2 w3 u2 m K)
    (hW : Win w4 40 5 u3 (n + m) (evsC L ++ evsC K)) (hG : w3.grownBy w4 u.ownBlock) (hO : u3.ownBlock = u.ownBlock ∨ u3.ownBlock = some w3.heap.size ∧ w3.heap.size < w4.heap.size) : AllI w w1 w4 D s' u3 (n + m) (L ++ K) := by
  have hrow : ∀ k, u.ownBlock = some k → w1.heap.size ≤ k := fun k hk => h.own k ((ob_iff _ _).1 hk)
  have h12 : wr.heap.size ≤ w2.heap.size := hS.step.size
  have h23 : w2.heap.size ≤ w3.heap.size := hM.1.size
  have hb := h.b1
  have hs := h.size
  have h3 : Below w.heap.size w w3 := (h.below.trans (hS.below (Nat.le_refl _) (by omega))).trans (hM.1.mono (by omega))
  refine ⟨?_, by rw [evsC_append]; exact hW, fun k hk => ?_, h3.grown hG (by omega) (fun k hk => by have := hrow k hk; omega), hb, Nat.le_trans hs (Nat.le_trans h12 (Nat.le_trans h23 hG.size))⟩
  · refine (hP.below hM.1).keep (hG.block _ (by omega) (fun e => ?_))
    have := hrow _ e.symm
    omega
  · rcases hO with e | ⟨e, _⟩
    · exact hrow k (e ▸ (ob_iff _ _).2 hk)
    · have h2 := (ob_iff _ _).2 hk
      rw [e] at h2
      cases h2
      omega
/-- The list, told of the world ahead of all. -/
theorem AllI.made {w w1 wr : World} {D : Nat} {s : Js} {u : Value} {n : Nat} {L : List Ev} (h : AllI w w1 wr D s u n L) : Made w wr u n L := ⟨h.below, h.win, fun k hk => Nat.le_trans (Nat.le_of_lt h.b1) (h.own k hk)⟩
/-- All's list behind End. -/
theorem AllI.last {w w1 wr w2 w3 w4 : World} {D : Nat} {s : Js} {u u2 u3 : Value} {n m : Nat} {L K : List Ev} (h : AllI w w1 wr D s u n L) (hS : Sub w.heap.size 0 38 wr w2) (hM : Made w2 w3 u2 m K)
    (hW : Win w4 40 5 u3 (n + m) (evsC L ++ evsC K)) (hG : w3.grownBy w4 u.ownBlock) (hO : u3.ownBlock = u.ownBlock ∨ u3.ownBlock = some w3.heap.size ∧ w3.heap.size < w4.heap.size) : Made w w4 u3 (n + m) (L ++ K) := by
  have hrow : ∀ k, u.ownBlock = some k → w1.heap.size ≤ k := fun k hk => h.own k ((ob_iff _ _).1 hk)
  have h12 : wr.heap.size ≤ w2.heap.size := hS.step.size
  have h23 : w2.heap.size ≤ w3.heap.size := hM.1.size
  have hb := h.b1
  have hs := h.size
  have h3 : Below w.heap.size w w3 := (h.below.trans (hS.below (Nat.le_refl _) (by omega))).trans (hM.1.mono (by omega))
  refine ⟨h3.grown hG (by omega) (fun k hk => by have := hrow k hk; omega), by rw [evsC_append]; exact hW, fun k hk => ?_⟩
  rcases hO with e | ⟨e, _⟩
  · have := hrow k (e ▸ (ob_iff _ _).2 hk)
    omega
  · have h2 := (ob_iff _ _).2 hk
    rw [e] at h2
    cases h2
    omega
set_option maxRecDepth 100000 in
set_option maxHeartbeats 4000000 in
/-- ALL. -/
theorem jall_any (bs : List UInt8) (D : Nat) (hD : 1 ≤ D ∧ D ≤ 16) (hz : bs.length ≤ 100000000) (w : World) :
    Calls Try.prog 10 #[.string ⟨bs.toArray⟩, .int .i64 D] w fun r w' => ∃ u, r = .returned (.tuple #[u, .int .i64 (allJ D bs).2]) ∧ Made w w' u (allJ D bs).1.length (allJ D bs).1 := by
  obtain ⟨X, hX⟩ : ∃ X : ByteArray, (⟨bs.toArray⟩ : ByteArray) = X := ⟨_, rfl⟩
  have hsz : X.size = bs.length := by rw [← hX]; exact size_of bs
  have hget : ∀ (i : Nat) (h : i < X.size) (h' : i < bs.length), X[i] = bs[i]'h' := by subst hX; intro i h h'; rfl
  have HGET := Lib.hid hget
  have HSZ := Lib.hid hsz
  have HZ := Lib.hid hz
  have HN := Lib.hid (jnew_any D hD w)
  have hx : X.size ≤ 100000000 := by omega
  have HX := Lib.hid hX
  rw [hX]
  clear hX hget hsz hz hD
  go_enter Try.func10, Try.ntmps10
  go_wp2_with fail
  refine HN.out.mono ?_
  rintro r w1 ⟨rfl, hP, hb⟩
  have hs1 : w.heap.size < w1.heap.size := hP.lt
  have H0 : Hid (AllI w w1 w1 D (runJ D j0 (bs.take 0)).1 (.slice none 0 0) 0 (runJ D j0 (bs.take 0)).2) := Lib.hid ⟨by simpa [runJ] using hP, by simpa [runJ, evsC] using Win.nil_ _ _ _, fun k hk => by simp [Value.owner] at hk, hb, hs1, Nat.le_refl _⟩
  clear hP hb hs1
  go_wp2
  go_loopw [7, 8, 9, 10, 19] (fun l _ _ _ i wr => ∃ (j n : Nat) (a : Option Addr) (c : Nat), l = .slice a n c ∧ i = .int .i64 j ∧ j ≤ X.size ∧ n ≤ 2 * j ∧ Hid (AllI w w1 wr D (runJ D j0 (bs.take j)).1 (.slice a n c) n (runJ D j0 (bs.take j)).2)) (fun _ _ _ _ i _ => X.size - (RowKit.intOf i).toNat)
  case atStart => exact ⟨0, 0, none, 0, rfl, rfl, by omega, by omega, H0⟩
  case round =>
    obtain ⟨j, n, a, c, rfl, rfl, hj, hn, HA⟩ := hrel
    clear H0
    by_cases hlt : j < X.size
    · have hjl : j < bs.length := by rw [← HSZ.out]; exact hlt
      have hy := HGET.out j hlt hjl
      have hsn := runJ_snoc D j0 bs j hjl
      have hS := jstep_at HA.out.pat bs[j]
      have hTd := HA.out.pat.told bs[j]
      have hst := @all_stop D
      have hlen := stepJ_len D (runJ D j0 (bs.take j)).1 bs[j]
      obtain ⟨y, hyy⟩ : ∃ y, bs[j] = y := ⟨_, rfl⟩
      rw [hyy] at hy hS hTd hsn hlen
      have hwn := HA.out.win.1
      generalize runJ D j0 (bs.take j) = R at *
      obtain ⟨s, L⟩ := R
      simp only at hS hTd hsn hlen HA
      generalize stepJ D s y = T at *
      obtain ⟨s', K⟩ := T
      simp only at hTd hsn hlen
      have HS := Lib.hid hS
      have HTD := Lib.hid hTd
      have HSN := Lib.hid hsn
      have HL := Lib.hid hlen
      have HHN := Lib.hid hn
      have hn9 : n ≤ 200000000 := by omega
      clear hS hTd hsn hlen hyy hst hjl hwn hn
      go_wp2_with fail
      refine HS.out.mono ?_
      rintro r w2 ⟨⟨v2, rfl, hV⟩, hP2, hS2⟩
      have H2 := Lib.hid (And.intro hV (And.intro hP2 hS2))
      clear hV hP2 hS2
      go_wp2_with fail
      refine (jplain_at H2.out.1 HTD.out (by have := HL.out; omega)).mono ?_
      rintro r w3 ⟨u2, rfl, hM⟩
      obtain ⟨a2, c2, rfl, _, _⟩ := hM.2.1.slice_form
      have H3 := Lib.hid hM
      have HW1 : Hid (Win w3 40 5 (.slice a n c) n (evsC L)) := Lib.hid (HA.out.win.keep fun k hk => by
        have h1 := HA.out.win.lt k hk
        have h2 := HA.out.own k hk
        have h3 := HA.out.b1
        exact (hM.1.block k (Nat.lt_of_lt_of_le h1 H2.out.2.2.step.size)).trans (H2.out.2.2.step.block k h1 (by simp only [List.mem_singleton]; omega)))
      clear hM
      obtain ⟨m, hm⟩ : ∃ m, K.length = m := ⟨_, rfl⟩
      have hm9 : m ≤ 2 := by have := HL.out; omega
      have HW2 : Hid (Win w3 40 5 (.slice a2 m c2) m (evsC K)) := Lib.hid (by have := H3.out.2.1; rwa [hm] at this)
      have H3' : Hid (Made w2 w3 (.slice a2 m c2) m K) := Lib.hid (by have := H3.out; rwa [hm] at this)
      rw [hm]
      clear hm H3
      go_wp2_with (at_builtin; refine wpList_append_win rfl _ _ _ rfl Try.underlying23 info_ev rfl rfl HW1.out _ rfl m _ (HW2.out.src Try.underlying23 (evsC_one _)) ?e1 ?e2 ?_)
      case e1 => unfold maxLen; omega
      case e2 => omega
      intro v4 w4 hW4 hG4 hO4
      have hA4 := HA.out.next H2.out.2.2 H2.out.2.1 H3'.out hW4.out hG4.out hO4.out
      obtain ⟨a4, c4, rfl, _, _⟩ := hA4.win.slice_form
      have H4 := Lib.hid hA4
      clear hW4 hG4 hO4 hA4
      by_cases he : errP s'.p = 0
      · rw [he]
        clear he
        go_wp2
        go_roundw
        case rel => exact ⟨j + 1, n + m, a4, c4, rfl, rfl, hlt, by have := HHN.out; omega, Lib.hid (by rw [HSN.out]; exact H4.out)⟩
        case measure => simp [RowKit.intOf]; omega
      · obtain ⟨e, hbad⟩ : ∃ e, s'.p = .bad e := by
          cases h : s'.p with
          | bad e => exact ⟨e, rfl⟩
          | at_ st dn => rw [h] at he; exact absurd rfl he
        have hR : allJ D bs = (L ++ K, e) := by
          have := all_stop (D := D) (e := e) (j := j + 1) (l := bs) (by rw [HSN.out]; exact hbad)
          rw [this, HSN.out]
        have HR := Lib.hid hR
        have hz : ((e : Int) != 0) = true := by rw [hbad] at he; simp [errP] at he ⊢; exact he
        rw [hbad]
        simp only [errP]
        have hlen : (L ++ K).length = n + m := by
          have h1 := H4.out.win.1
          rw [evsC_length] at h1
          omega
        have HLEN := Lib.hid hlen
        clear he hbad hR hlen
        go_wp2
        go_ret2
        rw [HR.out]
        refine ⟨_, rfl, ?_⟩
        have := H4.out.made
        simp only
        rw [HLEN.out]
        exact this
    · obtain rfl : j = X.size := by omega
      have hE := jend_at HA.out.pat
      have hall : allJ D bs = ((runJ D j0 (bs.take X.size)).2 ++ (endJ D (runJ D j0 (bs.take X.size)).1).1, (endJ D (runJ D j0 (bs.take X.size)).1).2) := by
        rw [List.take_of_length_le (by rw [HSZ.out]; exact Nat.le_refl _)]
        rfl
      have hTd := told_fin D (runJ D j0 (bs.take X.size)).1
      have hlen := endJ_len D (runJ D j0 (bs.take X.size)).1
      generalize runJ D j0 (bs.take X.size) = R at *
      obtain ⟨s, L⟩ := R
      simp only at hE hTd hlen HA hall
      generalize endJ D s = T at *
      obtain ⟨K, F⟩ := T
      simp only at hTd hlen hall
      have HE := Lib.hid hE
      have HTD := Lib.hid hTd
      have HALL := Lib.hid hall
      have HL := Lib.hid hlen
      have hn9 : n ≤ 200000000 := by omega
      clear hE hTd hall hlen hn
      go_wp2_with fail
      refine HE.out.mono ?_
      rintro r w2 ⟨⟨v2, rfl, hV⟩, hS2⟩
      have H2 := Lib.hid (And.intro hV hS2)
      clear hV hS2
      go_wp2_with fail
      refine (jplain_at H2.out.1 HTD.out (by have := HL.out; omega)).mono ?_
      rintro r w3 ⟨u2, rfl, hM⟩
      obtain ⟨a2, c2, rfl, _, _⟩ := hM.2.1.slice_form
      have H3 := Lib.hid hM
      have HW1 : Hid (Win w3 40 5 (.slice a n c) n (evsC L)) := Lib.hid (HA.out.win.keep fun k hk => by
        have h1 := HA.out.win.lt k hk
        have h2 := HA.out.own k hk
        have h3 := HA.out.b1
        exact (hM.1.block k (Nat.lt_of_lt_of_le h1 H2.out.2.step.size)).trans (H2.out.2.step.block k h1 (by simp only [List.mem_singleton]; omega)))
      clear hM
      obtain ⟨m, hm⟩ : ∃ m, K.length = m := ⟨_, rfl⟩
      have HMM := Lib.hid hm
      have hm9 : m ≤ 2 := by have := HL.out; omega
      have HW2 : Hid (Win w3 40 5 (.slice a2 m c2) m (evsC K)) := Lib.hid (by have := H3.out.2.1; rwa [hm] at this)
      have H3' : Hid (Made w2 w3 (.slice a2 m c2) m K) := Lib.hid (by have := H3.out; rwa [hm] at this)
      rw [hm]
      clear hm H3
      go_wp2_with (at_builtin; refine wpList_append_win rfl _ _ _ rfl Try.underlying23 info_ev rfl rfl HW1.out _ rfl m _ (HW2.out.src Try.underlying23 (evsC_one _)) ?e1 ?e2 ?_)
      case e1 => unfold maxLen; omega
      case e2 => omega
      intro v4 w4 hW4 hG4 hO4
      have hA4 := HA.out.last H2.out.2 H3'.out hW4.out hG4.out hO4.out
      have H4 := Lib.hid hA4
      clear hW4 hG4 hO4 hA4
      go_wp2
      go_ret2
      rw [HALL.out]
      refine ⟨_, rfl, ?_⟩
      simp only
      have h1 := H4.out.2.1.1
      rw [evsC_length, List.length_append] at h1
      have hl : (L ++ K).length = n + m := by rw [List.length_append]; omega
      rw [hl]
      exact H4.out
end Go.Proofs.Ytacngbngljfedaa
