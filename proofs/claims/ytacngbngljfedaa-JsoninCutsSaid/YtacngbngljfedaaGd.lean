/-
  CONTRACTS of lexer.Lexer, anywhere in a block.
-/
import Derived.Test.YtacngbngljfedaaGa
import Derived.Deep.MidRow
import Derived.Test.YtacngbngljfedaaGb
import Derived.Test.YtacngbngljfedaaGc
import Derived.Laws.RangeAny
import Derived.Deep.QuietTactic
import Derived.Deep.RegionWith
import Derived.Deep.RegionLaw
import Derived.OwnWalk
/-
  Lists of tokens in memory; cells that are there, whatever they hold; cells that are all written anew.
-/
namespace Go.Proofs.Ytacngbngljfedaa
open Go.RowKit
open Go.Lib
/-- The four cells of a token. -/
def tkCells (t : Tk) : List Value := [.int .u8 t.k, .string ⟨t.t.toArray⟩, .bool t.n.1, .int .u64 t.n.2]
/-- A token, as a plain one. -/
def tkV (t : Tk) : Value := .agg #[.int .u8 t.k, .string ⟨t.t.toArray⟩, .bool t.n.1, .int .u64 t.n.2]
def tksC : List Tk → List Value
  | [] => []
  | e :: r => tkCells e ++ tksC r
theorem tksC_append (L K : List Tk) : tksC (L ++ K) = tksC L ++ tksC K := by
  induction L with
  | nil => rfl
  | cons e L ih => simp only [List.cons_append, tksC, ih, List.append_assoc]
theorem tksC_length (L : List Tk) : (tksC L).length = L.length * 4 := by
  induction L with
  | nil => rfl
  | cons e L ih =>
    rw [tksC, List.length_append, ih]
    simp [tkCells]
    omega
theorem tksC_one (L : List Tk) : ∀ u ∈ tksC L, u.oneCell' = true := by
  induction L with
  | nil => intro u h; simp [tksC] at h
  | cons e L ih =>
    intro u h
    rw [tksC, List.mem_append] at h
    rcases h with h | h
    · simp [tkCells] at h
      rcases h with rfl | rfl | rfl | rfl <;> rfl
    · exact ih u h
def getT (L : List Tk) (i : Nat) : Tk := L[i]?.getD (sgnT 0)
theorem tksC_get (L : List Tk) : ∀ (i j : Nat), i < L.length → j < 4 → (tksC L)[i * 4 + j]? = (tkCells (getT L i))[j]? := by
  induction L with
  | nil => intro i j h; simp at h
  | cons e L ih =>
    intro i j hi hj
    rw [tksC]
    cases i with
    | zero =>
      rw [List.getElem?_append_left (by simp [tkCells]; omega)]
      simp [getT]
    | succ i =>
      rw [List.getElem?_append_right (by simp [tkCells]; omega)]
      have h1 : (i + 1) * 4 + j - (tkCells e).length = i * 4 + j := by simp [tkCells]; omega
      rw [h1, ih i j (by simpa using hi) hj]
      simp [getT]
theorem info_tk : (Try.prog.info? 103).map (fun i => (i.zero, i.size, i.bytes)) = some (some (.agg #[.int .u8 0, .string ⟨#[]⟩, .bool false, .int .u64 0]), 4, 40) := by kernel_rfl
/-- A list of tokens that a call made, of blocks that were not there. -/
structure Tks (w0 w : World) (v : Value) (L : List Tk) : Prop where
  win : Win w 103 4 v L.length (tksC L)
  new : ∀ k ∈ Value.owner v, w0.heap.size ≤ k
theorem Tks.nil_ (w0 w : World) : Tks w0 w (.slice none 0 0) [] := ⟨Win.nil_ _ _ _, fun k hk => by simp [Value.owner] at hk⟩
theorem Tks.keep {w0 w w' : World} {v : Value} {L : List Tk} (h : Tks w0 w v L) (hk : ∀ k, k < w.heap.size → w0.heap.size ≤ k → w'.heap[k]? = w.heap[k]?) : Tks w0 w' v L :=
  ⟨h.win.keep fun k ho => hk k (h.win.lt k ho) (h.new k ho), h.new⟩
theorem Tks.go {w0 w w' : World} {v : Value} {L : List Tk} (h : Tks w0 w v L) (k : Below w.heap.size w w') : Tks w0 w' v L := h.keep fun i hi _ => k.block i hi
theorem Tks.sub {w0 w w' : World} {v : Value} {L : List Tk} {b o n : Nat} (h : Tks w0 w v L) (k : Sub b o n w w') (hb : b < w0.heap.size) : Tks w0 w' v L :=
  h.keep fun i hi h0 => k.step.block i hi (by simp only [List.mem_singleton]; omega)
theorem Tks.old {w0 w1 w : World} {v : Value} {L : List Tk} (h : Tks w0 w v L) (hs : w1.heap.size ≤ w0.heap.size) : Tks w1 w v L := ⟨h.win, fun k hk => Nat.le_trans hs (h.new k hk)⟩
theorem Tks.form {w0 w : World} {v : Value} {L : List Tk} (h : Tks w0 w v L) : ∃ a c, v = .slice a L.length c := by
  obtain ⟨a, c, h, _, _⟩ := h.win.slice_form
  exact ⟨a, c, h⟩
/-- The cells of token i. -/
theorem Tks.cells {w0 w : World} {v : Value} {L : List Tk} (h : Tks w0 w v L) {i : Nat} (hi : i < L.length) : ∃ b off c, v = .slice (some ⟨b, off, none⟩) L.length c ∧
    w.cell? ⟨b, off + i * 4, none⟩ = some (.int .u8 (getT L i).k) ∧ w.cell? ⟨b, off + i * 4 + 1, none⟩ = some (.string ⟨(getT L i).t.toArray⟩) ∧ w.cell? ⟨b, off + i * 4 + 2, none⟩ = some (.bool (getT L i).n.1) ∧ w.cell? ⟨b, off + i * 4 + 3, none⟩ = some (.int .u64 (getT L i).n.2) := by
  obtain ⟨g, off, c, rfl, _, _, _, _, hc⟩ := h.win.form (by omega)
  refine ⟨g, off, c, rfl, ?_, ?_, ?_, ?_⟩
  · exact (hc (i * 4 + 0) _ (by rw [tksC_get L i 0 hi (by omega)]; rfl)).1
  · exact (hc (i * 4 + 1) _ (by rw [tksC_get L i 1 hi (by omega)]; rfl)).1
  · exact (hc (i * 4 + 2) _ (by rw [tksC_get L i 2 hi (by omega)]; rfl)).1
  · exact (hc (i * 4 + 3) _ (by rw [tksC_get L i 3 hi (by omega)]; rfl)).1
theorem tks_one (w0 w : World) (t : Tk) (hs : w0.heap.size ≤ w.heap.size) : Tks w0 (w.alloc (.cells #[.int .u8 t.k, .string ⟨t.t.toArray⟩, .bool t.n.1, .int .u64 t.n.2] 103)) (.slice (some ⟨w.heap.size, 0, none⟩) 1 1) [t] :=
  ⟨⟨rfl, .inr ⟨w.heap.size, 0, 1, _, rfl, heap_alloc_new w _, Nat.le_refl _, by simp, by unfold maxLen; omega, by simp [tksC, tkCells]⟩⟩, fun k hk => by simp [Value.owner] at hk; subst hk; exact hs⟩
/-! ### Cells that are there, whatever they hold -/
/-- The n cells of block b from o on are there, none is frozen. -/
def Room (w : World) (b o n : Nat) : Prop := ∃ c t fr, w.heap[b]? = some (.cells c t fr) ∧ o + n ≤ c.size ∧ ∀ k, o ≤ k → k < o + n → w.frozen? ⟨b, k, none⟩ = false
theorem Room.cell {w : World} {b o n : Nat} (h : Room w b o n) (k : Nat) (h1 : o ≤ k) (h2 : k < o + n) : ∃ v, w.cell? ⟨b, k, none⟩ = some v ∧ w.frozen? ⟨b, k, none⟩ = false := by
  obtain ⟨c, t, fr, hc, hs, hf⟩ := h
  refine ⟨c[k]'(by omega), ?_, hf k h1 h2⟩
  unfold World.cell?
  simp only [hc]
  simp [show k < c.size by omega]
theorem Room.lt {w : World} {b o n : Nat} (h : Room w b o n) : b < w.heap.size := by
  obtain ⟨c, t, fr, hc, _⟩ := h
  exact (Array.getElem?_eq_some_iff.1 hc).1
theorem Room.sub {w w' : World} {b o n o' n' : Nat} (h : Room w b o n) (k : Sub b o' n' w w') : Room w' b o n := by
  obtain ⟨c, t, fr, hc, hs, hf⟩ := h
  obtain ⟨c', hc', hs'⟩ := k.shape c t fr hc
  exact ⟨c', t, fr, hc', by omega, fun i h1 h2 => (k.frozen c t fr hc i).trans (hf i h1 h2)⟩
theorem Room.keep {w w' : World} {b o n : Nat} (h : Room w b o n) (hk : w'.heap[b]? = w.heap[b]?) : Room w' b o n := by
  obtain ⟨c, t, fr, hc, hs, hf⟩ := h
  exact ⟨c, t, fr, hk.trans hc, hs, fun i h1 h2 => (World.frozen?_of_block (w := w) (a := ⟨b, i, none⟩) hk).trans (hf i h1 h2)⟩
theorem Room.part {w : World} {b o n o' n' : Nat} (h : Room w b o n) (h1 : o ≤ o') (h2 : o' + n' ≤ o + n) : Room w b o' n' := by
  obtain ⟨c, t, fr, hc, hs, hf⟩ := h
  exact ⟨c, t, fr, hc, by omega, fun i h3 h4 => hf i (by omega) (by omega)⟩
theorem Room.there {w : World} {b o n : Nat} (h : Room w b o n) : w.there b o n := fun j hj => by
  obtain ⟨v, hv, hf⟩ := h.cell (o + j) (by omega) (by omega)
  exact ⟨by rw [hv]; rfl, hf⟩
theorem At.room {w : World} {b o : Nat} {vs : List Value} (h : At w b o vs) (hv : vs ≠ []) : Room w b o vs.length := by
  obtain ⟨c, t, fr, hc⟩ := h.block hv
  have hl : 0 < vs.length := List.length_pos_iff.2 hv
  refine ⟨c, t, fr, hc, ?_, fun k h1 h2 => ?_⟩
  · have h1 := (h (vs.length - 1) _ (List.getElem?_eq_getElem (by omega))).1
    unfold World.cell? at h1
    simp only [hc] at h1
    have := (Array.getElem?_eq_some_iff.1 (by simpa using h1)).1
    omega
  · have h3 := (h (k - o) _ (List.getElem?_eq_getElem (by omega))).2
    rwa [show o + (k - o) = k by omega] at h3
theorem setAll_sub (b : Nat) : ∀ (vs : List Value) (w : World) (o : Nat), Sub b o vs.length w (w.setCells b o vs) := by
  intro vs
  induction vs with
  | nil => intro w o; exact Sub.refl _ _ _ _
  | cons v r ih =>
    intro w o
    exact (sub_setCell w o v (by simp only [List.length_cons]; omega)).trans ((ih _ (o + 1)).widen (by omega) (by simp only [List.length_cons]; omega))
theorem setAll_at (b : Nat) : ∀ (vs : List Value) (w : World) (o : Nat), Room w b o vs.length → At (w.setCells b o vs) b o vs := by
  intro vs
  induction vs with
  | nil => intro w o _; exact At.nil_ _ _ _
  | cons v r ih =>
    intro w o hR
    have h1 := sub_setCell (b := b) (o := o) (n := 1) w o v (by omega)
    refine at_cons ?_ (ih _ _ ((hR.sub h1).part (by omega) (by simp only [List.length_cons]; omega)))
    have hs := setAll_sub b r (w.setCell ⟨b, o, none⟩ v) (o + 1)
    obtain ⟨u, hu, hf⟩ := hR.cell o (Nat.le_refl _) (by simp only [List.length_cons]; omega)
    have hA : At w b o [u] := fun j x hx => by
      cases j with
      | zero => have : x = u := by simpa using hx.symm
                subst this; exact ⟨hu, hf⟩
      | succ j => simp at hx
    have hB : At (w.setCell ⟨b, o, none⟩ v) b o [v] := hA.set 0 (by simp) v
    exact (hB.sub hs (.inl (by simp))) 0 v rfl
/-- All cells of a variable written at once, as the walk meets it. -/
theorem wpList_store_room {P : Program} {ops : Array Oper} {rest : List Oper} {op : Oper} {a : Act} {w : World} {Q : Exit → Act → World → Prop} (hgd : op.guard = none) (ty : TypeId) (x y : Operand) (ho : op.op = .store ty x y)
    (b o : Nat) (cs : List Value) (hx : a.eval x = .pointer (some ⟨b, o, none⟩)) (hy : a.eval y = .agg cs.toArray) (hr : Room w b o cs.length) (hi : (P.info? ty).map (·.size) = some cs.length) (h1 : cs.toArray.all (·.oneCell') = true)
    (h : ∀ w', Hid (At w' b o cs ∧ Sub b o cs.length w w') → wpList P ops Q rest (a.put op.dst undef) w') : wpList P ops Q (op :: rest) a w :=
  wpList_store_mid hgd ty x y ho b o cs.toArray hx hy (by simpa using hr.there) (by simpa using hi) h1 (h _ (Lib.hid ⟨setAll_at b _ w o hr, setAll_sub b _ w o⟩))
theorem Room.alloc {w : World} {b o n : Nat} (h : Room w b o n) (x : Obj) : Room (w.alloc x) b o n := h.keep (Below.heap_alloc w x b h.lt)
theorem sub_of_below {w w' : World} {b : Nat} (h : Below w.heap.size w w') (hb : b < w.heap.size) (o n : Nat) : Sub b o n w w' :=
  ⟨⟨h.os, h.tape, h.output, h.size, fun k hk _ => h.block k hk, fun _ h => .inl h⟩, fun c _ _ hc => ⟨c, (h.block b hb).trans hc, rfl⟩, fun _ _ => World.cell?_of_block (w := w) (h.block b hb)⟩
end Go.Proofs.Ytacngbngljfedaa
/-
  CONTRACTS of lexer.Lexer, part A: told, end, endNumber; where a Lexer stands.
-/
namespace Go.Proofs.Ytacngbngljfedaa
open Go.RowKit
open Go.Lib
/-- The cells of a Lexer that stands between tokens, or behind an error. -/
abbrev lxZ (e : Int) : List Value := [.int .i64 e, .int .i64 0, .int .i64 0, .int .i64 0, .int .u8 0, .int .u8 0, .bool false, .int .i64 0, .int .i64 0, .int .i64 0, .string ⟨#[]⟩, .int .i64 0, .int .i64 0, .bool false, .int .u64 0, .int .u64 0, .string ⟨#[]⟩, .int .i64 0]
set_option maxRecDepth 100000 in
set_option maxHeartbeats 1600000 in
theorem told_ok (p : Value) (v : Value) (w : World) : Calls Try.prog 46 #[p, v, .int .i64 0] w fun e w' => e = .returned (.tuple #[v, .int .i64 0]) ∧ w' = w := by
  go_enter Try.func46, Try.ntmps46
  go_wp2
  go_ret2
  exact ⟨rfl, rfl⟩
set_option maxRecDepth 100000 in
set_option maxHeartbeats 1600000 in
theorem told_err {w : World} {b o : Nat} (h : Room w b o 18) (v : Value) (e : Nat) (he : e ≠ 0) :
    Calls Try.prog 46 #[.pointer (some ⟨b, o, none⟩), v, .int .i64 e] w fun r w' => r = .returned (.tuple #[.slice none 0 0, .int .i64 e]) ∧ At w' b o (lxZ e) ∧ Sub b o 18 w w' := by
  have hz : ((e : Int) != 0) = true := by simp; omega
  have HT := Lib.hid h
  clear h he
  go_enter Try.func46, Try.ntmps46
  go_wp2_with (refine wpList_store_room rfl 81 _ _ rfl b o (lxZ e) rfl rfl HT.out (by kernel_rfl) (by kernel_rfl) ?_)
  intro w1 HP
  go_wp2
  go_ret2
  exact ⟨rfl, HP.out⟩
theorem sub_of_alloc {b o n : Nat} {w w1 : World} {x : Obj} (h : Sub b o n (w.alloc x) w1) (hb : b < w.heap.size) : Sub b o n w w1 := (sub_alloc b o n w x hb).trans h
set_option maxRecDepth 100000 in
set_option maxHeartbeats 1600000 in
theorem lend_at {w : World} {b o : Nat} (h : Room w b o 18) (t : Tk) :
    Calls Try.prog 63 #[.pointer (some ⟨b, o, none⟩), tkV t] w fun r w' => ∃ v, r = .returned v ∧ Tks w w' v [t] ∧ At w' b o (lxZ 0) ∧ Sub b o 18 w w' := by
  have HT := Lib.hid (h.alloc (.cells #[.int .u8 t.k, .string ⟨t.t.toArray⟩, .bool t.n.1, .int .u64 t.n.2] 103))
  have HB := Lib.hid h.lt
  have HK : Hid (∀ W : World, w.heap.size ≤ W.heap.size → Tks w (W.alloc (.cells #[.int .u8 t.k, .string ⟨t.t.toArray⟩, .bool t.n.1, .int .u64 t.n.2] 103)) (.slice (some ⟨W.heap.size, 0, none⟩) 1 1) [t]) := Lib.hid (fun W hW => tks_one w W t hW)
  unfold tkV
  generalize (t.k : Int) = x0 at *
  generalize (⟨t.t.toArray⟩ : ByteArray) = x1 at *
  generalize t.n.1 = x2 at *
  generalize (t.n.2 : Int) = x3 at *
  clear h
  go_enter Try.func63, Try.ntmps63
  go_wp2_with (refine wpList_store_room rfl 81 _ _ rfl b o (lxZ 0) rfl rfl HT.out (by kernel_rfl) (by kernel_rfl) ?_)
  intro w1 HP
  have hB := Blk.lift (blk_new w #[.int .u8 x0, .string x1, .bool x2, .int .u64 x3] 103) (w2 := w1) (row := some b) ⟨HP.out.2.step.os, HP.out.2.step.tape, HP.out.2.step.output, HP.out.2.step.size, fun k hk hb => HP.out.2.step.block k hk (by simpa using hb)⟩ (by have := HB.out; simp; omega)
  have c0 := hB.cell 0
  have c1 := hB.cell 1
  have c2 := hB.cell 2
  have c3 := hB.cell 3
  simp only [List.getElem?_toArray, List.getElem?_cons_zero, List.getElem?_cons_succ] at c0 c1 c2 c3
  have hsz : w.heap.size ≤ w1.heap.size := by have := HP.out.2.step.size; simp at this; omega
  have HS := Lib.hid hsz
  clear hB hsz
  go_wp2
  go_ret
  refine ⟨_, rfl, HK.out w1 HS.out, ?_, ?_⟩
  · exact HP.out.1.alloc (by simp) _
  · exact (sub_of_alloc HP.out.2 HB.out).alloc _ HB.out
end Go.Proofs.Ytacngbngljfedaa
/-
  CONTRACTS of lexer.Lexer, part B: letterOf, kindOf, wordOf.
-/
namespace Go.Proofs.Ytacngbngljfedaa
open Go.RowKit
open Go.Lib
theorem dec_low (s : ByteArray) (pos : Nat) (h : pos < s.size) (h1 : (s[pos]'h).toNat < 128) : Utf8.decode s pos = ((s[pos]'h).toNat, 1) := by
  simp only [Utf8.decode, get_at s pos h, h1, if_true]
set_option maxHeartbeats 1000000 in
/-- A letter of a text of bytes below 128. -/
theorem letter_any (s : ByteArray) (i : Nat) (hi : i < s.size) (hb : ∀ k (h : k < s.size), (s[k]'h).toNat < 128) (w : World) :
    Calls Try.prog 69 #[.string s, .int .i64 i] w fun e w' => e = .returned (.int .i32 ((s[i]'hi).toNat : Nat)) ∧ Below w.heap.size w w' := by
  obtain ⟨xv, hx⟩ : ∃ xv, (s[i]'hi).toNat = xv := ⟨_, rfl⟩
  rw [hx]
  have HX := Lib.hid hx
  have HBS := Lib.hid hb
  clear hx hb
  go_enter Try.func69, Try.ntmps69
  go_wp2
  go_loopw [5, 6] (fun _ _ wr => ∃ pos : Nat, pos ≤ i ∧ Hid (wr = w.iter s pos)) (fun _ _ wr => s.size - wr.iterPos w.heap.size)
  case atStart => exact ⟨0, by omega, Lib.hid rfl⟩
  case round =>
    obtain ⟨pos, hpi, HW⟩ := hrel
    obtain rfl := HW.out
    have hp : pos < s.size := by omega
    have hnext : ∀ ty, (Instr.next (.pointer (some ⟨w.heap.size, 0, none⟩)) true ty).run Try.prog (w.iter s pos) = _ := fun ty => run_next_any w s pos ty hp
    rw [dec_low s pos hp (HBS.out pos hp)] at hnext
    have hr : (s[pos]'hp).toNat < 128 := HBS.out pos hp
    have hB : Hid (Below w.heap.size w (w.iter s (pos + 1))) := Lib.hid ((Below.refl _ w).alloc (Nat.le_refl _) _)
    have hm : (w.iter s (pos + 1)).iterPos w.heap.size = pos + 1 := World.iterPos_iter w s (pos + 1)
    have hm0 : (w.iter s pos).iterPos w.heap.size = pos := World.iterPos_iter w s pos
    by_cases he : pos = i
    · have hz : ((pos : Int) == (i : Int)) = true := by rw [beq_iff_eq]; omega
      have hx : (s[pos]'hp).toNat = xv := by have := HX.out; simp only [← he] at this; exact this
      rw [hx] at hnext hr
      clear hx he
      generalize w.iter s (pos + 1) = W2 at *
      generalize w.iter s pos = W1 at *
      go_wp2
      go_ret
      exact ⟨rfl, hB.out⟩
    · have hz : ((pos : Int) == (i : Int)) = false := by rw [beq_eq_false_iff_ne]; omega
      generalize (s[pos]'hp).toNat = y at hnext hr
      go_wp2
      go_roundw
      case rel => exact ⟨pos + 1, by omega, Lib.hid rfl⟩
      case measure => rw [hm, hm0]; omega
/-! ### The three words -/
def wordsX : List (Nat × List Nat) := [(116, [116, 114, 117, 101]), (102, [102, 97, 108, 115, 101]), (48, [110, 117, 108, 108])]
def bytesN (l : List Nat) : ByteArray := ⟨(l.map UInt8.ofNat).toArray⟩
/-- A word of which the letters ahead of place i are there, and those of r lack. -/
def Wrd (k : Nat) (W : ByteArray) (i : Nat) (r : List Nat) : Prop := ∃ L, (k, L) ∈ wordsX ∧ W = bytesN L ∧ 1 ≤ i ∧ i < L.length ∧ r = L.drop i
theorem words_low {k : Nat} {L : List Nat} (h : (k, L) ∈ wordsX) : L.length ≤ 5 ∧ ∀ x ∈ L, x < 128 := by
  simp only [wordsX, List.mem_cons, Prod.mk.injEq, List.not_mem_nil, or_false] at h
  rcases h with ⟨_, rfl⟩ | ⟨_, rfl⟩ | ⟨_, rfl⟩ <;> decide
theorem bytesN_size (l : List Nat) : (bytesN l).size = l.length := by simp [bytesN, ByteArray.size]
theorem bytesN_get (l : List Nat) (i : Nat) (h : i < (bytesN l).size) (hl : ∀ x ∈ l, x < 256) : ((bytesN l)[i]'h).toNat = l[i]'(by rw [bytesN_size] at h; exact h) := by
  have h' : i < l.length := by rw [bytesN_size] at h; exact h
  have : (bytesN l)[i]'h = UInt8.ofNat l[i] := by simp [bytesN, ByteArray.getElem_eq_getElem_data]
  rw [this]
  have := hl l[i] (List.getElem_mem h')
  simp
  omega
/-- letterOf of a word. -/
theorem letter_word {k i : Nat} {W : ByteArray} {x : Nat} {q : List Nat} (h : Wrd k W i (x :: q)) (w : World) :
    Calls Try.prog 69 #[.string W, .int .i64 i] w fun e w' => e = .returned (.int .i32 (x : Nat)) ∧ Below w.heap.size w w' := by
  obtain ⟨L, hL, rfl, h1, h2, h3⟩ := h
  obtain ⟨hl, hb⟩ := words_low hL
  have hi : i < (bytesN L).size := by rw [bytesN_size]; exact h2
  have := letter_any (bytesN L) i hi (fun k hk => by rw [bytesN_get _ _ _ (fun x hx => by have := hb x hx; omega)]; exact hb _ (List.getElem_mem _)) w
  rw [bytesN_get _ _ _ (fun x hx => by have := hb x hx; omega)] at this
  rw [List.drop_eq_getElem_cons h2] at h3
  injection h3 with h3 _
  rw [h3]
  exact this
theorem kindOf_any {k i : Nat} {W : ByteArray} {r : List Nat} (h : Wrd k W i r) (w : World) :
    Calls Try.prog 70 #[.string W] w fun e w' => e = .returned (.int .u8 k) ∧ w' = w := by
  obtain ⟨L, hL, rfl, _⟩ := h
  simp only [wordsX, List.mem_cons, Prod.mk.injEq, List.not_mem_nil, or_false] at hL
  rcases hL with ⟨rfl, rfl⟩ | ⟨rfl, rfl⟩ | ⟨rfl, rfl⟩
  · show Calls Try.prog 70 #[.string ⟨#[116, 114, 117, 101]⟩] w _
    go_enter Try.func70, Try.ntmps70
    go_wp2
    go_ret
    exact ⟨rfl, rfl⟩
  · show Calls Try.prog 70 #[.string ⟨#[102, 97, 108, 115, 101]⟩] w _
    go_enter Try.func70, Try.ntmps70
    go_wp2
    go_ret
    exact ⟨rfl, rfl⟩
  · show Calls Try.prog 70 #[.string ⟨#[110, 117, 108, 108]⟩] w _
    go_enter Try.func70, Try.ntmps70
    go_wp2
    go_ret
    exact ⟨rfl, rfl⟩
theorem wordOf_any (b : Nat) (hb : b = 116 ∨ b = 102 ∨ b = 110) (w : World) : ∃ k W r, Wrd k W 1 r ∧ startX b = (.word k r, []) ∧
    Calls Try.prog 71 #[.int .u8 b] w fun e w' => e = .returned (.string W) ∧ w' = w := by
  rcases hb with rfl | rfl | rfl
  · refine ⟨116, ⟨#[116, 114, 117, 101]⟩, [114, 117, 101], ⟨[116, 114, 117, 101], by decide, rfl, by decide, by decide, rfl⟩, rfl, ?_⟩
    go_enter Try.func71, Try.ntmps71
    go_wp2
    go_ret
    exact ⟨rfl, rfl⟩
  · refine ⟨102, ⟨#[102, 97, 108, 115, 101]⟩, [97, 108, 115, 101], ⟨[102, 97, 108, 115, 101], by decide, rfl, by decide, by decide, rfl⟩, rfl, ?_⟩
    go_enter Try.func71, Try.ntmps71
    go_wp2
    go_ret
    exact ⟨rfl, rfl⟩
  · refine ⟨48, ⟨#[110, 117, 108, 108]⟩, [117, 108, 108], ⟨[110, 117, 108, 108], by decide, rfl, by decide, by decide, rfl⟩, rfl, ?_⟩
    go_enter Try.func71, Try.ntmps71
    go_wp2
    go_ret
    exact ⟨rfl, rfl⟩
end Go.Proofs.Ytacngbngljfedaa
/-
  CONTRACTS of lexer.Lexer, part C: where a Lexer stands; begin.
-/
namespace Go.Proofs.Ytacngbngljfedaa
open Go.RowKit
open Go.Lib
theorem insE_eq (s : Ins) : insE s = errI s := by
  match s with
  | .text _ _ _ => rfl
  | .back => rfl
  | .hex _ _ => rfl
  | .high _ _ _ => rfl
  | .bad true => rfl
  | .bad false => rfl
def errX : Lx → Nat
  | .bad e => e
  | _ => 0
/-- THE LEXER at place o of block b stands at a state. -/
def LAt (w : World) (b o : Nat) : Lx → Prop
  | .bad e => e ≠ 0 ∧ At w b o (lxZ e)
  | .idle => At w b o (lxZ 0)
  | .str s t => (errI s = 0 ∧ t.length ≤ 200) ∧ At w b o [.int .i64 0, .int .i64 1] ∧ EAt w b (o + 2) s ∧ At w b (o + 10) [.string ⟨t.toArray⟩] ∧ Room w b o 18
  | .num d => errD d = 0 ∧ At w b o [.int .i64 0, .int .i64 2] ∧ At w b (o + 10) [.string ⟨#[]⟩] ∧ DAt w b (o + 11) d ∧ Room w b o 18
  | .word k r => ∃ W i, Wrd k W i r ∧ At w b o [.int .i64 0, .int .i64 3] ∧ At w b (o + 10) [.string ⟨#[]⟩] ∧ At w b (o + 16) [.string W, .int .i64 (i : Nat)] ∧ Room w b o 18
theorem lxz_room {w : World} {b o : Nat} {e : Int} (h : At w b o (lxZ e)) : Room w b o 18 := h.room (by simp)
theorem LAt.room {w : World} {b o : Nat} {s : Lx} (h : LAt w b o s) : Room w b o 18 := by
  match s, h with
  | .bad e, h => exact lxz_room h.2
  | .idle, h => exact lxz_room h
  | .str s t, h => exact h.2.2.2.2
  | .num d, h => exact h.2.2.2.2
  | .word k r, h => obtain ⟨W, i, _, _, _, _, h⟩ := h; exact h
theorem LAt.keep {w w' : World} {b o : Nat} {s : Lx} (h : LAt w b o s) (hk : w'.heap[b]? = w.heap[b]?) : LAt w' b o s := by
  match s, h with
  | .bad e, h => exact ⟨h.1, h.2.keep hk⟩
  | .idle, h => exact At.keep h hk
  | .str s t, h => exact ⟨h.1, h.2.1.keep hk, h.2.2.1.keep hk, h.2.2.2.1.keep hk, h.2.2.2.2.keep hk⟩
  | .num d, h => exact ⟨h.1, h.2.1.keep hk, h.2.2.1.keep hk, h.2.2.2.1.keep hk, h.2.2.2.2.keep hk⟩
  | .word k r, h => obtain ⟨W, i, h0, h1, h2, h3, h4⟩ := h; exact ⟨W, i, h0, h1.keep hk, h2.keep hk, h3.keep hk, h4.keep hk⟩
theorem LAt.lt {w : World} {b o : Nat} {s : Lx} (h : LAt w b o s) : b < w.heap.size := h.room.lt
theorem LAt.below {w w' : World} {b o B : Nat} {s : Lx} (h : LAt w b o s) (hb : Below B w w') (hB : b < B) : LAt w' b o s := h.keep (hb.block b hB)
theorem LAt.alloc {w : World} {b o : Nat} {s : Lx} (h : LAt w b o s) (x : Obj) : LAt (w.alloc x) b o s := h.keep (Below.heap_alloc w x b h.lt)
theorem LAt.sub {w w' : World} {b o o' n : Nat} {s : Lx} (h : LAt w b o s) (k : Sub b o' n w w') (hd : o + 18 ≤ o' ∨ o' + n ≤ o) : LAt w' b o s := by
  match s, h with
  | .bad e, h => exact ⟨h.1, h.2.sub k (by simp only [List.length_cons, List.length_nil]; omega)⟩
  | .idle, h => exact At.sub h k (by simp only [List.length_cons, List.length_nil]; omega)
  | .str s t, h => exact ⟨h.1, h.2.1.sub k (by simp only [List.length_cons, List.length_nil]; omega), h.2.2.1.sub k (by omega), h.2.2.2.1.sub k (by simp only [List.length_cons, List.length_nil]; omega), h.2.2.2.2.sub k⟩
  | .num d, h => exact ⟨h.1, h.2.1.sub k (by simp only [List.length_cons, List.length_nil]; omega), h.2.2.1.sub k (by simp only [List.length_cons, List.length_nil]; omega), h.2.2.2.1.sub k (by omega), h.2.2.2.2.sub k⟩
  | .word k' r, h =>
    obtain ⟨W, i, h0, h1, h2, h3, h4⟩ := h
    exact ⟨W, i, h0, h1.sub k (by simp only [List.length_cons, List.length_nil]; omega), h2.sub k (by simp only [List.length_cons, List.length_nil]; omega), h3.sub k (by simp only [List.length_cons, List.length_nil]; omega), h4.sub k⟩
/-- The parts of a Lexer that is all zero but its error. -/
theorem lxz_parts {w : World} {b o : Nat} {e : Int} (h : At w b o (lxZ e)) :
    At w b o [.int .i64 e, .int .i64 0] ∧ EAt w b (o + 2) insT ∧ At w b (o + 10) [.string ⟨#[]⟩] ∧ DAt w b (o + 11) d0 ∧ At w b (o + 16) [.string ⟨#[]⟩, .int .i64 0] ∧ Room w b o 18 := by
  have h0 : At w b o ([.int .i64 e, .int .i64 0] ++ (rdZero.toList ++ ([.string ⟨#[]⟩] ++ (nmCells 0 0 false 0 0 ++ [.string ⟨#[]⟩, .int .i64 0])))) := h
  have h1 := h0.right
  have h2 := h1.right
  have h3 := h2.right
  have h4 := h3.right
  exact ⟨h0.left, eat_of h1.left, h2.left, dat_zero h3.left, h4, lxz_room h⟩
/-- What a step leaves ahead of told. -/
def LPost (w : World) (b o : Nat) (s : Lx) (w' : World) : Prop := Sub b o 18 w w' ∧ (errX s = 0 → LAt w' b o s)
theorem LPost.idle {w w' : World} {b o : Nat} (h : At w' b o (lxZ 0)) (k : Sub b o 18 w w') : LPost w b o .idle w' := ⟨k, fun _ => h⟩
set_option maxHeartbeats 1000000 in
theorem begin_blank {w : World} (p : Value) (x : Nat) (hx : x = 32 ∨ x = 9 ∨ x = 10 ∨ x = 13) :
    Calls Try.prog 60 #[p, .int .u8 x] w fun r w' => r = .returned (.tuple #[.slice none 0 0, .int .i64 0]) ∧ w' = w := by
  rcases hx with rfl | rfl | rfl | rfl
  all_goals
    go_enter Try.func60, Try.ntmps60
    go_wp2
    go_ret2
    exact ⟨rfl, rfl⟩
set_option maxHeartbeats 1000000 in
theorem begin_sign {w : World} {b o : Nat} (h : At w b o (lxZ 0)) (x : Nat) (hx : x = 123 ∨ x = 125 ∨ x = 91 ∨ x = 93 ∨ x = 58 ∨ x = 44) :
    Calls Try.prog 60 #[.pointer (some ⟨b, o, none⟩), .int .u8 x] w fun r w' => ∃ v, r = .returned (.tuple #[v, .int .i64 0]) ∧ Tks w w' v [sgnT x] ∧ At w' b o (lxZ 0) ∧ Sub b o 18 w w' := by
  have HE : Hid (Calls Try.prog 63 #[.pointer (some ⟨b, o, none⟩), .agg #[.int .u8 x, .string ⟨#[]⟩, .bool false, .int .u64 0]] w fun r w' => ∃ v, r = .returned v ∧ Tks w w' v [sgnT x] ∧ At w' b o (lxZ 0) ∧ Sub b o 18 w w') := Lib.hid (lend_at (lxz_room h) (sgnT x))
  clear h
  rcases hx with rfl | rfl | rfl | rfl | rfl | rfl
  all_goals
    go_enter Try.func60, Try.ntmps60
    go_wp2_with fail
    refine HE.out.mono ?_
    rintro r w1 ⟨v, rfl, hT⟩
    have HT := Lib.hid hT
    clear hT
    go_wp2
    go_ret2
    exact ⟨v, rfl, HT.out⟩
theorem at_two {w : World} {b o : Nat} {v0 v1 : Value} (h : At w b o [v0, v1]) : (w.cell? ⟨b, o, none⟩ = some v0 ∧ w.frozen? ⟨b, o, none⟩ = false) ∧ (w.cell? ⟨b, o + 1, none⟩ = some v1 ∧ w.frozen? ⟨b, o + 1, none⟩ = false) := ⟨h 0 v0 rfl, h 1 v1 rfl⟩
set_option maxHeartbeats 1000000 in
theorem begin_quote {w : World} {b o : Nat} (h : At w b o (lxZ 0)) :
    Calls Try.prog 60 #[.pointer (some ⟨b, o, none⟩), .int .u8 34] w fun r w' => r = .returned (.tuple #[.slice none 0 0, .int .i64 0]) ∧ LPost w b o (.str insT []) w' := by
  obtain ⟨h0, h1, h2, h3, h4, h5⟩ := lxz_parts h
  have hs := sub_setCell (b := b) (o := o + 1) (n := 1) w (o + 1) (.int .i64 1) (by omega)
  have HP : Hid (LPost w b o (.str insT []) (w.setCell ⟨b, o + 1, none⟩ (.int .i64 1))) := Lib.hid
    ⟨hs.widen (by omega) (by omega), fun _ => ⟨⟨rfl, by simp⟩, h0.set 1 (by simp) _, h1.sub hs (by omega), h2.sub hs (by simp only [List.length_cons, List.length_nil]; omega), h5.sub hs⟩⟩
  obtain ⟨_, c1, f1⟩ := at_two h0
  clear h h0 h1 h2 h3 h4 h5 hs
  go_enter Try.func60, Try.ntmps60
  go_wp2
  go_ret2
  exact ⟨rfl, HP.out⟩
set_option maxHeartbeats 1000000 in
theorem begin_word {w : World} {b o : Nat} (h : At w b o (lxZ 0)) (x : Nat) (hx : x = 116 ∨ x = 102 ∨ x = 110) :
    Calls Try.prog 60 #[.pointer (some ⟨b, o, none⟩), .int .u8 x] w fun r w' => r = .returned (.tuple #[.slice none 0 0, .int .i64 0]) ∧ LPost w b o (startX x).1 w' ∧ (startX x).2 = [] := by
  obtain ⟨k, W, r, hW, hst, hC⟩ := wordOf_any x hx w
  rw [hst]
  obtain ⟨h0, _, h2, _, h4, h5⟩ := lxz_parts h
  have s1 := sub_setCell (b := b) (o := o + 1) (n := 1) w (o + 1) (.int .i64 3) (by omega)
  have s2 := sub_setCell (b := b) (o := o + 16) (n := 2) (w.setCell ⟨b, o + 1, none⟩ (.int .i64 3)) (o + 16) (.string W) (by omega)
  have s3 := sub_setCell (b := b) (o := o + 16) (n := 2) ((w.setCell ⟨b, o + 1, none⟩ (.int .i64 3)).setCell ⟨b, o + 16, none⟩ (.string W)) (o + 17) (.int .i64 1) (by omega)
  have ss := s2.trans s3
  have a4 := ((h4.sub s1 (by omega)).set 0 (by simp) (.string W)).set 1 (by simp) (.int .i64 1)
  have HP : Hid (LPost w b o (.word k r) (((w.setCell ⟨b, o + 1, none⟩ (.int .i64 3)).setCell ⟨b, o + 16, none⟩ (.string W)).setCell ⟨b, o + 17, none⟩ (.int .i64 1))) := Lib.hid
    ⟨(s1.widen (by omega) (by omega)).trans (ss.widen (by omega) (by omega)), fun _ => ⟨W, 1, hW, (h0.set 1 (by simp) _).sub ss (by simp only [List.length_set, List.length_cons, List.length_nil]; omega), (h2.sub s1 (by omega)).sub ss (by simp only [List.length_cons, List.length_nil]; omega), a4, (h5.sub s1).sub ss⟩⟩
  obtain ⟨_, c1, f1⟩ := at_two h0
  obtain ⟨⟨c2, f2⟩, c3, f3⟩ := at_two h4
  have HC := Lib.hid hC
  clear h h0 h2 h4 h5 s1 s2 s3 ss a4 hW hst hC
  rcases hx with rfl | rfl | rfl
  all_goals
    go_enter Try.func60, Try.ntmps60
    go_wp2_with fail
    refine HC.out.mono ?_
    rintro r w1 ⟨rfl, rfl⟩
    go_wp2
    go_ret2
    exact ⟨rfl, HP.out, trivial⟩
set_option maxHeartbeats 1000000 in
theorem bnum_at {w : World} {b o : Nat} (h : At w b o (lxZ 0)) (x : Nat) :
    Calls Try.prog 72 #[.pointer (some ⟨b, o, none⟩), .int .u8 x] w fun r w' => r = .returned (.tuple #[.slice none 0 0, .int .i64 (errD (stepD d0 x).1)]) ∧ Sub b o 18 w w' ∧ (errD (stepD d0 x).1 = 0 → LAt w' b o (.num (stepD d0 x).1)) := by
  obtain ⟨h0, _, h2, h3, _, h5⟩ := lxz_parts h
  have s1 := sub_setCell (b := b) (o := o + 1) (n := 1) w (o + 1) (.int .i64 2) (by omega)
  have HD := Lib.hid (dstep_at (h3.sub s1 (by omega)) x)
  have HP : Hid (∀ w', DPost (w.setCell ⟨b, o + 1, none⟩ (.int .i64 2)) b (o + 11) (stepD d0 x).1 w' → Sub b o 18 w w' ∧ (errD (stepD d0 x).1 = 0 → LAt w' b o (.num (stepD d0 x).1))) := Lib.hid (fun w' hp =>
    ⟨(s1.widen (by omega) (by omega)).trans (hp.2.widen (by omega) (by omega)), fun he => ⟨he, (h0.set 1 (by simp) _).sub hp.2 (by simp only [List.length_set, List.length_cons, List.length_nil]; omega), (h2.sub s1 (by omega)).sub hp.2 (by simp only [List.length_cons, List.length_nil]; omega), hp.1, (h5.sub s1).sub hp.2⟩⟩)
  obtain ⟨_, c1, f1⟩ := at_two h0
  clear h h0 h2 h3 h5 s1
  generalize stepD d0 x = q at *
  obtain ⟨q1, q2⟩ := q
  simp only [] at HD HP ⊢
  obtain ⟨E, hE⟩ : ∃ E : Nat, errD q1 = E := ⟨_, rfl⟩
  rw [hE] at HD HP ⊢
  clear hE
  go_enter Try.func72, Try.ntmps72
  go_wp2_with fail
  refine HD.out.mono ?_
  rintro r w1 ⟨rfl, hp⟩
  have HQ := Lib.hid (HP.out w1 hp)
  clear hp
  go_wp2
  go_ret2
  exact ⟨rfl, HQ.out⟩
def isElse (x : Nat) : Prop := isBlank x = false ∧ isSgn x = false ∧ x ≠ 34 ∧ x ≠ 116 ∧ x ≠ 102 ∧ x ≠ 110
theorem start_else {x : Nat} (h : isElse x) : (errD (stepD d0 x).1 = 0 → startX x = (.num (stepD d0 x).1, [])) ∧ (errD (stepD d0 x).1 ≠ 0 → startX x = (.bad (errD (stepD d0 x).1), [])) := by
  obtain ⟨h1, h2, h3, h4, h5, h6⟩ := h
  unfold startX
  rw [if_neg (by rw [h1]; decide), if_neg (by rw [h2]; decide), if_neg h3]
  by_cases hd : x = 45 ∨ 48 ≤ x ∧ x ≤ 57
  · rw [if_pos hd]
    refine ⟨fun _ => rfl, fun he => absurd ?_ he⟩
    rcases hd with rfl | hd
    · rfl
    · simp only [d0, stepD]
      rw [if_neg (by omega), if_pos ⟨hd, by omega⟩]
      split <;> rfl
  · rw [if_neg hd, if_neg h4, if_neg h5, if_neg h6]
    have : errD (stepD d0 x).1 = 2 := by
      simp only [d0, stepD]
      rw [if_neg (by omega), if_neg (by omega), if_pos (by omega)]
      rfl
    rw [this]
    exact ⟨fun h => absurd h (by decide), fun _ => rfl⟩
set_option maxHeartbeats 2000000 in
theorem begin_else {w : World} {b o : Nat} (h : At w b o (lxZ 0)) (x : Nat) (hx : isElse x) :
    Calls Try.prog 60 #[.pointer (some ⟨b, o, none⟩), .int .u8 x] w fun r w' => r = .returned (.tuple #[.slice none 0 0, .int .i64 (errX (startX x).1)]) ∧ LPost w b o (startX x).1 w' ∧ (startX x).2 = [] := by
  obtain ⟨g1, g2⟩ := start_else hx
  have HB : Hid (Calls Try.prog 72 #[.pointer (some ⟨b, o, none⟩), .int .u8 x] w fun r w' => r = .returned (.tuple #[.slice none 0 0, .int .i64 (errX (startX x).1)]) ∧ LPost w b o (startX x).1 w' ∧ (startX x).2 = []) := Lib.hid (by
    refine (bnum_at h x).mono ?_
    rintro r w' ⟨rfl, hs, hL⟩
    by_cases he : errD (stepD d0 x).1 = 0
    · rw [g1 he]
      exact ⟨by rw [he]; rfl, ⟨hs, fun _ => hL he⟩, rfl⟩
    · rw [g2 he]
      exact ⟨rfl, ⟨hs, fun e => absurd e he⟩, rfl⟩)
  obtain ⟨h1, h2, h3, h4, h5, h6⟩ := hx
  simp only [isBlank, isSgn, Bool.or_eq_false_iff, beq_eq_false_iff_ne] at h1 h2
  have hne : ∀ y : Nat, x ≠ y → ((x : Int) == (y : Int)) = false := fun y hy => by rw [beq_eq_false_iff_ne]; omega
  have a1 : ((x : Int) == 32) = false := hne 32 (by omega)
  have a2 : ((x : Int) == 9) = false := hne 9 (by omega)
  have a3 : ((x : Int) == 10) = false := hne 10 (by omega)
  have a4 : ((x : Int) == 13) = false := hne 13 (by omega)
  have a5 : ((x : Int) == 123) = false := hne 123 (by omega)
  have a6 : ((x : Int) == 125) = false := hne 125 (by omega)
  have a7 : ((x : Int) == 91) = false := hne 91 (by omega)
  have a8 : ((x : Int) == 93) = false := hne 93 (by omega)
  have a9 : ((x : Int) == 58) = false := hne 58 (by omega)
  have a10 : ((x : Int) == 44) = false := hne 44 (by omega)
  have a11 : ((x : Int) == 34) = false := hne 34 (by omega)
  have a12 : ((x : Int) == 116) = false := hne 116 (by omega)
  have a13 : ((x : Int) == 102) = false := hne 102 (by omega)
  have a14 : ((x : Int) == 110) = false := hne 110 (by omega)
  clear h h1 h2 h3 h4 h5 h6 g1 g2 hne
  generalize startX x = q at *
  obtain ⟨q1, q2⟩ := q
  simp only [] at HB ⊢
  obtain ⟨E, hE⟩ : ∃ E : Nat, errX q1 = E := ⟨_, rfl⟩
  rw [hE] at HB ⊢
  clear hE
  go_enter Try.func60, Try.ntmps60
  go_wp2_with fail
  refine HB.out.mono ?_
  rintro r w1 ⟨rfl, hp⟩
  have HQ := Lib.hid hp
  clear hp
  go_wp2
  go_ret2
  exact ⟨rfl, HQ.out⟩
/-- BEGIN. -/
theorem lbegin_at {w : World} {b o : Nat} (h : At w b o (lxZ 0)) (x : Nat) :
    Calls Try.prog 60 #[.pointer (some ⟨b, o, none⟩), .int .u8 x] w fun r w' => ∃ v, r = .returned (.tuple #[v, .int .i64 (errX (startX x).1)]) ∧ Tks w w' v (startX x).2 ∧ LPost w b o (startX x).1 w' := by
  by_cases h1 : isBlank x = true
  · have e : startX x = (.idle, []) := by unfold startX; rw [if_pos h1]
    rw [e]
    refine (begin_blank _ x (by simp only [isBlank, Bool.or_eq_true, beq_iff_eq] at h1; omega)).mono ?_
    rintro r w' ⟨rfl, rfl⟩
    exact ⟨_, rfl, Tks.nil_ _ _, Sub.refl _ _ _ _, fun _ => h⟩
  by_cases h2 : isSgn x = true
  · have e : startX x = (.idle, [sgnT x]) := by unfold startX; rw [if_neg h1, if_pos h2]
    rw [e]
    refine (begin_sign h x (by simp only [isSgn, Bool.or_eq_true, beq_iff_eq] at h2; omega)).mono ?_
    rintro r w' ⟨v, rfl, hT, hA, hS⟩
    exact ⟨v, rfl, hT, LPost.idle hA hS⟩
  by_cases h3 : x = 34
  · subst h3
    refine (begin_quote h).mono ?_
    rintro r w' ⟨rfl, hP⟩
    exact ⟨_, rfl, Tks.nil_ _ _, hP⟩
  by_cases h4 : x = 116 ∨ x = 102 ∨ x = 110
  · have e : errX (startX x).1 = 0 := by rcases h4 with rfl | rfl | rfl <;> rfl
    rw [e]
    refine (begin_word h x h4).mono ?_
    rintro r w' ⟨rfl, hP, hn⟩
    rw [hn]
    exact ⟨_, rfl, Tks.nil_ _ _, hP⟩
  refine (begin_else h x ⟨by simpa using h1, by simpa using h2, h3, by omega, by omega, by omega⟩).mono ?_
  rintro r w' ⟨rfl, hP, hn⟩
  rw [hn]
  exact ⟨_, rfl, Tks.nil_ _ _, hP⟩
end Go.Proofs.Ytacngbngljfedaa
/-
  CONTRACTS of lexer.Lexer, part D: endNumber, inner, digit, letter.
-/
namespace Go.Proofs.Ytacngbngljfedaa
open Go.RowKit
open Go.Lib
set_option maxRecDepth 100000 in
set_option maxHeartbeats 1000000 in
/-- endNumber. -/
theorem lendnum_at {w : World} {b o : Nat} {d : Dec} (h : LAt w b o (.num d)) :
    Calls Try.prog 49 #[.pointer (some ⟨b, o, none⟩)] w fun r w' => ∃ v, r = .returned (.tuple #[v, .int .i64 (endD d).2]) ∧ Sub b o 18 w w' ∧ ((endD d).2 = 0 → Tks w w' v [⟨110, [], (endD d).1⟩] ∧ At w' b o (lxZ 0)) := by
  have hb := h.lt
  have hR := h.room
  have hE := dend_at h.2.2.2.1
  obtain ⟨⟨⟨q, n⟩, e⟩, he⟩ : ∃ p, endD d = p := ⟨_, rfl⟩
  rw [he] at hE ⊢
  simp only [] at hE ⊢
  have HR := Lib.hid (And.intro hb hR)
  have HE := Lib.hid hE
  clear hE he h hb hR
  by_cases h0 : e = 0
  · subst h0
    go_enter Try.func49, Try.ntmps49
    go_wp2_with fail
    refine HE.out.mono ?_
    rintro r w1 ⟨rfl, hB⟩
    have HB := Lib.hid hB
    clear hB
    obtain ⟨W, hW⟩ : ∃ W, w1.alloc (.cells #[.bool q, .int .u64 n] 55) = W := ⟨_, rfl⟩
    have hBW : Below w.heap.size w W := by rw [← hW]; exact HB.out.alloc HB.out.size _
    have hRW : Room W b o 18 := HR.out.2.keep (hBW.block b HR.out.1)
    have hsW : Sub b o 18 w W := sub_of_below hBW HR.out.1 _ _
    have c0 : W.cell? ⟨w1.heap.size, 0, none⟩ = some (.bool q) := by rw [← hW]; exact (blk_new w1 _ _).cell 0
    have c1 : W.cell? ⟨w1.heap.size, 1, none⟩ = some (.int .u64 n) := by rw [← hW]; exact (blk_new w1 _ _).cell 1
    have HX : Hid (Calls Try.prog 63 #[.pointer (some ⟨b, o, none⟩), .agg #[.int .u8 110, .string ⟨#[]⟩, .bool q, .int .u64 n]] W fun r w' => ∃ v, r = .returned v ∧ Tks W w' v [⟨110, [], (q, n)⟩] ∧ At w' b o (lxZ 0) ∧ Sub b o 18 W w') := Lib.hid (lend_at hRW ⟨110, [], (q, n)⟩)
    have HS := Lib.hid (And.intro hsW hBW)
    clear hBW hRW hsW
    go_wp2_with (rw [hW])
    refine HX.out.mono ?_
    rintro r w2 ⟨v, rfl, hT, hA, hs⟩
    have HT := Lib.hid (And.intro hT (And.intro hA hs))
    clear hT hA hs
    go_wp2
    go_ret2
    exact ⟨v, rfl, HS.out.1.trans HT.out.2.2, fun _ => ⟨HT.out.1.old HS.out.2.size, HT.out.2.1⟩⟩
  · have hz : ((e : Int) != 0) = true := by simp; omega
    go_enter Try.func49, Try.ntmps49
    go_wp2_with fail
    refine HE.out.mono ?_
    rintro r w1 ⟨rfl, hB⟩
    have HB := Lib.hid hB
    clear hB
    go_wp2
    go_ret2
    refine ⟨_, rfl, ?_, fun h => absurd h h0⟩
    exact sub_of_below (HB.out.alloc HB.out.size _) HR.out.1 _ _
end Go.Proofs.Ytacngbngljfedaa
/-
  CONTRACTS of lexer.Lexer, part E: inner (a byte of a string), letter (a byte of a word).
-/
namespace Go.Proofs.Ytacngbngljfedaa
open Go.RowKit
open Go.Lib
theorem at_ten {w : World} {b o : Nat} {v : Value} (h : At w b o [v]) : w.cell? ⟨b, o, none⟩ = some v ∧ w.frozen? ⟨b, o, none⟩ = false := h 0 v rfl
theorem u8eq (x : UInt8) (y : Nat) (h : x.toNat ≠ y) : ((x.toNat : Int) == (y : Int)) = false := by rw [beq_eq_false_iff_ne]; omega
/-- What inner, letter, digit tell: the tokens only without an error. -/
def TPostL (w : World) (b o : Nat) (p : Lx × List Tk) (v : Value) (w' : World) : Prop := LPost w b o p.1 w' ∧ (errX p.1 = 0 → Tks w w' v p.2)
set_option maxRecDepth 100000 in
set_option maxHeartbeats 1000000 in
theorem inner_end {w : World} {b o : Nat} {s : Ins} {t : List UInt8} (h : LAt w b o (.str s t)) (hw : wholeI s = true) :
    Calls Try.prog 57 #[.pointer (some ⟨b, o, none⟩), .int .u8 34] w fun r w' => ∃ v, r = .returned (.tuple #[v, .int .i64 0]) ∧ TPostL w b o (.idle, [⟨115, t, (false, 0)⟩]) v w' := by
  have HW := Lib.hid (ewhole_at h.2.2.1)
  rw [hw] at HW
  obtain ⟨c10, f10⟩ := at_ten h.2.2.2.1
  have HX : Hid (Calls Try.prog 63 #[.pointer (some ⟨b, o, none⟩), .agg #[.int .u8 115, .string ⟨t.toArray⟩, .bool false, .int .u64 0]] w fun r w' => ∃ v, r = .returned v ∧ Tks w w' v [⟨115, t, (false, 0)⟩] ∧ At w' b o (lxZ 0) ∧ Sub b o 18 w w') := Lib.hid (lend_at h.room ⟨115, t, (false, 0)⟩)
  obtain ⟨X, hX⟩ : ∃ X : ByteArray, (⟨t.toArray⟩ : ByteArray) = X := ⟨_, rfl⟩
  rw [hX] at c10 HX
  clear h hw hX
  go_enter Try.func57, Try.ntmps57
  go_wp2_with fail
  refine HW.out.mono ?_
  rintro r w1 ⟨rfl, rfl⟩
  go_wp2_with fail
  refine HX.out.mono ?_
  rintro r w1 ⟨v, rfl, hT, hA, hs⟩
  have HT : Hid (TPostL w b o (.idle, [⟨115, t, (false, 0)⟩]) v w1) := Lib.hid ⟨LPost.idle hA hs, fun _ => hT⟩
  clear hT hA hs
  go_wp2
  go_ret2
  exact ⟨v, rfl, HT.out⟩
set_option maxRecDepth 100000 in
set_option maxHeartbeats 2000000 in
theorem inner_go {w : World} {b o : Nat} {s : Ins} {t : List UInt8} (h : LAt w b o (.str s t)) (x : UInt8) (hx : ¬ (x.toNat = 34 ∧ wholeI s = true)) :
    Calls Try.prog 57 #[.pointer (some ⟨b, o, none⟩), .int .u8 x.toNat] w fun r w' => r = .returned (.tuple #[.slice none 0 0, .int .i64 (errX (stepX (.str s t) x).1)]) ∧ TPostL w b o (stepX (.str s t) x) (.slice none 0 0) w' := by
  obtain ⟨⟨he, ht⟩, h0, hE, h10, hR⟩ := h
  have hS := estep_at hE x
  have hlen := step_len (hE.wf he) x
  simp only [stepX, insE_eq]
  rw [if_neg hx]
  generalize (stepI s x).1 = s1 at *
  generalize (stepI s x).2 = l at *
  have hq : x.toNat = 34 → wholeI s = false := fun h => by simpa using fun h2 => hx ⟨h, h2⟩
  have HW := Lib.hid (ewhole_at hE)
  obtain ⟨c10, f10⟩ := at_ten h10
  have hl1 : (⟨t.toArray⟩ : ByteArray).size = t.length := size_of t
  have hl2 : (⟨l.toArray⟩ : ByteArray).size = l.length := size_of l
  have hcat : (⟨t.toArray⟩ : ByteArray) ++ ⟨l.toArray⟩ = ⟨(t ++ l).toArray⟩ := cat_of t l
  have HF : Hid (∀ w1, EAt w1 b (o + 2) s1 → Sub b (o + 2) 8 w w1 → (w1.cell? ⟨b, o + 10, none⟩ = some (.string ⟨t.toArray⟩) ∧ w1.frozen? ⟨b, o + 10, none⟩ = false) ∧
      (errI s1 ≠ 0 → LPost w b o (.bad (errI s1)) w1) ∧ LPost w b o (.bad 5) w1 ∧ (errI s1 = 0 → (t ++ l).length ≤ 200 → LPost w b o (.str s1 (t ++ l)) (w1.setCell ⟨b, o + 10, none⟩ (.string ⟨(t ++ l).toArray⟩)))) := Lib.hid (by
    intro w1 hE1 hs1
    have hs2 := hs1.widen (o' := o) (n' := 18) (by omega) (by omega)
    have a10 := h10.sub hs1 (by simp only [List.length_cons, List.length_nil]; omega)
    refine ⟨at_ten a10, fun h => ⟨hs2, fun e => absurd e h⟩, ⟨hs2, fun e => absurd e (by decide)⟩, fun e1 e2 => ?_⟩
    have hs3 := sub_setCell (b := b) (o := o + 10) (n := 1) w1 (o + 10) (.string ⟨(t ++ l).toArray⟩) (by omega)
    exact ⟨hs2.trans (hs3.widen (by omega) (by omega)), fun _ => ⟨⟨e1, e2⟩, (h0.sub hs1 (by simp only [List.length_cons, List.length_nil]; omega)).sub hs3 (by simp only [List.length_cons, List.length_nil]; omega), hE1.sub hs3 (by omega), a10.set 0 (by simp) _, (hR.sub hs1).sub hs3⟩⟩)
  have hlt : (t ++ l).length = t.length + l.length := List.length_append
  obtain ⟨X, hX⟩ : ∃ X : ByteArray, (⟨t.toArray⟩ : ByteArray) = X := ⟨_, rfl⟩
  obtain ⟨Y, hY⟩ : ∃ Y : ByteArray, (⟨l.toArray⟩ : ByteArray) = Y := ⟨_, rfl⟩
  obtain ⟨Z, hZ⟩ : ∃ Z : ByteArray, (⟨(t ++ l).toArray⟩ : ByteArray) = Z := ⟨_, rfl⟩
  obtain ⟨E, hEE⟩ : ∃ E : Nat, errI s1 = E := ⟨_, rfl⟩
  simp only [hX, hY, hZ, hEE] at hS c10 hl1 hl2 hcat HF ⊢
  have HS := Lib.hid hS
  have key : Calls Try.prog 57 #[.pointer (some ⟨b, o, none⟩), .int .u8 x.toNat] w fun r w' => (E ≠ 0 → r = .returned (.tuple #[.slice none 0 0, .int .i64 E]) ∧ LPost w b o (.bad E) w') ∧
      (E = 0 → 200 < (t ++ l).length → r = .returned (.tuple #[.slice none 0 0, .int .i64 5]) ∧ LPost w b o (.bad 5) w') ∧ (E = 0 → (t ++ l).length ≤ 200 → r = .returned (.tuple #[.slice none 0 0, .int .i64 0]) ∧ LPost w b o (.str s1 (t ++ l)) w') := by
    rw [hlt]
    generalize t.length = n1 at *
    generalize l.length = n2 at *
    have HLT := Lib.hid hlt
    clear hS hE h0 h10 hR hx hX hY hZ hlt
    by_cases h34 : x.toNat = 34
    · have hw : wholeI s = false := hq h34
      rw [hw] at HW
      rw [h34]
      rw [h34] at HS
      clear hq hw h34
      by_cases hE0 : E = 0
      · subst hE0
        by_cases hbig : 200 < n1 + n2
        · have hb : ((200 : Int) < (n1 : Int) + (n2 : Int)) = True := by simp only [eq_iff_iff, iff_true]; omega
          go_enter Try.func57, Try.ntmps57
          go_wp2_with fail
          refine HW.out.mono ?_
          rintro r w1 ⟨rfl, rfl⟩
          go_wp2_with fail
          refine HS.out.mono ?_
          rintro r w1 ⟨rfl, hE1, hs1⟩
          obtain ⟨⟨k10, g10⟩, hh⟩ := HF.out w1 hE1 hs1
          have HH := Lib.hid hh
          clear hE1 hs1 hh
          go_wp2
          go_ret2
          exact ⟨fun h => absurd rfl h, fun _ _ => ⟨rfl, HH.out.2.1⟩, fun _ h => absurd hbig (by omega)⟩
        · have hb : ((200 : Int) < (n1 : Int) + (n2 : Int)) = False := by simp only [eq_iff_iff, iff_false]; omega
          go_enter Try.func57, Try.ntmps57
          go_wp2_with fail
          refine HW.out.mono ?_
          rintro r w1 ⟨rfl, rfl⟩
          go_wp2_with fail
          refine HS.out.mono ?_
          rintro r w1 ⟨rfl, hE1, hs1⟩
          obtain ⟨⟨k10, g10⟩, hh⟩ := HF.out w1 hE1 hs1
          have HH := Lib.hid hh
          clear hE1 hs1 hh
          go_wp2
          go_ret2
          exact ⟨fun h => absurd rfl h, fun _ h => absurd h hbig, fun _ h => ⟨rfl, HH.out.2.2 (by trivial) (by rw [HLT.out]; exact h)⟩⟩
      · have hz : ((E : Int) != 0) = true := by simp; omega
        go_enter Try.func57, Try.ntmps57
        go_wp2_with fail
        refine HW.out.mono ?_
        rintro r w1 ⟨rfl, rfl⟩
        go_wp2_with fail
        refine HS.out.mono ?_
        rintro r w1 ⟨rfl, hE1, hs1⟩
        obtain ⟨⟨k10, g10⟩, hh⟩ := HF.out w1 hE1 hs1
        have HH := Lib.hid hh
        clear hE1 hs1 hh
        go_wp2
        go_ret2
        exact ⟨fun h => ⟨rfl, HH.out.1 h⟩, fun h => absurd h hE0, fun h => absurd h hE0⟩
    · have h34' : ((x.toNat : Int) == 34) = false := u8eq x 34 h34
      clear hq HW h34
      generalize x.toNat = X34 at *
      by_cases hE0 : E = 0
      · subst hE0
        by_cases hbig : 200 < n1 + n2
        · have hb : ((200 : Int) < (n1 : Int) + (n2 : Int)) = True := by simp only [eq_iff_iff, iff_true]; omega
          go_enter Try.func57, Try.ntmps57
          go_wp2_with fail
          refine HS.out.mono ?_
          rintro r w1 ⟨rfl, hE1, hs1⟩
          obtain ⟨⟨k10, g10⟩, hh⟩ := HF.out w1 hE1 hs1
          have HH := Lib.hid hh
          clear hE1 hs1 hh
          go_wp2
          go_ret2
          exact ⟨fun h => absurd rfl h, fun _ _ => ⟨rfl, HH.out.2.1⟩, fun _ h => absurd hbig (by omega)⟩
        · have hb : ((200 : Int) < (n1 : Int) + (n2 : Int)) = False := by simp only [eq_iff_iff, iff_false]; omega
          go_enter Try.func57, Try.ntmps57
          go_wp2_with fail
          refine HS.out.mono ?_
          rintro r w1 ⟨rfl, hE1, hs1⟩
          obtain ⟨⟨k10, g10⟩, hh⟩ := HF.out w1 hE1 hs1
          have HH := Lib.hid hh
          clear hE1 hs1 hh
          go_wp2
          go_ret2
          exact ⟨fun h => absurd rfl h, fun _ h => absurd h hbig, fun _ h => ⟨rfl, HH.out.2.2 (by trivial) (by rw [HLT.out]; exact h)⟩⟩
      · have hz : ((E : Int) != 0) = true := by simp; omega
        go_enter Try.func57, Try.ntmps57
        go_wp2_with fail
        refine HS.out.mono ?_
        rintro r w1 ⟨rfl, hE1, hs1⟩
        obtain ⟨⟨k10, g10⟩, hh⟩ := HF.out w1 hE1 hs1
        have HH := Lib.hid hh
        clear hE1 hs1 hh
        go_wp2
        go_ret2
        exact ⟨fun h => ⟨rfl, HH.out.1 h⟩, fun h => absurd h hE0, fun h => absurd h hE0⟩
  refine key.mono ?_
  rintro r w' ⟨k1, k2, k3⟩
  by_cases hE0 : E = 0
  · rw [if_neg (by rw [hE0]; simp)]
    by_cases hbig : 200 < (t ++ l).length
    · rw [if_pos hbig]
      obtain ⟨rfl, hp⟩ := k2 hE0 hbig
      exact ⟨rfl, hp, fun e => absurd e (by decide)⟩
    · rw [if_neg hbig]
      obtain ⟨rfl, hp⟩ := k3 hE0 (by omega)
      exact ⟨rfl, hp, fun _ => Tks.nil_ _ _⟩
  · rw [if_pos hE0]
    obtain ⟨rfl, hp⟩ := k1 hE0
    exact ⟨rfl, hp, fun e => absurd e hE0⟩
end Go.Proofs.Ytacngbngljfedaa
/-
  CONTRACTS of lexer.Lexer, part F: letter (a byte of a word), digit (a byte of a number, or the first one behind it).
-/
namespace Go.Proofs.Ytacngbngljfedaa
open Go.RowKit
open Go.Lib
theorem Wrd.size {k i : Nat} {W : ByteArray} {r : List Nat} (h : Wrd k W i r) : W.size = i + r.length ∧ W.size ≤ 5 ∧ r ≠ [] := by
  obtain ⟨L, hL, rfl, h1, h2, rfl⟩ := h
  have := (words_low hL).1
  refine ⟨by rw [bytesN_size, List.length_drop]; omega, by rw [bytesN_size]; omega, fun e => ?_⟩
  have := congrArg List.length e
  simp at this
  omega
theorem Wrd.next {k i : Nat} {W : ByteArray} {x : Nat} {q : List Nat} (h : Wrd k W i (x :: q)) (hq : q ≠ []) : Wrd k W (i + 1) q := by
  have hs := h.size.1
  obtain ⟨L, hL, rfl, h1, h2, h3⟩ := h
  have hq0 : 0 < q.length := List.length_pos_iff.2 hq
  rw [bytesN_size, List.length_cons] at hs
  refine ⟨L, hL, rfl, by omega, by omega, ?_⟩
  rw [← List.drop_drop, ← h3]
  rfl
theorem below_dq {B : Nat} {w w' : World} (h : Below B w w') (q : Nat) : Below B w (w'.drewN q) := ⟨h.os, h.tape, h.output, h.size, h.block⟩
set_option maxRecDepth 100000 in
set_option maxHeartbeats 2000000 in
theorem letter_no {w : World} {b o : Nat} {k i x : Nat} {q : List Nat} {W : ByteArray} (hW : Wrd k W i (x :: q)) (h16 : At w b (o + 16) [.string W, .int .i64 (i : Nat)]) (y : Nat) (hy : y < 256) (hne : y ≠ x) :
    Calls Try.prog 59 #[.pointer (some ⟨b, o, none⟩), .int .u8 y] w fun r w' => r = .returned (.tuple #[.slice none 0 0, .int .i64 2]) ∧ Below w.heap.size w w' := by
  have HL := Lib.hid (fun W0 => letter_word hW W0)
  obtain ⟨⟨c0, f0⟩, c1, f1⟩ := at_two h16
  have hz : ((x : Int) != (y : Int)) = true := by simp; omega
  have hw : IntKind.i32.wrap (y : Int) = (y : Int) := wrap32 _ (by omega) (by omega)
  have HB := Lib.hid (fun q => below_dq (Below.refl w.heap.size w) q)
  clear hW h16 hne
  go_enter Try.func59, Try.ntmps59
  go_wp2
  go_region_with (go_at_call 69; refine (HL.out _).mono ?_; rintro r w1 ⟨rfl, hb⟩)
  all_goals
    have HBB := Lib.hid hb
    clear hb
    go_wp2
    go_ret2
    exact ⟨rfl, HBB.out.os, HBB.out.tape, HBB.out.output, HBB.out.size, HBB.out.block⟩
set_option maxRecDepth 100000 in
set_option maxHeartbeats 4000000 in
theorem letter_more {w : World} {b o : Nat} {k i x : Nat} {q : List Nat} {W : ByteArray} (hW : Wrd k W i (x :: q)) (hx : x < 256) (hq : q ≠ []) (h16 : At w b (o + 16) [.string W, .int .i64 (i : Nat)]) (hb : b < w.heap.size) :
    Calls Try.prog 59 #[.pointer (some ⟨b, o, none⟩), .int .u8 x] w fun r w' => r = .returned (.tuple #[.slice none 0 0, .int .i64 0]) ∧ ∃ w1, Below w.heap.size w w1 ∧ w' = w1.setCell ⟨b, o + 17, none⟩ (.int .i64 ((i + 1 : Nat) : Int)) := by
  have HL := Lib.hid (fun W0 => letter_word hW W0)
  obtain ⟨⟨c0, f0⟩, c1, f1⟩ := at_two h16
  have hw : IntKind.i32.wrap (x : Int) = (x : Int) := wrap32 _ (by omega) (by omega)
  obtain ⟨hs1, hs2, _⟩ := hW.size
  have hq0 : 0 < q.length := List.length_pos_iff.2 hq
  have hi : i ≤ 5 := by omega
  have hlt : ((i : Int) + 1 < (W.size : Int)) = True := by simp only [List.length_cons] at hs1; simp only [eq_iff_iff, iff_true]; omega
  have hsm : W.size ≤ 1000 := by omega
  have hcast : (((i + 1 : Nat) : Int)) = (i : Int) + 1 := by omega
  rw [hcast]
  have HG : Hid (∀ q w1, Below (w.drewN q).heap.size (w.drewN q) w1 → (w1.cell? ⟨b, o + 16, none⟩ = some (.string W) ∧ w1.frozen? ⟨b, o + 16, none⟩ = false) ∧ (w1.cell? ⟨b, o + 17, none⟩ = some (.int .i64 i) ∧ w1.frozen? ⟨b, o + 17, none⟩ = false) ∧ Below w.heap.size w w1) := Lib.hid (fun q w1 hB => by
    have hB' : Below w.heap.size w w1 := ⟨hB.os, hB.tape, hB.output, hB.size, hB.block⟩
    have hA := h16.keep (hB'.block b hb)
    exact ⟨(at_two hA).1, (at_two hA).2, hB'⟩)
  clear hW h16 hs1 hs2 hq hq0 hcast
  go_enter Try.func59, Try.ntmps59
  go_wp2
  go_region_with (go_at_call 69; refine (HL.out _).mono ?_; rintro r w1 ⟨rfl, hb1⟩)
  all_goals
    obtain ⟨⟨d0, e0⟩, ⟨d1, e1⟩, hB1⟩ := HG.out 1 w1 hb1
    have HBB := Lib.hid hB1
    clear hb1 hB1 c0 f0 c1 f1
    go_wp2
    go_quiet (fail)
    go_wp2
    go_ret2
    refine ⟨rfl, _, below_dq HBB.out _, rfl⟩
end Go.Proofs.Ytacngbngljfedaa
/-
  CONTRACTS of lexer.Lexer, part G: letter, at a word's last byte; digit.
-/
namespace Go.Proofs.Ytacngbngljfedaa
open Go.RowKit
open Go.Lib
set_option maxRecDepth 100000 in
set_option maxHeartbeats 4000000 in
theorem letter_last {w : World} {b o : Nat} {k i x : Nat} {W : ByteArray} (hW : Wrd k W i [x]) (hx : x < 256) (h16 : At w b (o + 16) [.string W, .int .i64 (i : Nat)]) (hR : Room w b o 18) :
    Calls Try.prog 59 #[.pointer (some ⟨b, o, none⟩), .int .u8 x] w fun r w' => ∃ v, r = .returned (.tuple #[v, .int .i64 0]) ∧ Tks w w' v [sgnT k] ∧ At w' b o (lxZ 0) ∧ Sub b o 18 w w' := by
  have HL := Lib.hid (fun W0 => letter_word hW W0)
  have HK := Lib.hid (fun W0 => kindOf_any hW W0)
  have hb := hR.lt
  obtain ⟨⟨c0, f0⟩, c1, f1⟩ := at_two h16
  have hw : IntKind.i32.wrap (x : Int) = (x : Int) := wrap32 _ (by omega) (by omega)
  obtain ⟨hs1, hs2, _⟩ := hW.size
  have hi : i ≤ 5 := by omega
  have hlt : ((i : Int) + 1 < (W.size : Int)) = False := by simp only [List.length_cons, List.length_nil] at hs1; simp only [eq_iff_iff, iff_false]; omega
  have hsm : W.size ≤ 1000 := by omega
  have HG : Hid (∀ q w1, Below (w.drewN q).heap.size (w.drewN q) w1 → (w1.cell? ⟨b, o + 16, none⟩ = some (.string W) ∧ w1.frozen? ⟨b, o + 16, none⟩ = false) ∧ (w1.cell? ⟨b, o + 17, none⟩ = some (.int .i64 i) ∧ w1.frozen? ⟨b, o + 17, none⟩ = false) ∧
      (∀ u p, Calls Try.prog 63 #[.pointer (some ⟨b, o, none⟩), .agg #[.int .u8 k, .string ⟨#[]⟩, .bool false, .int .u64 0]] ((w1.setCell ⟨b, o + 17, none⟩ u).drewN p) fun r w' => ∃ v, r = .returned v ∧ Tks w w' v [sgnT k] ∧ At w' b o (lxZ 0) ∧ Sub b o 18 w w')) := Lib.hid (fun q w1 hB => by
    have hB' : Below w.heap.size w w1 := ⟨hB.os, hB.tape, hB.output, hB.size, hB.block⟩
    have hA := h16.keep (hB'.block b hb)
    refine ⟨(at_two hA).1, (at_two hA).2, fun u p => ?_⟩
    have hs : Sub b o 18 w ((w1.setCell ⟨b, o + 17, none⟩ u).drewN p) := ((sub_of_below hB' hb o 18).setCell (o + 17) u (by omega)).drewN p
    refine (lend_at (hR.sub hs) (sgnT k)).mono ?_
    rintro r w' ⟨v, rfl, hT, hA2, hS⟩
    exact ⟨v, rfl, hT.old hs.step.size, hA2, hs.trans hS⟩)
  clear hW h16 hs1 hs2 hR hb
  go_enter Try.func59, Try.ntmps59
  go_wp2
  go_region_with (go_at_call 69; refine (HL.out _).mono ?_; rintro r w1 ⟨rfl, hb1⟩)
  all_goals
    obtain ⟨⟨d0, e0⟩, ⟨d1, e1⟩, hX⟩ := HG.out 1 w1 hb1
    have HX := Lib.hid hX
    clear hb1 hX c0 f0 c1 f1
    go_wp2
    go_quiet (fail)
    go_wp2_with fail
    refine (HK.out _).mono ?_
    rintro r w3 ⟨rfl, rfl⟩
    go_wp2_with fail
    refine (HX.out _ _).mono ?_
    rintro r w4 ⟨v, rfl, hT⟩
    have HT := Lib.hid hT
    clear hT
    go_wp2
    go_ret2
    exact ⟨v, rfl, HT.out⟩
/-- LETTER. -/
theorem letter_at {w : World} {b o : Nat} {k : Nat} {r : List Nat} (h : LAt w b o (.word k r)) (y : UInt8) :
    Calls Try.prog 59 #[.pointer (some ⟨b, o, none⟩), .int .u8 y.toNat] w fun r' w' => ∃ v, r' = .returned (.tuple #[v, .int .i64 (errX (stepX (.word k r) y).1)]) ∧ TPostL w b o (stepX (.word k r) y) v w' := by
  have hb := h.lt
  obtain ⟨W, i, hW, h0, h10, h16, hR⟩ := h
  obtain ⟨_, _, hne⟩ := hW.size
  match r, hne with
  | x :: q, _ =>
  have hy : y.toNat < 256 := y.toNat_lt
  by_cases hxy : y.toNat = x
  · by_cases hq : q = []
    · subst hq
      have e : stepX (.word k [x]) y = (.idle, [sgnT k]) := by simp only [stepX]; rw [if_pos hxy, if_pos trivial]
      rw [e, hxy]
      refine (letter_last hW (by omega) h16 hR).mono ?_
      rintro r' w' ⟨v, rfl, hT, hA, hS⟩
      exact ⟨v, rfl, LPost.idle hA hS, fun _ => hT⟩
    · have e : stepX (.word k (x :: q)) y = (.word k q, []) := by simp only [stepX]; rw [if_pos hxy, if_neg hq]
      rw [e, hxy]
      refine (letter_more hW (by omega) hq h16 hb).mono ?_
      rintro r' w' ⟨rfl, w1, hB, rfl⟩
      have hs1 := sub_of_below hB hb (o + 17) 1
      have hs2 := sub_setCell (b := b) (o := o + 17) (n := 1) w1 (o + 17) (.int .i64 ((i + 1 : Nat) : Int)) (by omega)
      have hs := hs1.trans hs2
      refine ⟨_, rfl, ⟨hs.widen (by omega) (by omega), fun _ => ⟨W, i + 1, hW.next hq, h0.sub hs (by simp only [List.length_cons, List.length_nil]; omega), h10.sub hs (by simp only [List.length_cons, List.length_nil]; omega), ?_, hR.sub hs⟩⟩, fun _ => Tks.nil_ _ _⟩
      exact (h16.keep (hB.block b hb)).set 1 (by simp) _
  · have e : stepX (.word k (x :: q)) y = (.bad 2, []) := by simp only [stepX]; rw [if_neg hxy]
    rw [e]
    refine (letter_no hW h16 y.toNat hy hxy).mono ?_
    rintro r' w' ⟨rfl, hB⟩
    exact ⟨_, rfl, ⟨sub_of_below hB hb _ _, fun e => absurd e (by decide)⟩, fun e => absurd e (by decide)⟩
end Go.Proofs.Ytacngbngljfedaa
/-
  CONTRACTS of lexer.Lexer, part H: digit.
-/
namespace Go.Proofs.Ytacngbngljfedaa
open Go.RowKit
open Go.Lib
theorem start_len (x : Nat) : (startX x).2.length ≤ 1 := by
  unfold startX
  repeat' split
  all_goals simp
theorem step_stay {d : Dec} {x : Nat} (he : errD (stepD d x).1 = 0) (ht : (stepD d x).2 = false) : (stepD d x).1 = d := by
  cases d with
  | bad f => rfl
  | num p m v =>
    simp only [stepD] at he ht ⊢
    split
    · rename_i h; rw [if_pos h] at ht; cases ht
    · rename_i h
      rw [if_neg h] at he ht
      split
      · rename_i h2
        rw [if_pos h2] at ht
        split at ht <;> cases ht
      · rename_i h2
        rw [if_neg h2] at he
        split
        · rename_i h3
          rw [if_pos h3] at he
          cases he
        · rename_i h3
          rw [if_neg h3] at he
          split
          · rename_i h4
            rw [if_pos h4] at he
            cases he
          · rfl
theorem sub_grown {b o n : Nat} {w w3 w4 : World} {row : Option Nat} (h : Sub b o n w w3) (g : w3.grownBy w4 row) (hb : b < w.heap.size) (hr : ∀ k, row = some k → w.heap.size ≤ k) : Sub b o n w w4 := by
  have hg : ∀ k, k < w.heap.size → w4.heap[k]? = w3.heap[k]? := fun k hk => g.block k (Nat.lt_of_lt_of_le hk h.step.size) (fun e => by have := hr k e.symm; omega)
  refine ⟨⟨g.os.trans h.step.os, g.tape.trans h.step.tape, g.output.trans h.step.output, Nat.le_trans h.step.size g.size, fun k hk hF => (hg k hk).trans (h.step.block k hk hF), fun _ h => .inl h⟩, fun c t fr hc => ?_, fun k hk => ?_⟩
  · obtain ⟨c', hc', hs⟩ := h.shape c t fr hc
    exact ⟨c', (hg b hb).trans hc', hs⟩
  · exact (World.cell?_of_block (w := w3) (a := ⟨b, k, none⟩) (hg b hb)).trans (h.cell k hk)
set_option maxRecDepth 100000 in
set_option maxHeartbeats 1000000 in
theorem digit_take {w : World} {b o : Nat} (tk : Bool) (e : Nat) (hq : tk = true ∨ e ≠ 0) (y : Nat) (R : World → Prop)
    (hS : Calls Try.prog 68 #[.pointer (some ⟨b, o + 11, none⟩), .int .u8 y] w fun r w' => r = .returned (.tuple #[.bool tk, .int .i64 e]) ∧ R w') :
    Calls Try.prog 58 #[.pointer (some ⟨b, o, none⟩), .int .u8 y] w fun r w' => r = .returned (.tuple #[.slice none 0 0, .int .i64 e]) ∧ R w' := by
  have HS := Lib.hid hS
  clear hS
  cases tk with
  | true =>
    clear hq
    go_enter Try.func58, Try.ntmps58
    go_wp2_with fail
    refine HS.out.mono ?_
    rintro r w1 ⟨rfl, hR⟩
    have HR := Lib.hid hR
    clear hR
    go_wp2
    go_ret2
    exact ⟨rfl, HR.out⟩
  | false =>
    have he : e ≠ 0 := by rcases hq with h | h; cases h; exact h
    have hz : ((e : Int) != 0) = true := by simp; omega
    clear hq he
    go_enter Try.func58, Try.ntmps58
    go_wp2_with fail
    refine HS.out.mono ?_
    rintro r w1 ⟨rfl, hR⟩
    have HR := Lib.hid hR
    clear hR
    go_wp2
    go_ret2
    exact ⟨rfl, HR.out⟩
set_option maxRecDepth 100000 in
set_option maxHeartbeats 1000000 in
theorem digit_err {w : World} {b o : Nat} (y e : Nat) (he : e ≠ 0) (R S : World → Prop)
    (hS : Calls Try.prog 68 #[.pointer (some ⟨b, o + 11, none⟩), .int .u8 y] w fun r w' => r = .returned (.tuple #[.bool false, .int .i64 0]) ∧ R w')
    (hE : ∀ w1, R w1 → Calls Try.prog 49 #[.pointer (some ⟨b, o, none⟩)] w1 fun r w' => ∃ v, r = .returned (.tuple #[v, .int .i64 e]) ∧ S w') :
    Calls Try.prog 58 #[.pointer (some ⟨b, o, none⟩), .int .u8 y] w fun r w' => r = .returned (.tuple #[.slice none 0 0, .int .i64 e]) ∧ S w' := by
  have HS := Lib.hid hS
  have HE := Lib.hid hE
  have hz : ((e : Int) != 0) = true := by simp; omega
  clear hS hE he
  go_enter Try.func58, Try.ntmps58
  go_wp2_with fail
  refine HS.out.mono ?_
  rintro r w1 ⟨rfl, hR⟩
  have HR := Lib.hid hR
  clear hR
  go_wp2_with fail
  refine (HE.out w1 HR.out).mono ?_
  rintro r w2 ⟨v, rfl, hS2⟩
  have HS2 := Lib.hid hS2
  clear hS2
  go_wp2
  go_ret2
  exact ⟨rfl, HS2.out⟩
set_option maxRecDepth 100000 in
set_option maxHeartbeats 2000000 in
theorem digit_both {w : World} {b o : Nat} (y : Nat) (t : Tk) (L : List Tk) (hL : L.length ≤ 1) (E : Nat) (R : World → Prop) (hb : b < w.heap.size)
    (hS : Calls Try.prog 68 #[.pointer (some ⟨b, o + 11, none⟩), .int .u8 y] w fun r w' => r = .returned (.tuple #[.bool false, .int .i64 0]) ∧ R w' ∧ Sub b o 18 w w')
    (hE : ∀ w1, R w1 → Calls Try.prog 49 #[.pointer (some ⟨b, o, none⟩)] w1 fun r w' => ∃ v, r = .returned (.tuple #[v, .int .i64 0]) ∧ Sub b o 18 w1 w' ∧ Tks w1 w' v [t] ∧ At w' b o (lxZ 0))
    (s : Lx) (hB : ∀ w2, At w2 b o (lxZ 0) → Calls Try.prog 60 #[.pointer (some ⟨b, o, none⟩), .int .u8 y] w2 fun r w' => ∃ v, r = .returned (.tuple #[v, .int .i64 E]) ∧ Tks w2 w' v L ∧ LPost w2 b o s w') :
    Calls Try.prog 58 #[.pointer (some ⟨b, o, none⟩), .int .u8 y] w fun r w' => ∃ v, r = .returned (.tuple #[v, .int .i64 E]) ∧ Tks w w' v ([t] ++ L) ∧ LPost w b o s w' := by
  have HS := Lib.hid hS
  have HE := Lib.hid hE
  have HBG := Lib.hid hB
  have HBL := Lib.hid hb
  clear hS hE hB hb
  go_enter Try.func58, Try.ntmps58
  go_wp2_with fail
  refine HS.out.mono ?_
  rintro r w1 ⟨rfl, hR, hs1⟩
  have HR := Lib.hid (And.intro hR hs1)
  clear hR hs1
  go_wp2_with fail
  refine (HE.out w1 HR.out.1).mono ?_
  rintro r w2 ⟨v1, rfl, hs2, hT1, hA⟩
  obtain ⟨a1, c1, rfl⟩ := hT1.form
  have HA := Lib.hid (And.intro hA (And.intro hs2 hT1))
  clear hs2 hT1 hA
  go_wp2_with fail
  refine (HBG.out w2 HA.out.1).mono ?_
  rintro r w3 ⟨v2, rfl, hT2, hP⟩
  obtain ⟨a2, c2, rfl⟩ := hT2.form
  have hT1' : Tks w1 w3 (.slice a1 [t].length c1) [t] := HA.out.2.2.sub hP.1 (Nat.lt_of_lt_of_le HBL.out HR.out.2.step.size)
  have HT := Lib.hid (And.intro hT1' (And.intro hT2 hP))
  clear hT1' hT2 hP
  have HW1 : Hid (Win w3 103 4 (.slice a1 1 c1) 1 (tksC [t])) := Lib.hid HT.out.1.win
  have HW2 : Hid (Win w3 103 4 (.slice a2 L.length c2) L.length (tksC L)) := Lib.hid HT.out.2.1.win
  generalize hn : L.length = n at *
  go_wp2_with (at_builtin; refine wpList_append_win rfl _ _ _ rfl Try.underlying87 info_tk rfl rfl HW1.out _ rfl n _ (HW2.out.src Try.underlying87 (tksC_one _)) ?e1 ?e2 ?_)
  case e1 => unfold maxLen; omega
  case e2 => omega
  intro v3 w4 hW3 hG3 hO3
  have HF : Hid (Tks w w4 v3 ([t] ++ L) ∧ LPost w b o s w4) := Lib.hid (by
    have w01 : w.heap.size ≤ w1.heap.size := HR.out.2.step.size
    have w12 : w1.heap.size ≤ w2.heap.size := HA.out.2.1.step.size
    have w23 : w2.heap.size ≤ w3.heap.size := HT.out.2.2.1.step.size
    have hrow : ∀ k, (Value.slice a1 1 c1).ownBlock = some k → w.heap.size ≤ k := fun k hk => Nat.le_trans w01 (HT.out.1.new k ((ob_iff _ _).1 hk))
    have hs3 : Sub b o 18 w w3 := (HR.out.2.trans HA.out.2.1).trans HT.out.2.2.1
    have hs4 := sub_grown hs3 hG3.out HBL.out hrow
    refine ⟨⟨?_, fun k hk => ?_⟩, hs4, fun e => (HT.out.2.2.2 e).keep (hG3.out.block b (Nat.lt_of_lt_of_le HBL.out hs3.step.size) (fun e => ?_))⟩
    · have := hW3.out
      rw [← tksC_append] at this
      simpa [hn, Nat.add_comm] using this
    · rcases hO3.out with e | ⟨e, _⟩
      · exact hrow k (e ▸ (ob_iff _ _).2 hk)
      · have h2 := (ob_iff _ _).2 hk
        rw [e] at h2
        cases h2
        omega
    · have := HT.out.1.new b ((ob_iff _ _).1 e.symm)
      have := HBL.out
      omega)
  clear hW3 hG3 hO3
  go_wp2
  go_ret2
  exact ⟨v3, rfl, HF.out⟩
theorem start_bad (x e : Nat) (h : (startX x).1 = .bad e) : e ≠ 0 := by
  unfold startX at h
  repeat' split at h
  all_goals first | cases h; decide | cases h
/-- DIGIT. -/
theorem digit_at {w : World} {b o : Nat} {d : Dec} (h : LAt w b o (.num d)) (y : UInt8) :
    Calls Try.prog 58 #[.pointer (some ⟨b, o, none⟩), .int .u8 y.toNat] w fun r w' => ∃ v, r = .returned (.tuple #[v, .int .i64 (errX (stepX (.num d) y).1)]) ∧ TPostL w b o (stepX (.num d) y) v w' := by
  have hb := h.lt
  have hD := h.2.2.2.1
  have hS := dstep_at hD y.toNat
  have hP : ∀ w', DPost w b (o + 11) (stepD d y.toNat).1 w' → Sub b o 18 w w' ∧ (errD (stepD d y.toNat).1 = 0 → LAt w' b o (.num (stepD d y.toNat).1)) := fun w' hp =>
    ⟨hp.2.widen (by omega) (by omega), fun he => ⟨he, h.2.1.sub hp.2 (by simp only [List.length_cons, List.length_nil]; omega), h.2.2.1.sub hp.2 (by simp only [List.length_cons, List.length_nil]; omega), hp.1, h.2.2.2.2.sub hp.2⟩⟩
  simp only [stepX]
  by_cases he : errD (stepD d y.toNat).1 = 0
  · rw [if_neg (by rw [he]; exact fun h => h rfl)]
    by_cases ht : (stepD d y.toNat).2 = true
    · rw [if_pos ht]
      refine (digit_take (stepD d y.toNat).2 _ (.inl ht) y.toNat _ hS).mono ?_
      rintro r w' ⟨rfl, hp⟩
      obtain ⟨hs, hl⟩ := hP w' hp
      exact ⟨_, by rw [he]; rfl, ⟨hs, fun _ => hl he⟩, fun _ => Tks.nil_ _ _⟩
    · have ht' : (stepD d y.toNat).2 = false := by simpa using ht
      rw [if_neg ht]
      rw [step_stay he ht'] at hS hP
      rw [ht', h.1] at hS
      have hS' : Calls Try.prog 68 #[.pointer (some ⟨b, o + 11, none⟩), .int .u8 y.toNat] w fun r w' => r = .returned (.tuple #[.bool false, .int .i64 0]) ∧ LAt w' b o (.num d) ∧ Sub b o 18 w w' := hS.mono (by
        rintro r w' ⟨rfl, hp⟩
        exact ⟨rfl, (hP w' hp).2 h.1, (hP w' hp).1⟩)
      by_cases h2 : (endD d).2 = 0
      · rw [if_neg (by rw [h2]; exact fun h => h rfl)]
        refine (digit_both y.toNat ⟨110, [], (endD d).1⟩ (startX y.toNat).2 (start_len _) (errX (startX y.toNat).1) (fun w' => LAt w' b o (.num d)) hb hS' (fun w1 h1 => (lendnum_at h1).mono (by
          rintro r w' ⟨v, rfl, hs, hk⟩
          exact ⟨v, by rw [h2]; rfl, hs, hk h2⟩)) (startX y.toNat).1 (fun w2 hA => lbegin_at hA y.toNat)).mono ?_
        rintro r w' ⟨v, rfl, hT, hL⟩
        have hsb := start_bad y.toNat
        generalize startX y.toNat = q at *
        obtain ⟨q1, q2⟩ := q
        cases q1 with
        | bad e =>
          exact ⟨v, rfl, hL, fun e0 => absurd e0 (hsb e rfl)⟩
        | idle => exact ⟨v, rfl, hL, fun _ => hT⟩
        | str s t => exact ⟨v, rfl, hL, fun _ => hT⟩
        | num d => exact ⟨v, rfl, hL, fun _ => hT⟩
        | word k r => exact ⟨v, rfl, hL, fun _ => hT⟩
      · rw [if_pos h2]
        refine (digit_err y.toNat (endD d).2 h2 (fun w' => LAt w' b o (.num d) ∧ Sub b o 18 w w') (fun w' => Sub b o 18 w w') hS' (fun w1 h1 => (lendnum_at h1.1).mono (by
          rintro r w' ⟨v, rfl, hs, _⟩
          exact ⟨v, rfl, h1.2.trans hs⟩))).mono ?_
        rintro r w' ⟨rfl, hs⟩
        exact ⟨_, rfl, ⟨hs, fun e => absurd e h2⟩, fun e => absurd e h2⟩
  · rw [if_pos he]
    refine (digit_take (stepD d y.toNat).2 _ (.inr he) y.toNat _ hS).mono ?_
    rintro r w' ⟨rfl, hp⟩
    exact ⟨_, rfl, ⟨(hP w' hp).1, fun e => absurd e he⟩, fun e => absurd e he⟩
end Go.Proofs.Ytacngbngljfedaa
/-
  CONTRACTS of lexer.Lexer, part I: Step, End, Held.
-/
namespace Go.Proofs.Ytacngbngljfedaa
open Go.RowKit
open Go.Lib
/-- The first two cells: the error, the place. -/
def plX : Lx → Nat
  | .str _ _ => 1
  | .num _ => 2
  | .word _ _ => 3
  | _ => 0
theorem LAt.head {w : World} {b o : Nat} {s : Lx} (h : LAt w b o s) : (w.cell? ⟨b, o, none⟩ = some (.int .i64 (errX s)) ∧ w.frozen? ⟨b, o, none⟩ = false) ∧ (w.cell? ⟨b, o + 1, none⟩ = some (.int .i64 (plX s)) ∧ w.frozen? ⟨b, o + 1, none⟩ = false) := by
  match s, h with
  | .bad e, h => exact ⟨h.2 0 _ rfl, h.2 1 _ rfl⟩
  | .idle, h => exact ⟨h 0 _ rfl, h 1 _ rfl⟩
  | .str s t, h => exact at_two h.2.1
  | .num d, h => exact at_two h.2.1
  | .word k r, h => obtain ⟨W, i, _, h1, _⟩ := h; exact at_two h1
theorem LAt.err {w : World} {b o e : Nat} (h : LAt w b o (.bad e)) : e ≠ 0 := h.1
set_option maxRecDepth 100000 in
set_option maxHeartbeats 1000000 in
/-- TAKE. -/
theorem ltake_at {w : World} {b o : Nat} {s : Lx} (h : LAt w b o s) (he : errX s = 0) (y : UInt8) :
    Calls Try.prog 47 #[.pointer (some ⟨b, o, none⟩), .int .u8 y.toNat] w fun r w' => ∃ v, r = .returned (.tuple #[v, .int .i64 (errX (stepX s y).1)]) ∧ TPostL w b o (stepX s y) v w' := by
  obtain ⟨_, c1, f1⟩ := h.head
  match s, h, he with
  | .bad e, h, he => exact absurd he h.1
  | .idle, h, _ =>
    have HB : Hid (Calls Try.prog 60 #[.pointer (some ⟨b, o, none⟩), .int .u8 y.toNat] w fun r w' => ∃ v, r = .returned (.tuple #[v, .int .i64 (errX (stepX .idle y).1)]) ∧ TPostL w b o (stepX .idle y) v w') := Lib.hid ((lbegin_at h y.toNat).mono (by
      rintro r w' ⟨v, rfl, hT, hL⟩
      exact ⟨v, rfl, hL, fun _ => hT⟩))
    have c1' : w.cell? ⟨b, o + 1, none⟩ = some (.int .i64 0) := c1
    clear h c1
    generalize stepX .idle y = q at *
    generalize y.toNat = y' at *
    obtain ⟨E, hE⟩ : ∃ E : Nat, errX q.1 = E := ⟨_, rfl⟩
    rw [hE] at HB ⊢
    clear hE
    go_enter Try.func47, Try.ntmps47
    go_wp2_with fail
    refine HB.out.mono ?_
    rintro r w1 ⟨v, rfl, hT⟩
    have HT := Lib.hid hT
    clear hT
    go_wp2
    go_ret2
    exact ⟨v, rfl, HT.out⟩
  | .str s t, h, _ =>
    have HB : Hid (Calls Try.prog 57 #[.pointer (some ⟨b, o, none⟩), .int .u8 y.toNat] w fun r w' => ∃ v, r = .returned (.tuple #[v, .int .i64 (errX (stepX (.str s t) y).1)]) ∧ TPostL w b o (stepX (.str s t) y) v w') := Lib.hid (by
      by_cases hq : y.toNat = 34 ∧ wholeI s = true
      · have e : stepX (.str s t) y = (.idle, [⟨115, t, (false, 0)⟩]) := by simp only [stepX]; rw [if_pos hq]
        rw [e, hq.1]
        exact inner_end h hq.2
      · refine (inner_go h y hq).mono ?_
        rintro r w' ⟨rfl, hT⟩
        exact ⟨_, rfl, hT⟩)
    have c1' : w.cell? ⟨b, o + 1, none⟩ = some (.int .i64 1) := c1
    clear h c1
    generalize stepX (.str s t) y = q at *
    generalize y.toNat = y' at *
    obtain ⟨E, hE⟩ : ∃ E : Nat, errX q.1 = E := ⟨_, rfl⟩
    rw [hE] at HB ⊢
    clear hE
    go_enter Try.func47, Try.ntmps47
    go_wp2_with fail
    refine HB.out.mono ?_
    rintro r w1 ⟨v, rfl, hT⟩
    have HT := Lib.hid hT
    clear hT
    go_wp2
    go_ret2
    exact ⟨v, rfl, HT.out⟩
  | .num d, h, _ =>
    have HB := Lib.hid (digit_at h y)
    have c1' : w.cell? ⟨b, o + 1, none⟩ = some (.int .i64 2) := c1
    clear h c1
    generalize stepX (.num d) y = q at *
    generalize y.toNat = y' at *
    obtain ⟨E, hE⟩ : ∃ E : Nat, errX q.1 = E := ⟨_, rfl⟩
    rw [hE] at HB ⊢
    clear hE
    go_enter Try.func47, Try.ntmps47
    go_wp2_with fail
    refine HB.out.mono ?_
    rintro r w1 ⟨v, rfl, hT⟩
    have HT := Lib.hid hT
    clear hT
    go_wp2
    go_ret2
    exact ⟨v, rfl, HT.out⟩
  | .word k r, h, _ =>
    have HB := Lib.hid (letter_at h y)
    have c1' : w.cell? ⟨b, o + 1, none⟩ = some (.int .i64 3) := c1
    clear h c1
    generalize stepX (.word k r) y = q at *
    generalize y.toNat = y' at *
    obtain ⟨E, hE⟩ : ∃ E : Nat, errX q.1 = E := ⟨_, rfl⟩
    rw [hE] at HB ⊢
    clear hE
    go_enter Try.func47, Try.ntmps47
    go_wp2_with fail
    refine HB.out.mono ?_
    rintro r w1 ⟨v, rfl, hT⟩
    have HT := Lib.hid hT
    clear hT
    go_wp2
    go_ret2
    exact ⟨v, rfl, HT.out⟩
def BareE (p : Lx × List Tk) : Prop := errX p.1 ≠ 0 → p = (.bad (errX p.1), [])
theorem bare_tell (l : List Tk) (p : Lx × List Tk) : BareE (tellX l p) := by
  obtain ⟨p1, p2⟩ := p
  cases p1 with
  | bad e => exact fun _ => rfl
  | _ => exact fun h => absurd rfl h
/-- With an error no tokens. -/
theorem bare_step (s : Lx) (y : UInt8) : BareE (stepX s y) := by
  have start : ∀ x, BareE (startX x) := by
    intro x
    unfold startX
    repeat' split
    all_goals first | exact fun h => absurd rfl h | exact fun _ => rfl
  match s with
  | .bad e => exact fun _ => rfl
  | .idle => exact start _
  | .str s t =>
    simp only [stepX]
    repeat' split
    all_goals first | exact fun h => absurd rfl h | exact fun _ => rfl
  | .num d =>
    simp only [stepX]
    repeat' split
    all_goals first | exact fun h => absurd rfl h | exact fun _ => rfl | exact bare_tell _ _
  | .word k [] => exact fun _ => rfl
  | .word k (x :: q) =>
    simp only [stepX]
    repeat' split
    all_goals first | exact fun h => absurd rfl h | exact fun _ => rfl
set_option maxRecDepth 100000 in
set_option maxHeartbeats 1000000 in
theorem lstep_bad {w : World} {b o e : Nat} (h : LAt w b o (.bad e)) (y : UInt8) :
    Calls Try.prog 31 #[.pointer (some ⟨b, o, none⟩), .int .u8 y.toNat] w fun r w' => r = .returned (.tuple #[.slice none 0 0, .int .i64 e]) ∧ ∃ q, w' = w.drewN q := by
  obtain ⟨⟨c0, f0⟩, _⟩ := h.head
  have hz : ((e : Int) != 0) = true := by have := h.1; simp; omega
  have c0' : w.cell? ⟨b, o, none⟩ = some (.int .i64 e) := c0
  clear h c0
  go_enter Try.func31, Try.ntmps31
  go_wp2
  go_quiet (fail)
  go_wp2
  go_ret2
  exact ⟨rfl, _, rfl⟩
set_option maxRecDepth 100000 in
set_option maxHeartbeats 1000000 in
theorem lstep_good {w : World} {b o : Nat} {s : Lx} (h : LAt w b o s) (he : errX s = 0) (y : UInt8) :
    Calls Try.prog 31 #[.pointer (some ⟨b, o, none⟩), .int .u8 y.toNat] w fun r w' => ∃ v, r = .returned (.tuple #[v, .int .i64 (errX (stepX s y).1)]) ∧ Tks w w' v (stepX s y).2 ∧ LAt w' b o (stepX s y).1 ∧ Sub b o 18 w w' := by
  obtain ⟨⟨c0, f0⟩, _⟩ := h.head
  have c0' : w.cell? ⟨b, o, none⟩ = some (.int .i64 0) := by rw [he] at c0; exact c0
  have HT := Lib.hid (ltake_at h he y)
  have hR := h.room
  have HB := Lib.hid (bare_step s y)
  generalize stepX s y = q at *
  generalize y.toNat = y' at *
  obtain ⟨E, hE⟩ : ∃ E : Nat, errX q.1 = E := ⟨_, rfl⟩
  rw [hE] at HT ⊢
  have HR := Lib.hid hR
  by_cases hE0 : E = 0
  · subst hE0
    have HE := Lib.hid hE
    clear hE h he c0 hR
    go_enter Try.func31, Try.ntmps31
    go_wp2_with fail
    refine HT.out.mono ?_
    rintro r w1 ⟨v, rfl, hT⟩
    have HP := Lib.hid hT
    clear hT
    go_wp2_with fail
    refine (told_ok _ v w1).mono ?_
    rintro r w2 ⟨rfl, rfl⟩
    go_wp2
    go_ret2
    exact ⟨v, rfl, HP.out.2 HE.out, HP.out.1.2 HE.out, HP.out.1.1⟩
  · have hq : q = (.bad E, []) := by have := HB.out (by rw [hE]; exact hE0); rw [hE] at this; exact this
    subst hq
    clear hE h he c0 hR
    go_enter Try.func31, Try.ntmps31
    go_wp2_with fail
    refine HT.out.mono ?_
    rintro r w1 ⟨v, rfl, hT⟩
    have HP := Lib.hid hT
    clear hT
    go_wp2_with fail
    refine (told_err (HR.out.sub HP.out.1.1) v E hE0).mono ?_
    rintro r w2 ⟨rfl, hA, hs⟩
    have HQ := Lib.hid (And.intro hA hs)
    clear hA hs
    go_wp2
    go_ret2
    exact ⟨_, rfl, Tks.nil_ _ _, ⟨hE0, HQ.out.1⟩, HP.out.1.1.trans HQ.out.2⟩
/-- STEP. -/
theorem lstep_at {w : World} {b o : Nat} {s : Lx} (h : LAt w b o s) (y : UInt8) :
    Calls Try.prog 31 #[.pointer (some ⟨b, o, none⟩), .int .u8 y.toNat] w fun r w' => ∃ v, r = .returned (.tuple #[v, .int .i64 (errX (stepX s y).1)]) ∧ Tks w w' v (stepX s y).2 ∧ LAt w' b o (stepX s y).1 ∧ Sub b o 18 w w' := by
  by_cases he : errX s = 0
  · exact lstep_good h he y
  · match s, h, he with
    | .bad e, h, _ =>
      refine (lstep_bad h y).mono ?_
      rintro r w' ⟨rfl, q, rfl⟩
      exact ⟨_, rfl, Tks.nil_ _ _, ⟨h.1, h.2⟩, (Sub.refl _ _ _ _).drewN q⟩
    | .idle, _, he => exact absurd rfl he
    | .str _ _, _, he => exact absurd rfl he
    | .num _, _, he => exact absurd rfl he
    | .word _ _, _, he => exact absurd rfl he
end Go.Proofs.Ytacngbngljfedaa
/-
  CONTRACTS of lexer.Lexer, part J: End; a new Lexer.
-/
namespace Go.Proofs.Ytacngbngljfedaa
open Go.RowKit
open Go.Lib
/-- Where End leaves a Lexer. -/
def endS : Lx → Lx
  | .num d => if (endD d).2 ≠ 0 then .bad (endD d).2 else .idle
  | .str _ _ => .bad 3
  | .word _ _ => .bad 3
  | s => s
def lenText (s : Lx) : ByteArray := match s with
  | .str _ t => ⟨t.toArray⟩
  | _ => ⟨#[]⟩
theorem LAt.text {w : World} {b o : Nat} {s : Lx} (h : LAt w b o s) : w.cell? ⟨b, o + 10, none⟩ = some (.string (lenText s)) ∧ (lenText s).size = heldX s := by
  match s, h with
  | .bad e, h => exact ⟨(h.2 10 _ rfl).1, rfl⟩
  | .idle, h => exact ⟨(h 10 _ rfl).1, rfl⟩
  | .str s t, h => exact ⟨(at_ten h.2.2.2.1).1, size_of t⟩
  | .num d, h => exact ⟨(at_ten h.2.2.1).1, rfl⟩
  | .word k r, h => obtain ⟨W, i, _, _, h1, _⟩ := h; exact ⟨(at_ten h1).1, rfl⟩
set_option maxRecDepth 100000 in
set_option maxHeartbeats 1000000 in
theorem lfin_bad {w : World} {b o e : Nat} (h : LAt w b o (.bad e)) :
    Calls Try.prog 35 #[.pointer (some ⟨b, o, none⟩)] w fun r w' => r = .returned (.tuple #[.slice none 0 0, .int .i64 e]) ∧ ∃ q, w' = w.drewN q := by
  obtain ⟨⟨c0, f0⟩, _⟩ := h.head
  have hz : ((e : Int) != 0) = true := by have := h.1; simp; omega
  have c0' : w.cell? ⟨b, o, none⟩ = some (.int .i64 e) := c0
  clear h c0
  go_enter Try.func35, Try.ntmps35
  go_wp2
  go_quiet (fail)
  go_wp2
  go_ret2
  exact ⟨rfl, _, rfl⟩
set_option maxRecDepth 100000 in
set_option maxHeartbeats 1000000 in
theorem lfin_idle {w : World} {b o : Nat} (h : LAt w b o .idle) :
    Calls Try.prog 35 #[.pointer (some ⟨b, o, none⟩)] w fun r w' => r = .returned (.tuple #[.slice none 0 0, .int .i64 0]) ∧ w' = w := by
  obtain ⟨⟨c0, f0⟩, c1, f1⟩ := h.head
  have c0' : w.cell? ⟨b, o, none⟩ = some (.int .i64 0) := c0
  have c1' : w.cell? ⟨b, o + 1, none⟩ = some (.int .i64 0) := c1
  clear h c0 c1
  go_enter Try.func35, Try.ntmps35
  go_wp2
  go_ret2
  exact ⟨rfl, rfl⟩
set_option maxRecDepth 100000 in
set_option maxHeartbeats 1000000 in
theorem lfin_open {w : World} {b o : Nat} (p : Nat) (hp : p = 1 ∨ p = 3) (hR : Room w b o 18) (c0 : w.cell? ⟨b, o, none⟩ = some (.int .i64 0)) (c1 : w.cell? ⟨b, o + 1, none⟩ = some (.int .i64 p)) :
    Calls Try.prog 35 #[.pointer (some ⟨b, o, none⟩)] w fun r w' => r = .returned (.tuple #[.slice none 0 0, .int .i64 3]) ∧ LAt w' b o (.bad 3) ∧ Sub b o 18 w w' := by
  have HT : Hid (Calls Try.prog 46 #[.pointer (some ⟨b, o, none⟩), .slice none 0 0, .int .i64 3] w fun r w' => r = .returned (.tuple #[.slice none 0 0, .int .i64 3]) ∧ At w' b o (lxZ 3) ∧ Sub b o 18 w w') := Lib.hid (told_err hR (.slice none 0 0) 3 (by decide))
  clear hR
  rcases hp with rfl | rfl
  all_goals
    go_enter Try.func35, Try.ntmps35
    go_wp2_with fail
    refine HT.out.mono ?_
    rintro r w2 ⟨rfl, hA, hs⟩
    have HQ := Lib.hid (And.intro hA hs)
    clear hA hs
    go_wp2
    go_ret2
    exact ⟨rfl, ⟨by decide, HQ.out.1⟩, HQ.out.2⟩
set_option maxRecDepth 100000 in
set_option maxHeartbeats 1000000 in
theorem lfin_num {w : World} {b o : Nat} {d : Dec} (h : LAt w b o (.num d)) :
    Calls Try.prog 35 #[.pointer (some ⟨b, o, none⟩)] w fun r w' => ∃ v, r = .returned (.tuple #[v, .int .i64 (endX (.num d)).2]) ∧ Tks w w' v (endX (.num d)).1 ∧ LAt w' b o (endS (.num d)) ∧ Sub b o 18 w w' := by
  obtain ⟨⟨c0, f0⟩, c1, f1⟩ := h.head
  have c0' : w.cell? ⟨b, o, none⟩ = some (.int .i64 0) := c0
  have c1' : w.cell? ⟨b, o + 1, none⟩ = some (.int .i64 2) := c1
  have HE := Lib.hid (lendnum_at h)
  have HR := Lib.hid h.room
  simp only [endX, endS]
  clear h c0 c1
  by_cases he : (endD d).2 = 0
  · rw [if_neg (fun h => h he), if_neg (fun h => h he)]
    generalize endD d = q at *
    obtain ⟨q1, q2⟩ := q
    obtain rfl : q2 = 0 := he
    go_enter Try.func35, Try.ntmps35
    go_wp2_with fail
    refine HE.out.mono ?_
    rintro r w1 ⟨v, rfl, hs, hT⟩
    have HT := Lib.hid (And.intro hs hT)
    clear hs hT
    go_wp2_with fail
    refine (told_ok _ v w1).mono ?_
    rintro r w2 ⟨rfl, rfl⟩
    go_wp2
    go_ret2
    exact ⟨v, rfl, (HT.out.2 (by trivial)).1, (HT.out.2 (by trivial)).2, HT.out.1⟩
  · rw [if_pos he, if_pos he]
    generalize endD d = q at *
    obtain ⟨q1, E⟩ := q
    simp only [] at he HE ⊢
    go_enter Try.func35, Try.ntmps35
    go_wp2_with fail
    refine HE.out.mono ?_
    rintro r w1 ⟨v, rfl, hs, hT⟩
    have HT := Lib.hid hs
    clear hs hT
    go_wp2_with fail
    refine (told_err (HR.out.sub HT.out) v E he).mono ?_
    rintro r w2 ⟨rfl, hA, hs⟩
    have HQ := Lib.hid (And.intro hA hs)
    clear hA hs
    go_wp2
    go_ret2
    exact ⟨_, rfl, Tks.nil_ _ _, ⟨he, HQ.out.1⟩, HT.out.trans HQ.out.2⟩
/-- END. -/
theorem lfin_at {w : World} {b o : Nat} {s : Lx} (h : LAt w b o s) :
    Calls Try.prog 35 #[.pointer (some ⟨b, o, none⟩)] w fun r w' => ∃ v, r = .returned (.tuple #[v, .int .i64 (endX s).2]) ∧ Tks w w' v (endX s).1 ∧ LAt w' b o (endS s) ∧ Sub b o 18 w w' := by
  match s, h with
  | .bad e, h =>
    refine (lfin_bad h).mono ?_
    rintro r w' ⟨rfl, q, rfl⟩
    exact ⟨_, rfl, Tks.nil_ _ _, ⟨h.1, h.2⟩, (Sub.refl _ _ _ _).drewN q⟩
  | .idle, h =>
    refine (lfin_idle h).mono ?_
    rintro r w' ⟨rfl, rfl⟩
    exact ⟨_, rfl, Tks.nil_ _ _, h, Sub.refl _ _ _ _⟩
  | .str s t, h =>
    obtain ⟨⟨c0, _⟩, c1, _⟩ := h.head
    refine (lfin_open 1 (.inl rfl) h.room c0 c1).mono ?_
    rintro r w' ⟨rfl, hL, hs⟩
    exact ⟨_, rfl, Tks.nil_ _ _, hL, hs⟩
  | .word k q, h =>
    obtain ⟨⟨c0, _⟩, c1, _⟩ := h.head
    refine (lfin_open 3 (.inr rfl) h.room c0 c1).mono ?_
    rintro r w' ⟨rfl, hL, hs⟩
    exact ⟨_, rfl, Tks.nil_ _ _, hL, hs⟩
  | .num d, h => exact lfin_num h
/-- A new one. -/
theorem lat_of {w : World} {b o : Nat} (h : At w b o (lxZ 0)) : LAt w b o .idle := h
theorem lat_new (w : World) : LAt (w.alloc (.cells (lxZ 0).toArray 81)) w.heap.size 0 .idle := at_block (heap_alloc_new w _)
end Go.Proofs.Ytacngbngljfedaa
