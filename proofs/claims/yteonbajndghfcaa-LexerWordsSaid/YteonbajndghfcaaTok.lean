/-
  Lists of tokens in memory; cells that are there, whatever they hold; cells that are all written anew.
-/
import Derived.Test.YteonbajndghfcaaUp
import Derived.Test.YteonbajndghfcaaSub
import Derived.Test.YteonbajndghfcaaKit
import Derived.Test.YteonbajndghfcaaLexPure
import Derived.Deep.MidRow
namespace Go.Proofs.Yteonbajndghfcaa
open Go.RowKit
open Go.Lib
/-- The four cells of a token. -/
def tkCells (t : Tk) : List Value := [.int .u8 t.k, .string ⟨t.t.toArray⟩, .bool t.n.1, .int .u64 t.n.2]
/-- A token, as a plain one. -/
def tkV (t : Tk) : Value := .agg #[.int .u8 t.k, .string ⟨t.t.toArray⟩, .bool t.n.1, .int .u64 t.n.2]
def tksC : List Tk → List Value
  | [] => []
  | e :: r => tkCells e ++ tksC r
theorem tksC_append (L K : List Tk) : tksC (L ++ K) = tksC L ++ tksC K := by
  induction L with
  | nil => rfl
  | cons e L ih => simp only [List.cons_append, tksC, ih, List.append_assoc]
theorem tksC_length (L : List Tk) : (tksC L).length = L.length * 4 := by
  induction L with
  | nil => rfl
  | cons e L ih =>
    rw [tksC, List.length_append, ih]
    simp [tkCells]
    omega
theorem tksC_one (L : List Tk) : ∀ u ∈ tksC L, u.oneCell' = true := by
  induction L with
  | nil => intro u h; simp [tksC] at h
  | cons e L ih =>
    intro u h
    rw [tksC, List.mem_append] at h
    rcases h with h | h
    · simp [tkCells] at h
      rcases h with rfl | rfl | rfl | rfl <;> rfl
    · exact ih u h
def getT (L : List Tk) (i : Nat) : Tk := L[i]?.getD (sgnT 0)
theorem tksC_get (L : List Tk) : ∀ (i j : Nat), i < L.length → j < 4 → (tksC L)[i * 4 + j]? = (tkCells (getT L i))[j]? := by
  induction L with
  | nil => intro i j h; simp at h
  | cons e L ih =>
    intro i j hi hj
    rw [tksC]
    cases i with
    | zero =>
      rw [List.getElem?_append_left (by simp [tkCells]; omega)]
      simp [getT]
    | succ i =>
      rw [List.getElem?_append_right (by simp [tkCells]; omega)]
      have h1 : (i + 1) * 4 + j - (tkCells e).length = i * 4 + j := by simp [tkCells]; omega
      rw [h1, ih i j (by simpa using hi) hj]
      simp [getT]
theorem info_tk : (Try.prog.info? 42).map (fun i => (i.zero, i.size, i.bytes)) = some (some (.agg #[.int .u8 0, .string ⟨#[]⟩, .bool false, .int .u64 0]), 4, 40) := by kernel_rfl
/-- A list of tokens that a call made, of blocks that were not there. -/
structure Tks (w0 w : World) (v : Value) (L : List Tk) : Prop where
  win : Win w 42 4 v L.length (tksC L)
  new : ∀ k ∈ Value.owner v, w0.heap.size ≤ k
theorem Tks.nil_ (w0 w : World) : Tks w0 w (.slice none 0 0) [] := ⟨Win.nil_ _ _ _, fun k hk => by simp [Value.owner] at hk⟩
theorem Tks.keep {w0 w w' : World} {v : Value} {L : List Tk} (h : Tks w0 w v L) (hk : ∀ k, k < w.heap.size → w0.heap.size ≤ k → w'.heap[k]? = w.heap[k]?) : Tks w0 w' v L :=
  ⟨h.win.keep fun k ho => hk k (h.win.lt k ho) (h.new k ho), h.new⟩
theorem Tks.go {w0 w w' : World} {v : Value} {L : List Tk} (h : Tks w0 w v L) (k : Below w.heap.size w w') : Tks w0 w' v L := h.keep fun i hi _ => k.block i hi
theorem Tks.sub {w0 w w' : World} {v : Value} {L : List Tk} {b o n : Nat} (h : Tks w0 w v L) (k : Sub b o n w w') (hb : b < w0.heap.size) : Tks w0 w' v L :=
  h.keep fun i hi h0 => k.step.block i hi (by simp only [List.mem_singleton]; omega)
theorem Tks.old {w0 w1 w : World} {v : Value} {L : List Tk} (h : Tks w0 w v L) (hs : w1.heap.size ≤ w0.heap.size) : Tks w1 w v L := ⟨h.win, fun k hk => Nat.le_trans hs (h.new k hk)⟩
theorem Tks.form {w0 w : World} {v : Value} {L : List Tk} (h : Tks w0 w v L) : ∃ a c, v = .slice a L.length c := by
  obtain ⟨a, c, h, _, _⟩ := h.win.slice_form
  exact ⟨a, c, h⟩
/-- The cells of token i. -/
theorem Tks.cells {w0 w : World} {v : Value} {L : List Tk} (h : Tks w0 w v L) {i : Nat} (hi : i < L.length) : ∃ b off c, v = .slice (some ⟨b, off, none⟩) L.length c ∧
    w.cell? ⟨b, off + i * 4, none⟩ = some (.int .u8 (getT L i).k) ∧ w.cell? ⟨b, off + i * 4 + 1, none⟩ = some (.string ⟨(getT L i).t.toArray⟩) ∧ w.cell? ⟨b, off + i * 4 + 2, none⟩ = some (.bool (getT L i).n.1) ∧ w.cell? ⟨b, off + i * 4 + 3, none⟩ = some (.int .u64 (getT L i).n.2) := by
  obtain ⟨g, off, c, rfl, _, _, _, _, hc⟩ := h.win.form (by omega)
  refine ⟨g, off, c, rfl, ?_, ?_, ?_, ?_⟩
  · exact (hc (i * 4 + 0) _ (by rw [tksC_get L i 0 hi (by omega)]; rfl)).1
  · exact (hc (i * 4 + 1) _ (by rw [tksC_get L i 1 hi (by omega)]; rfl)).1
  · exact (hc (i * 4 + 2) _ (by rw [tksC_get L i 2 hi (by omega)]; rfl)).1
  · exact (hc (i * 4 + 3) _ (by rw [tksC_get L i 3 hi (by omega)]; rfl)).1
theorem tks_one (w0 w : World) (t : Tk) (hs : w0.heap.size ≤ w.heap.size) : Tks w0 (w.alloc (.cells #[.int .u8 t.k, .string ⟨t.t.toArray⟩, .bool t.n.1, .int .u64 t.n.2] 42)) (.slice (some ⟨w.heap.size, 0, none⟩) 1 1) [t] :=
  ⟨⟨rfl, .inr ⟨w.heap.size, 0, 1, _, rfl, heap_alloc_new w _, Nat.le_refl _, by simp, by unfold maxLen; omega, by simp [tksC, tkCells]⟩⟩, fun k hk => by simp [Value.owner] at hk; subst hk; exact hs⟩
/-! ### Cells that are there, whatever they hold -/
/-- The n cells of block b from o on are there, none is frozen. -/
def Room (w : World) (b o n : Nat) : Prop := ∃ c t fr, w.heap[b]? = some (.cells c t fr) ∧ o + n ≤ c.size ∧ ∀ k, o ≤ k → k < o + n → w.frozen? ⟨b, k, none⟩ = false
theorem Room.cell {w : World} {b o n : Nat} (h : Room w b o n) (k : Nat) (h1 : o ≤ k) (h2 : k < o + n) : ∃ v, w.cell? ⟨b, k, none⟩ = some v ∧ w.frozen? ⟨b, k, none⟩ = false := by
  obtain ⟨c, t, fr, hc, hs, hf⟩ := h
  refine ⟨c[k]'(by omega), ?_, hf k h1 h2⟩
  unfold World.cell?
  simp only [hc]
  simp [show k < c.size by omega]
theorem Room.lt {w : World} {b o n : Nat} (h : Room w b o n) : b < w.heap.size := by
  obtain ⟨c, t, fr, hc, _⟩ := h
  exact (Array.getElem?_eq_some_iff.1 hc).1
theorem Room.sub {w w' : World} {b o n o' n' : Nat} (h : Room w b o n) (k : Sub b o' n' w w') : Room w' b o n := by
  obtain ⟨c, t, fr, hc, hs, hf⟩ := h
  obtain ⟨c', hc', hs'⟩ := k.shape c t fr hc
  exact ⟨c', t, fr, hc', by omega, fun i h1 h2 => (k.frozen c t fr hc i).trans (hf i h1 h2)⟩
theorem Room.keep {w w' : World} {b o n : Nat} (h : Room w b o n) (hk : w'.heap[b]? = w.heap[b]?) : Room w' b o n := by
  obtain ⟨c, t, fr, hc, hs, hf⟩ := h
  exact ⟨c, t, fr, hk.trans hc, hs, fun i h1 h2 => (World.frozen?_of_block (w := w) (a := ⟨b, i, none⟩) hk).trans (hf i h1 h2)⟩
theorem Room.part {w : World} {b o n o' n' : Nat} (h : Room w b o n) (h1 : o ≤ o') (h2 : o' + n' ≤ o + n) : Room w b o' n' := by
  obtain ⟨c, t, fr, hc, hs, hf⟩ := h
  exact ⟨c, t, fr, hc, by omega, fun i h3 h4 => hf i (by omega) (by omega)⟩
theorem Room.there {w : World} {b o n : Nat} (h : Room w b o n) : w.there b o n := fun j hj => by
  obtain ⟨v, hv, hf⟩ := h.cell (o + j) (by omega) (by omega)
  exact ⟨by rw [hv]; rfl, hf⟩
theorem At.room {w : World} {b o : Nat} {vs : List Value} (h : At w b o vs) (hv : vs ≠ []) : Room w b o vs.length := by
  obtain ⟨c, t, fr, hc⟩ := h.block hv
  have hl : 0 < vs.length := List.length_pos_iff.2 hv
  refine ⟨c, t, fr, hc, ?_, fun k h1 h2 => ?_⟩
  · have h1 := (h (vs.length - 1) _ (List.getElem?_eq_getElem (by omega))).1
    unfold World.cell? at h1
    simp only [hc] at h1
    have := (Array.getElem?_eq_some_iff.1 (by simpa using h1)).1
    omega
  · have h3 := (h (k - o) _ (List.getElem?_eq_getElem (by omega))).2
    rwa [show o + (k - o) = k by omega] at h3
theorem setAll_sub (b : Nat) : ∀ (vs : List Value) (w : World) (o : Nat), Sub b o vs.length w (w.setCells b o vs) := by
  intro vs
  induction vs with
  | nil => intro w o; exact Sub.refl _ _ _ _
  | cons v r ih =>
    intro w o
    exact (sub_setCell w o v (by simp only [List.length_cons]; omega)).trans ((ih _ (o + 1)).widen (by omega) (by simp only [List.length_cons]; omega))
theorem setAll_at (b : Nat) : ∀ (vs : List Value) (w : World) (o : Nat), Room w b o vs.length → At (w.setCells b o vs) b o vs := by
  intro vs
  induction vs with
  | nil => intro w o _; exact At.nil_ _ _ _
  | cons v r ih =>
    intro w o hR
    have h1 := sub_setCell (b := b) (o := o) (n := 1) w o v (by omega)
    refine at_cons ?_ (ih _ _ ((hR.sub h1).part (by omega) (by simp only [List.length_cons]; omega)))
    have hs := setAll_sub b r (w.setCell ⟨b, o, none⟩ v) (o + 1)
    obtain ⟨u, hu, hf⟩ := hR.cell o (Nat.le_refl _) (by simp only [List.length_cons]; omega)
    have hA : At w b o [u] := fun j x hx => by
      cases j with
      | zero => have : x = u := by simpa using hx.symm
                subst this; exact ⟨hu, hf⟩
      | succ j => simp at hx
    have hB : At (w.setCell ⟨b, o, none⟩ v) b o [v] := hA.set 0 (by simp) v
    exact (hB.sub hs (.inl (by simp))) 0 v rfl
/-- All cells of a variable written at once, as the walk meets it. -/
theorem wpList_store_room {P : Program} {ops : Array Oper} {rest : List Oper} {op : Oper} {a : Act} {w : World} {Q : Exit → Act → World → Prop} (hgd : op.guard = none) (ty : TypeId) (x y : Operand) (ho : op.op = .store ty x y)
    (b o : Nat) (cs : List Value) (hx : a.eval x = .pointer (some ⟨b, o, none⟩)) (hy : a.eval y = .agg cs.toArray) (hr : Room w b o cs.length) (hi : (P.info? ty).map (·.size) = some cs.length) (h1 : cs.toArray.all (·.oneCell') = true)
    (h : ∀ w', Hid (At w' b o cs ∧ Sub b o cs.length w w') → wpList P ops Q rest (a.put op.dst undef) w') : wpList P ops Q (op :: rest) a w :=
  wpList_store_mid hgd ty x y ho b o cs.toArray hx hy (by simpa using hr.there) (by simpa using hi) h1 (h _ (Lib.hid ⟨setAll_at b _ w o hr, setAll_sub b _ w o⟩))
theorem Room.alloc {w : World} {b o n : Nat} (h : Room w b o n) (x : Obj) : Room (w.alloc x) b o n := h.keep (Below.heap_alloc w x b h.lt)
theorem sub_of_below {w w' : World} {b : Nat} (h : Below w.heap.size w w') (hb : b < w.heap.size) (o n : Nat) : Sub b o n w w' :=
  ⟨⟨h.os, h.tape, h.output, h.size, fun k hk _ => h.block k hk, fun _ h => .inl h⟩, fun c _ _ hc => ⟨c, (h.block b hb).trans hc, rfl⟩, fun _ _ => World.cell?_of_block (w := w) (h.block b hb)⟩
end Go.Proofs.Yteonbajndghfcaa
