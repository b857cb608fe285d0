/-
  GENERAL: cells that are there, whatever they hold; cells that are all written anew.
-/
import Derived.Test.YtkfidnfnehnhoaaUp
import Derived.Test.YtkfidnfnehnhoaaSub
import Derived.Test.YtkfidnfnehnhoaaKit
import Derived.Deep.MidRow
namespace Go.Proofs.Ytkfidnfnehnhoaa
open Go.RowKit
open Go.Lib
/-! ### Cells that are there, whatever they hold -/
/-- The n cells of block b from o on are there, none is frozen. -/
def Room (w : World) (b o n : Nat) : Prop := ∃ c t fr, w.heap[b]? = some (.cells c t fr) ∧ o + n ≤ c.size ∧ ∀ k, o ≤ k → k < o + n → w.frozen? ⟨b, k, none⟩ = false
theorem Room.cell {w : World} {b o n : Nat} (h : Room w b o n) (k : Nat) (h1 : o ≤ k) (h2 : k < o + n) : ∃ v, w.cell? ⟨b, k, none⟩ = some v ∧ w.frozen? ⟨b, k, none⟩ = false := by
  obtain ⟨c, t, fr, hc, hs, hf⟩ := h
  refine ⟨c[k]'(by omega), ?_, hf k h1 h2⟩
  unfold World.cell?
  simp only [hc]
  simp [show k < c.size by omega]
theorem Room.lt {w : World} {b o n : Nat} (h : Room w b o n) : b < w.heap.size := by
  obtain ⟨c, t, fr, hc, _⟩ := h
  exact (Array.getElem?_eq_some_iff.1 hc).1
theorem Room.sub {w w' : World} {b o n o' n' : Nat} (h : Room w b o n) (k : Sub b o' n' w w') : Room w' b o n := by
  obtain ⟨c, t, fr, hc, hs, hf⟩ := h
  obtain ⟨c', hc', hs'⟩ := k.shape c t fr hc
  exact ⟨c', t, fr, hc', by omega, fun i h1 h2 => (k.frozen c t fr hc i).trans (hf i h1 h2)⟩
theorem Room.keep {w w' : World} {b o n : Nat} (h : Room w b o n) (hk : w'.heap[b]? = w.heap[b]?) : Room w' b o n := by
  obtain ⟨c, t, fr, hc, hs, hf⟩ := h
  exact ⟨c, t, fr, hk.trans hc, hs, fun i h1 h2 => (World.frozen?_of_block (w := w) (a := ⟨b, i, none⟩) hk).trans (hf i h1 h2)⟩
theorem Room.part {w : World} {b o n o' n' : Nat} (h : Room w b o n) (h1 : o ≤ o') (h2 : o' + n' ≤ o + n) : Room w b o' n' := by
  obtain ⟨c, t, fr, hc, hs, hf⟩ := h
  exact ⟨c, t, fr, hc, by omega, fun i h3 h4 => hf i (by omega) (by omega)⟩
theorem Room.there {w : World} {b o n : Nat} (h : Room w b o n) : w.there b o n := fun j hj => by
  obtain ⟨v, hv, hf⟩ := h.cell (o + j) (by omega) (by omega)
  exact ⟨by rw [hv]; rfl, hf⟩
theorem At.room {w : World} {b o : Nat} {vs : List Value} (h : At w b o vs) (hv : vs ≠ []) : Room w b o vs.length := by
  obtain ⟨c, t, fr, hc⟩ := h.block hv
  have hl : 0 < vs.length := List.length_pos_iff.2 hv
  refine ⟨c, t, fr, hc, ?_, fun k h1 h2 => ?_⟩
  · have h1 := (h (vs.length - 1) _ (List.getElem?_eq_getElem (by omega))).1
    unfold World.cell? at h1
    simp only [hc] at h1
    have := (Array.getElem?_eq_some_iff.1 (by simpa using h1)).1
    omega
  · have h3 := (h (k - o) _ (List.getElem?_eq_getElem (by omega))).2
    rwa [show o + (k - o) = k by omega] at h3
theorem setAll_sub (b : Nat) : ∀ (vs : List Value) (w : World) (o : Nat), Sub b o vs.length w (w.setCells b o vs) := by
  intro vs
  induction vs with
  | nil => intro w o; exact Sub.refl _ _ _ _
  | cons v r ih =>
    intro w o
    exact (sub_setCell w o v (by simp only [List.length_cons]; omega)).trans ((ih _ (o + 1)).widen (by omega) (by simp only [List.length_cons]; omega))
theorem setAll_at (b : Nat) : ∀ (vs : List Value) (w : World) (o : Nat), Room w b o vs.length → At (w.setCells b o vs) b o vs := by
  intro vs
  induction vs with
  | nil => intro w o _; exact At.nil_ _ _ _
  | cons v r ih =>
    intro w o hR
    have h1 := sub_setCell (b := b) (o := o) (n := 1) w o v (by omega)
    refine at_cons ?_ (ih _ _ ((hR.sub h1).part (by omega) (by simp only [List.length_cons]; omega)))
    have hs := setAll_sub b r (w.setCell ⟨b, o, none⟩ v) (o + 1)
    obtain ⟨u, hu, hf⟩ := hR.cell o (Nat.le_refl _) (by simp only [List.length_cons]; omega)
    have hA : At w b o [u] := fun j x hx => by
      cases j with
      | zero => have : x = u := by simpa using hx.symm
                subst this; exact ⟨hu, hf⟩
      | succ j => simp at hx
    have hB : At (w.setCell ⟨b, o, none⟩ v) b o [v] := hA.set 0 (by simp) v
    exact (hB.sub hs (.inl (by simp))) 0 v rfl
/-- All cells of a variable written at once, as the walk meets it. -/
theorem wpList_store_room {P : Program} {ops : Array Oper} {rest : List Oper} {op : Oper} {a : Act} {w : World} {Q : Exit → Act → World → Prop} (hgd : op.guard = none) (ty : TypeId) (x y : Operand) (ho : op.op = .store ty x y)
    (b o : Nat) (cs : List Value) (hx : a.eval x = .pointer (some ⟨b, o, none⟩)) (hy : a.eval y = .agg cs.toArray) (hr : Room w b o cs.length) (hi : (P.info? ty).map (·.size) = some cs.length) (h1 : cs.toArray.all (·.oneCell') = true)
    (h : ∀ w', Hid (At w' b o cs ∧ Sub b o cs.length w w') → wpList P ops Q rest (a.put op.dst undef) w') : wpList P ops Q (op :: rest) a w :=
  wpList_store_mid hgd ty x y ho b o cs.toArray hx hy (by simpa using hr.there) (by simpa using hi) h1 (h _ (Lib.hid ⟨setAll_at b _ w o hr, setAll_sub b _ w o⟩))
theorem Room.alloc {w : World} {b o n : Nat} (h : Room w b o n) (x : Obj) : Room (w.alloc x) b o n := h.keep (Below.heap_alloc w x b h.lt)
theorem sub_of_below {w w' : World} {b : Nat} (h : Below w.heap.size w w') (hb : b < w.heap.size) (o n : Nat) : Sub b o n w w' :=
  ⟨⟨h.os, h.tape, h.output, h.size, fun k hk _ => h.block k hk, fun _ h => .inl h⟩, fun c _ _ hc => ⟨c, (h.block b hb).trans hc, rfl⟩, fun _ _ => World.cell?_of_block (w := w) (h.block b hb)⟩
end Go.Proofs.Ytkfidnfnehnhoaa
