/-
  LAW of chapter 13: CborinWide, its frame.
-/
import Derived.Test.YtgknpheefbfnlaaGj
import Derived.Test.YtgknpheefbfnlaaGk
import Derived.Test.YtgknpheefbfnlaaGa
/-
  What CborinWide wants (chapter 13): a Whole in a block of its own; the only part of a list that a call made.
-/
namespace Go.Proofs.Ytgknpheefbfnlaa
open Go.RowKit
open Go.Lib
theorem mod4_ref (a : Int) : (wrap64 (a.tmod 4 + 4)).tmod 4 = ((a % 4).toNat : Int) := by
  have h1 := Int.tmod_lt_of_pos a (show (0 : Int) < 4 by omega)
  have h2 : -(4 : Int) < a.tmod 4 := Int.lt_tmod_of_pos a (show (0 : Int) < 4 by omega)
  have h0 : a.tmod 4 = a % 4 ∨ a.tmod 4 = a % 4 - 4 := by
    rw [Int.tmod_eq_emod]
    split
    · exact .inl (by omega)
    · exact .inr rfl
  have hw : wrap64 (a.tmod 4 + 4) = a.tmod 4 + 4 := by unfold wrap64; omega
  rw [hw, Int.tmod_eq_emod_of_nonneg (by omega)]
  omega
/-- A Whole in a block of its own. -/
def HasW (y : Bool) (v : Nat) (W : World) (g : Nat) : Prop := W.heap[g]? = some (.cells #[.bool y, .int .u64 v] 61 (0, 0))
theorem HasW.go {y : Bool} {v : Nat} {W W2 : World} {g : Nat} (h : HasW y v W g) (b : Below W.heap.size W W2) : HasW y v W2 g := (b.block g (Array.getElem?_eq_some_iff.1 h).1).trans h
theorem HasW.goD {y : Bool} {v : Nat} {W W2 : World} {g : Nat} (h : HasW y v W g) (b : Below W.drew.heap.size W.drew W2) : HasW y v W2 g := HasW.go (W := W.drew) h b
theorem HasW.alloc {y : Bool} {v : Nat} {W : World} {g : Nat} (h : HasW y v W g) (X : Obj) : HasW y v (W.alloc X) g := h.go ((Below.refl _ _).alloc (Nat.le_refl _) X)
theorem HasW.lt {y : Bool} {v : Nat} {W : World} {g : Nat} (h : HasW y v W g) : g < W.heap.size := (Array.getElem?_eq_some_iff.1 h).1
theorem HasW.c0 {y : Bool} {v : Nat} {W : World} {g : Nat} (h : HasW y v W g) : W.cell? ⟨g, 0, none⟩ = some (.bool y) := (at_block h 0 _ rfl).1
theorem HasW.c1 {y : Bool} {v : Nat} {W : World} {g : Nat} (h : HasW y v W g) : W.cell? ⟨g, 1, none⟩ = some (.int .u64 v) := (at_block h 1 _ rfl).1
theorem ends0 {w w1 : World} {O : Obj} (b : Below (w.alloc O).drew.heap.size (w.alloc O).drew w1) : Below w.heap.size w w1 := ends1 b
theorem ends0d {w w1 : World} (b : Below w.drew.heap.size w.drew w1) : Below w.heap.size w w1 := by
  have a : Below w.heap.size w w.drew := below_drewN (Below.refl w.heap.size w) 1
  exact a.trans b
structure WTail (y : Bool) (v : Nat) (w W : World) (g off : Nat) : Prop where
  b : Below w.heap.size w W
  x : HasW y v W w.heap.size
  l0 : W.cell? ⟨g, off, none⟩ = some (.int .i64 2)
  l1 : W.cell? ⟨g, off + 1, none⟩ = some (.bool y)
  l2 : W.cell? ⟨g, off + 2, none⟩ = some (.int .u64 v)
  l3 : W.cell? ⟨g, off + 3, none⟩ = some (.string ⟨#[]⟩)
  l4 : W.cell? ⟨g, off + 4, none⟩ = some (.int .i64 0)
theorem wtail_of {y : Bool} {v : Nat} {w w2 w3 : World} {u : Value} (hB : Below w.heap.size w w2) (hX : HasW y v w2 w.heap.size) (hM : Made w2 w3 u 1 [evIntC y v]) :
    ∃ g off cap, u = .slice (some ⟨g, off, none⟩) 1 cap ∧ WTail y v w w3 g off := by
  obtain ⟨g, off, cap, h, _, _, _, _, hc⟩ := hM.2.1.form Nat.one_pos
  exact ⟨g, off, cap, h, up_trans hB hM.1, hX.go hM.1, (hc 0 (.int .i64 2) rfl).1, (hc 1 (.bool y) rfl).1, (hc 2 (.int .u64 v) rfl).1, (hc 3 (.string ⟨#[]⟩) rfl).1, (hc 4 (.int .i64 0) rfl).1⟩
end Go.Proofs.Ytgknpheefbfnlaa
