/-
  CONTRACT of the book's documents out of numbers: truchmanbook.Doc.
-/
import Derived.Test.YtkfidnfnehnhoaaDocH
import Derived.Laws.EntriesVeiled
namespace Go.Proofs.Ytkfidnfnehnhoaa
open Go.RowKit
open Go.Lib
theorem blk_new1 (w : World) (X : Obj) (cs : Array Value) (t : TypeId) : Blk ((w.alloc X).alloc (.cells cs t)) (w.heap.size + 1) cs t := by
  have := blk_new (w.alloc X) cs t
  rwa [World.size_alloc] at this
theorem blk_new2 (w : World) (X Y : Obj) (cs : Array Value) (t : TypeId) : Blk (((w.alloc X).alloc Y).alloc (.cells cs t)) (w.heap.size + 1 + 1) cs t := by
  have := blk_new1 (w.alloc X) Y cs t
  rwa [World.size_alloc] at this
theorem blk_new3 (w : World) (X Y Z : Obj) (cs : Array Value) (t : TypeId) : Blk ((((w.alloc X).alloc Y).alloc Z).alloc (.cells cs t)) (w.heap.size + 1 + 1 + 1) cs t := by
  have := blk_new2 (w.alloc X) Y Z cs t
  rwa [World.size_alloc] at this
theorem blk_new4 (w : World) (X Y Z U : Obj) (cs : Array Value) (t : TypeId) : Blk (((((w.alloc X).alloc Y).alloc Z).alloc U).alloc (.cells cs t)) (w.heap.size + 1 + 1 + 1 + 1) cs t := by
  have := blk_new3 (w.alloc X) Y Z U cs t
  rwa [World.size_alloc] at this
theorem blk_new5 (w : World) (X Y Z U V : Obj) (cs : Array Value) (t : TypeId) : Blk ((((((w.alloc X).alloc Y).alloc Z).alloc U).alloc V).alloc (.cells cs t)) (w.heap.size + 1 + 1 + 1 + 1 + 1) cs t := by
  have := blk_new4 (w.alloc X) Y Z U V cs t
  rwa [World.size_alloc] at this
/-- What Doc lays ahead of its one item. -/
theorem ds_new (A : Option Addr) (n cp : Nat) (L : Nat → Int) (D : Nat) (w : World) (hL : DLAt w w.heap.size A n L) :
    DS w A n cp L D w.heap.size (w.heap.size + 1) (w.heap.size + 1 + 1) (w.heap.size + 1 + 1 + 1) (w.heap.size + 1 + 1 + 1 + 1) (w.heap.size + 1 + 1 + 1 + 1 + 1)
      ((((((w.alloc (.cells #[.slice A n cp] 42)).alloc (.cells #[.int .i64 D] 3)).alloc (.cells #[.slice none 0 0] 23)).alloc (.cells #[.int .i64 0] 3)).alloc (.cells #[clNext (w.heap.size + 1 + 1 + 1) w.heap.size] 44)).alloc
        (.cells #[clItem (w.heap.size + 1 + 1 + 1 + 1) (w.heap.size + 1 + 1) (w.heap.size + 1) (w.heap.size + 1 + 1 + 1 + 1 + 1)] 79)) (.slice none 0 0) 0 [] 0 := by
  have hB : Below w.heap.size w ((((((w.alloc (.cells #[.slice A n cp] 42)).alloc (.cells #[.int .i64 D] 3)).alloc (.cells #[.slice none 0 0] 23)).alloc (.cells #[.int .i64 0] 3)).alloc (.cells #[clNext (w.heap.size + 1 + 1 + 1) w.heap.size] 44)).alloc
        (.cells #[clItem (w.heap.size + 1 + 1 + 1 + 1) (w.heap.size + 1 + 1) (w.heap.size + 1) (w.heap.size + 1 + 1 + 1 + 1 + 1)] 79)) := up_alloc (up_alloc (up_alloc (up_alloc (up_alloc (up_alloc (Below.refl _ _) _) _) _) _) _) _
  exact ⟨((((((blk_new _ _ _).alloc _).alloc _).alloc _).alloc _).alloc _), (((((blk_new1 _ _ _ _).alloc _).alloc _).alloc _).alloc _), (((blk_new2 _ _ _ _ _).alloc _).alloc _).alloc _, ((blk_new3 _ _ _ _ _ _).alloc _).alloc _, (blk_new4 _ _ _ _ _ _ _).alloc _, blk_new5 _ _ _ _ _ _ _ _,
    ⟨hB, Win.nil_ _ _ _, fun k hk => by simp [Value.owner] at hk⟩, rfl, hL.below hB, by omega, by omega, by omega⟩
set_option maxHeartbeats 2000000 in
/-- Doc tells the parts of one item. -/
theorem doc_any (A : Option Addr) (n cp : Nat) (L : Nat → Int) (D : Nat) (w : World) (hL : DLAt w w.heap.size A n L) (h2 : n ≤ 900000000) (hD : D ≤ 1000) (hC : capD D ≤ 900000000) :
    Calls Try.prog 17 #[.slice A n cp, .int .i64 ((D : Nat) : Int)] w fun r w' => ∃ v, r = .returned v ∧ Made w w' v (itemD n L D 0).1.length (itemD n L D 0).1 := by
  have hI := item_any (bl := w.heap.size) (bd := w.heap.size + 1) (bo := w.heap.size + 1 + 1) (ba := w.heap.size + 1 + 1 + 1) (bn := w.heap.size + 1 + 1 + 1 + 1) (bi := w.heap.size + 1 + 1 + 1 + 1 + 1) (cp := cp) (A := A) (L := L) (W := w) h2 hD D 0 (by omega) 0 0 _ _ _ (ds_new A n cp L D w hL) (by omega) (by omega)
  simp only [Nat.zero_add, List.nil_append] at hI
  have HI := Lib.hid hI
  clear hI hL hC
  go_enter Try.func17, Try.ntmps17
  go_wp2_with fail
  refine HI.out.mono ?_
  rintro r w1 ⟨v, rfl, hS⟩
  have o0 := hS.o.cell 0
  simp only [List.getElem?_toArray, List.getElem?_cons_zero] at o0
  have HM := Lib.hid hS.made
  clear hS
  go_wp2
  go_ret
  exact ⟨v, rfl, HM.out⟩
end Go.Proofs.Ytkfidnfnehnhoaa
