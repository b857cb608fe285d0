/-
  The book's documents: how many blocks one may take; what came in as ints.
-/
import Derived.Test.YtkfidnfnehnhoaaDocI
import Derived.Test.YtkfidnfnehnhoaaKit
namespace Go.Proofs.Ytkfidnfnehnhoaa
open Go.RowKit
open Go.Lib
theorem cap16 (D : Nat) (hD : D ≤ 16) : capD D ≤ 900000000 := by
  have hc : D = 0 ∨ D = 1 ∨ D = 2 ∨ D = 3 ∨ D = 4 ∨ D = 5 ∨ D = 6 ∨ D = 7 ∨ D = 8 ∨ D = 9 ∨ D = 10 ∨ D = 11 ∨ D = 12 ∨ D = 13 ∨ D = 14 ∨ D = 15 ∨ D = 16 := by omega
  rcases hc with rfl | rfl | rfl | rfl | rfl | rfl | rfl | rfl | rfl | rfl | rfl | rfl | rfl | rfl | rfl | rfl | rfl <;> decide +kernel
/-- What came in as ints, as the documents want it. -/
theorem dlat_reads {w : World} {A : Option Addr} {n : Nat} {zs : List Int} (hl : zs.length = n) (hR : Reads w w.heap.size 1 A n (zs.map (Value.int .i64))) : DLAt w w.heap.size A n (fun i => zs.getD i 0) := fun h0 => by
  obtain ⟨ad, rfl, hb, hc⟩ := hR.2 h0
  obtain ⟨b, off, spot⟩ := ad
  have h00 := hc 0 (.int .i64 (zs[0]'(by omega))) (by simp [show 0 < zs.length by omega])
  have hspot : spot = none := by simpa [Addr.add] using World.cell?_spot h00
  subst hspot
  refine ⟨b, off, rfl, hb, fun i hi => ?_⟩
  have hi' : i < zs.length := by omega
  have := hc i (.int .i64 zs[i]) (by simp [hi'])
  by_cases hi0 : i = 0
  · subst hi0
    simpa [List.getD, hi', Addr.add] using this
  · simpa [List.getD, hi', Addr.add, hi0] using this
end Go.Proofs.Ytkfidnfnehnhoaa
