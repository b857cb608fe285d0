/-
  CONTRACT of truchmanbook.SameEvs: two lists that hold the same.
-/
import Derived.Test.YtkfidnfnehnhoaaEvEq
import Derived.Test.YtkfidnfnehnhoaaLst
import Derived.Deep.QuietTactic
import Derived.Deep.RegionWith
namespace Go.Proofs.Ytkfidnfnehnhoaa
open Go.RowKit
open Go.Lib
/-- Two lists that hold the same. -/
theorem same_evs (A A' : Option Addr) (n cp cp' : Nat) (E : Nat → Ev) (w : World) (hn : n ≤ 100000) (hE : EvsAt w w.heap.size A n E) (hE' : EvsAt w w.heap.size A' n E) :
    Calls Try.prog 21 #[.slice A n cp, .slice A' n cp'] w fun r w' => r = .returned (.bool true) ∧ Below w.heap.size w w' := by
  have HE := Lib.hid hE
  have HE' := Lib.hid hE'
  clear hE hE'
  go_enter Try.func21, Try.ntmps21
  go_wp2
  go_loopw [5] (fun i wr => ∃ j : Nat, i = .int .i64 j ∧ j ≤ n ∧ Hid (Below w.heap.size w wr)) (fun i _ => n - (RowKit.intOf i).toNat)
  case atStart => exact ⟨0, rfl, by omega, Lib.hid (Below.refl _ _)⟩
  case round =>
    obtain ⟨j, rfl, hjn, HB⟩ := hrel
    by_cases hlt : j < n
    · obtain ⟨b, off, rfl, hb, x0, x1, x2, x3, x4⟩ := (HE.out.below HB.out).cells hlt
      obtain ⟨b', off', rfl, hb', y0, y1, y2, y3, y4⟩ := (HE'.out.below HB.out).cells hlt
      have he := fun W => ev_eql (E j) (E j) W
      rw [sameE_refl] at he
      generalize E j = e at *
      obtain ⟨k, y, m, t, c⟩ := e
      simp only [evV] at he x0 x1 x2 x3 x4 y0 y1 y2 y3 y4
      go_wp2
      go_quiet (fail)
      go_wp2
      go_roundw
      case rel => exact ⟨j + 1, rfl, hlt, Lib.hid (below_drN HB.out _)⟩
      case measure => simp [RowKit.intOf]; omega
    · obtain rfl : j = n := by omega
      go_wp2
      go_ret
      exact ⟨rfl, HB.out⟩
end Go.Proofs.Ytkfidnfnehnhoaa
