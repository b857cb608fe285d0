/-
  What the laws want of cborin.All; alive.
-/
import Derived.Test.YtgknpheefbfnlaaGc
import Derived.Test.YtgknpheefbfnlaaGd
import Derived.Deep.QuietTactic
import Derived.Deep.RegionWith
/-
  What chapter 13's laws want of package cborin, as a hypothesis: All (the contract is proved apart, the laws stand on it).
-/
namespace Go.Proofs.Ytgknpheefbfnlaa
open Go.RowKit
open Go.Lib
/-- cborin.All is the machine's. -/
def CinAll : Prop := ∀ (bs : List UInt8) (D : Nat), 1 ≤ D ∧ D ≤ 16 → bs.length ≤ 100000000 → ∀ W : World,
  Calls Try.prog 14 #[.string ⟨bs.toArray⟩, .int .i64 D] W fun r w' => ∃ u, r = .returned (.tuple #[u, .int .i64 (allCi D bs).2]) ∧ Made W w' u (allCi D bs).1.length (allCi D bs).1
end Go.Proofs.Ytgknpheefbfnlaa
/-
  LAWS of chapter 13, over what they want of package cborin (CinAll): the first call (alive).
-/
namespace Go.Proofs.Ytgknpheefbfnlaa
open Go.RowKit
open Go.Lib
theorem calive_a : allCi 4 [130, 1, 246] = ([⟨5, false, 0, ⟨#[]⟩, 2⟩, ⟨2, false, 1, ⟨#[]⟩, 0⟩, ⟨0, false, 0, ⟨#[]⟩, 0⟩, ⟨7, false, 0, ⟨#[]⟩, 0⟩], 0) := by kernel_rfl
set_option maxRecDepth 100000 in
set_option maxHeartbeats 4000000 in
theorem calive_any (H : CinAll) (w : World) : Calls Try.prog 13 #[] w fun e w' => e = .returned (.bool true) ∧ Below w.heap.size w w' := by
  have HA := Lib.hid (fun W => H [130, 1, 246] 4 (by omega) (by simp) W)
  rw [calive_a] at HA
  have q0 := fun W => ev_eql ⟨5, false, 0, ⟨#[]⟩, 2⟩ ⟨5, false, 0, ⟨#[]⟩, 2⟩ W
  have q1 := fun W => ev_eql ⟨2, false, 1, ⟨#[]⟩, 0⟩ ⟨2, false, 1, ⟨#[]⟩, 0⟩ W
  have q2 := fun W => ev_eql ⟨0, false, 0, ⟨#[]⟩, 0⟩ ⟨0, false, 0, ⟨#[]⟩, 0⟩ W
  rw [sameE_refl] at q0 q1 q2
  simp only [evV] at q0 q1 q2
  go_enter Try.func13, Try.ntmps13
  go_wp2_with fail
  refine (HA.out _).mono ?_
  rintro r w1 ⟨u1, rfl, hM1⟩
  have hW := hM1.2.1
  have HB := Lib.hid hM1.1
  clear hM1
  obtain ⟨g, off, cap, rfl, _, _, _, _, hc⟩ := hW.form (by decide)
  have c0 := (hc 0 (.int .i64 5) rfl).1
  have c1 := (hc 1 (.bool false) rfl).1
  have c2 := (hc 2 (.int .u64 0) rfl).1
  have c3 := (hc 3 (.string ⟨#[]⟩) rfl).1
  have c4 := (hc 4 (.int .i64 2) rfl).1
  have c5 := (hc 5 (.int .i64 2) rfl).1
  have c6 := (hc 6 (.bool false) rfl).1
  have c7 := (hc 7 (.int .u64 1) rfl).1
  have c8 := (hc 8 (.string ⟨#[]⟩) rfl).1
  have c9 := (hc 9 (.int .i64 0) rfl).1
  have c10 := (hc 10 (.int .i64 0) rfl).1
  have c11 := (hc 11 (.bool false) rfl).1
  have c12 := (hc 12 (.int .u64 0) rfl).1
  have c13 := (hc 13 (.string ⟨#[]⟩) rfl).1
  have c14 := (hc 14 (.int .i64 0) rfl).1
  have c15 := (hc 15 (.int .i64 7) rfl).1
  simp only [Nat.add_zero] at c0
  clear hc hW
  go_wp2
  go_ret
  exact ⟨rfl, HB.out⟩
theorem call_str (H : CinAll) (x : ByteArray) (D : Nat) (hD : 1 ≤ D ∧ D ≤ 16) (hz : x.size ≤ 100000000) (w : World) :
    Calls Try.prog 14 #[.string x, .int .i64 D] w fun r w' => ∃ u, r = .returned (.tuple #[u, .int .i64 (allCi D x.data.toList).2]) ∧ Made w w' u (allCi D x.data.toList).1.length (allCi D x.data.toList).1 := by
  have := H x.data.toList D hD (by simpa using hz) w
  simpa using this
end Go.Proofs.Ytgknpheefbfnlaa
