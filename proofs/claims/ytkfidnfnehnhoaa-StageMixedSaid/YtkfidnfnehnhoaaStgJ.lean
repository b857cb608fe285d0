/-
  LAWS of chapter 17: the first call (alive); StageNone.
-/
import Derived.Test.YtkfidnfnehnhoaaStgI
import Derived.Test.YtkfidnfnehnhoaaEvEq
namespace Go.Proofs.Ytkfidnfnehnhoaa
open Go.RowKit
open Go.Lib
theorem galive_a : stepG 9 gs0 ⟨5, false, 0, ⟨#[]⟩, -1⟩ = ⟨.live 1 [⟨5, false, 0, ⟨#[]⟩, -1⟩] [⟨false, -1, 0, 0⟩], [], 0⟩ := by kernel_rfl
theorem galive_b : stepG 9 (.live 1 [⟨5, false, 0, ⟨#[]⟩, -1⟩] [⟨false, -1, 0, 0⟩]) ⟨0, false, 0, ⟨#[]⟩, 0⟩ = ⟨.live 2 [⟨5, false, 0, ⟨#[]⟩, -1⟩, ⟨0, false, 0, ⟨#[]⟩, 0⟩] [⟨false, -1, 0, 1⟩], [], 0⟩ := by kernel_rfl
theorem galive_c : stepG 9 (.live 2 [⟨5, false, 0, ⟨#[]⟩, -1⟩, ⟨0, false, 0, ⟨#[]⟩, 0⟩] [⟨false, -1, 0, 1⟩]) ⟨7, false, 0, ⟨#[]⟩, 0⟩ = ⟨gs0, [⟨5, false, 0, ⟨#[]⟩, 1⟩, ⟨0, false, 0, ⟨#[]⟩, 0⟩, ⟨7, false, 0, ⟨#[]⟩, 0⟩], 0⟩ := by kernel_rfl
theorem valE_lit5 (c : Int) : valE ⟨5, false, 0, ⟨#[]⟩, c⟩ = .iface 50 (.agg #[.bool false, .int .i64 c]) := rfl
theorem valE_lit0 : valE ⟨0, false, 0, ⟨#[]⟩, 0⟩ = .nilIface := rfl
theorem valE_lit7 : valE ⟨7, false, 0, ⟨#[]⟩, 0⟩ = .iface 52 (.agg #[]) := rfl
theorem size_lit (k : Int) (c : Int) : sizG ⟨k, false, 0, ⟨#[]⟩, c⟩ = 1 := by
  unfold sizG tidyE
  repeat' split
  all_goals rfl
set_option maxRecDepth 100000 in
set_option maxHeartbeats 4000000 in
theorem galive_any (w : World) : Calls Try.prog 9 #[] w fun e w' => e = .returned (.bool true) ∧ Below w.heap.size w w' := by
  have q0 := fun W => ev_eql ⟨5, false, 0, ⟨#[]⟩, 1⟩ ⟨5, false, 0, ⟨#[]⟩, 1⟩ W
  rw [sameE_refl] at q0
  simp only [evV] at q0
  have HN := Lib.hid (gk_new 9 w)
  rw [show (min (max (9 : Int) 0) 2000).toNat = 9 by decide] at HN
  go_enter Try.func9, Try.ntmps9
  go_wp2_with fail
  refine HN.out.mono ?_
  rintro r w1 ⟨b, rfl, h1⟩
  have H1 := Lib.hid (h1.step ⟨5, false, 0, ⟨#[]⟩, -1⟩ (by decide) (by rw [size_lit]; decide))
  rw [galive_a, valE_lit5] at H1
  clear h1 HN
  go_wp2_with fail
  refine H1.out.mono ?_
  rintro r w2 ⟨⟨v2, rfl, hv2⟩, h2, _⟩
  obtain ⟨a2, c2, rfl⟩ := hv2.form
  have H2 := Lib.hid (h2.step ⟨0, false, 0, ⟨#[]⟩, 0⟩ (by decide) (by rw [size_lit]; decide))
  rw [galive_b, valE_lit0] at H2
  clear h2 H1 hv2
  go_wp2_with fail
  refine H2.out.mono ?_
  rintro r w3 ⟨⟨v3, rfl, hv3⟩, h3, _⟩
  obtain ⟨a3, c3, rfl⟩ := hv3.form
  have H3 := Lib.hid h3.held
  have HS := Lib.hid h3
  clear h3 H2 hv3
  go_wp2_with fail
  refine H3.out.mono ?_
  rintro r w4 ⟨rfl, rfl⟩
  have H4 := Lib.hid (HS.out.step ⟨7, false, 0, ⟨#[]⟩, 0⟩ (by decide) (by rw [size_lit]; decide))
  rw [galive_c, valE_lit7] at H4
  clear HS H3
  go_wp2_with fail
  refine H4.out.mono ?_
  rintro r w5 ⟨⟨v5, rfl, hv5⟩, h5, _⟩
  have HP := Lib.hid (gplain_at hv5 (by decide) (by decide))
  have H5 := Lib.hid h5
  obtain ⟨a5, c5, rfl⟩ := hv5.form
  clear h5 H4 hv5
  go_wp2_with fail
  refine HP.out.mono ?_
  rintro r w6 ⟨u6, rfl, hM⟩
  have hW := hM.2.1
  have H6 := Lib.hid (H5.out.go hM.1)
  clear hM HP H5
  obtain ⟨g, off, cap, rfl, _, _, _, _, hc⟩ := hW.form (by decide)
  have z0 := (hc 0 (.int .i64 5) rfl).1
  have z1 := (hc 1 (.bool false) rfl).1
  have z2 := (hc 2 (.int .u64 0) rfl).1
  have z3 := (hc 3 (.string ⟨#[]⟩) rfl).1
  have z4 := (hc 4 (.int .i64 1) rfl).1
  simp only [Nat.add_zero] at z0
  have HE := Lib.hid H6.out.empty
  clear hc hW
  go_wp2_with fail
  refine HE.out.mono ?_
  rintro r w7 ⟨rfl, rfl⟩
  go_wp2
  go_ret
  exact ⟨rfl, H6.out.bel⟩
end Go.Proofs.Ytkfidnfnehnhoaa
