/-
  LAWS of chapter 15, over PinAll: PackinNumbers, a number in its form (6, below zero, 6, 7, below zero, 7).
-/
import Derived.Test.YtebnhelejebobaaG1a
/-
  LAWS of chapter 15, over PinAll: PackinNumbers, a number in its form (6, below zero, 6, 7, below zero, 7).
-/
namespace Go.Proofs.Ytebnhelejebobaa
open Go.RowKit
open Go.Lib
set_option maxRecDepth 100000 in
set_option maxHeartbeats 8000000 in
theorem pnum_6 (H : PinAll) (v : Nat) (F : Int) (w : World) (hv : v < 2147483648) (hF : (wrap64 (F.tmod 8 + 8)).tmod 8 = 6) :
    Calls Try.prog 9 #[.int .i64 (v : Int), .int .i64 F] w fun r w' => r = .returned (.bool true) ∧ Below w.heap.size w w' := by
  have HA := Lib.hid (palive_any H w)
  have g1 : (2147483648 ≤ (v : Int)) = False := by rw [eq_iff_iff, iff_false]; omega
  have g2 : ((v : Int) < -2147483648) = False := by rw [eq_iff_iff, iff_false]; omega
  have g0 : ((v : Int) < 0) = False := by rw [eq_iff_iff, iff_false]; omega
  have hall : allPm 1 (UInt8.ofNat 210 :: bigB 4 v) = ([evIntC false v], 0) := sgnP_all 2 v v false (by omega) (by simpa using (show 2 * v < 256 ^ 4 by omega)) (by simp)
  have hJ := fun W => H (UInt8.ofNat 210 :: bigB 4 v) 1 (by omega) (by simp [bigB_length]) W
  rw [hall, num_join] at hJ
  simp only at hJ
  have HJ := Lib.hid hJ
  have hwt : IntKind.u64.wrap (v : Int) = ((v : Nat) : Int) := wrapI_u64 _ (by omega) (by omega)
  have hc : (210 : Int) = (((UInt8.ofNat 210).toNat : Nat) : Int) := by decide
  have hwc : IntKind.u8.wrap 210 = 210 := by decide
  have hwi : IntKind.i64.wrap 210 = 210 := by decide
  have HCV := Lib.hid (fun W => ho_new W (UInt8.ofNat 210) 210 hc)
  have HCD := Lib.hid (fun W => ho_drew W (UInt8.ofNat 210) 210 hc)
  have HO := Lib.hid (fun (W W2 : World) hb => ho_old (w := W) (w2 := W2) (UInt8.ofNat 210) 210 hc hb)
  have HBg := Lib.hid (fun W => rbig_n v 4 4 rfl (by omega) (by omega) (by omega) _ rfl W)
  have s2 : (⟨(bigB 4 v).toArray⟩ : ByteArray).size = 4 := by rw [ba_size, bigB_length]
  have s1 : (⟨#[UInt8.ofNat 210]⟩ : ByteArray).size = 1 := rfl
  have q := fun W => ev_eql (evIntC false v) (evIntC false v) W
  rw [sameE_refl] at q
  simp only [evV, evIntC] at q
  clear hJ hall hc hv
  generalize (⟨#[UInt8.ofNat 210]⟩ : ByteArray) = X at *
  generalize (⟨(bigB 4 v).toArray⟩ : ByteArray) = Y at *
  have hsum : (9223372036854775807 < X.size + Y.size) = False := by simp only [eq_iff_iff, iff_false]; omega
  clear s1 s2
  go_enter Try.func9, Try.ntmps9
  go_wp2_with fail
  refine HA.out.mono ?_
  rintro r w1 ⟨rfl, b1⟩
  have B1 := Lib.hid b1
  clear b1
  have hcv := fun W => HCV.out W
  have hcd := HCD.out w1
  go_wp2_with fail
  go_cut [8] (fun u8 wx => u8 = .string (X ++ Y) ∧ Hid (Below w.heap.size w wx))
  case first =>
    go_region_with ((go_at_call 23); (with_reducible refine (HBg.out _).mono ?_); (rintro e w5 ⟨rfl, b5⟩); (first | (have hcx := HO.out w1 w5 b5) | skip); (have B5 : Hid (Below w.heap.size w w5) := Lib.hid (by first | exact up_trans B1.out (ends0n b5) | exact up_trans B1.out (ends1 b5))))
    all_goals
      go_wp2_with fail
      go_meet
      exact ⟨by rfl, by first | exact B5 | exact Lib.hid (up_alloc B5.out _)⟩
  case rest =>
    obtain ⟨rfl, B2⟩ := hcut
    clear hcv hcd HCV HCD HO HBg
    go_wp2_with fail
    refine (HJ.out _).mono ?_
    rintro r w3 ⟨u, rfl, hM⟩
    have B3 := Lib.hid (up_trans B2.out hM.1)
    obtain ⟨g, off, cap, rfl, hg, l0, l1, l2, l3, l4⟩ := one_of hM
    clear hM
    go_wp2
    go_quiet (fail)
    go_wp2
    go_ret
    exact ⟨rfl, below_drewN (up_alloc B3.out _) _⟩
set_option maxRecDepth 100000 in
set_option maxHeartbeats 8000000 in
theorem pnum_6n (H : PinAll) (v : Nat) (F : Int) (w : World) (hv : v < 2147483648) (hF : (wrap64 (F.tmod 8 + 8)).tmod 8 = 6) :
    Calls Try.prog 9 #[.int .i64 (-1 - (v : Int)), .int .i64 F] w fun r w' => r = .returned (.bool true) ∧ Below w.heap.size w w' := by
  have HA := Lib.hid (palive_any H w)
  have g1 : (2147483648 ≤ (-1 - (v : Int))) = False := by rw [eq_iff_iff, iff_false]; omega
  have g2 : ((-1 - (v : Int)) < -2147483648) = False := by rw [eq_iff_iff, iff_false]; omega
  have g0 : ((-1 - (v : Int)) < 0) = True := by rw [eq_iff_iff, iff_true]; omega
  have hall : allPm 1 (UInt8.ofNat 210 :: bigB 4 (18446744073709551615 - v)) = ([evIntC true v], 0) := sgnP_all 2 (18446744073709551615 - v) v true (by omega) (by simpa using (show 2 * v < 256 ^ 4 by omega)) (by simp)
  have hJ := fun W => H (UInt8.ofNat 210 :: bigB 4 (18446744073709551615 - v)) 1 (by omega) (by simp [bigB_length]) W
  rw [hall, num_join] at hJ
  simp only at hJ
  have HJ := Lib.hid hJ
  have hwt : IntKind.u64.wrap (-1 - (v : Int)) = (((18446744073709551615 - v) : Nat) : Int) := wrap_u64_neg v (by omega)
  have hwm : IntKind.i64.wrap (-1 - (-1 - (v : Int))) = (v : Int) := by simp only [IntKind.wrap_i64]; omega
  have hwm2 : IntKind.i64.wrap (v : Int) = (v : Int) := by simp only [IntKind.wrap_i64]; omega
  have hwm3 : -1 - (-1 - (v : Int)) = (v : Int) := by omega
  have hwu : IntKind.u64.wrap (v : Int) = (v : Int) := wrapI_u64 _ (by omega) (by omega)
  have hc : (210 : Int) = (((UInt8.ofNat 210).toNat : Nat) : Int) := by decide
  have hwc : IntKind.u8.wrap 210 = 210 := by decide
  have hwi : IntKind.i64.wrap 210 = 210 := by decide
  have HCV := Lib.hid (fun W => ho_new W (UInt8.ofNat 210) 210 hc)
  have HCD := Lib.hid (fun W => ho_drew W (UInt8.ofNat 210) 210 hc)
  have HO := Lib.hid (fun (W W2 : World) hb => ho_old (w := W) (w2 := W2) (UInt8.ofNat 210) 210 hc hb)
  have HBg := Lib.hid (fun W => rbig_n (18446744073709551615 - v) 4 4 rfl (by omega) (by omega) (by omega) _ rfl W)
  have s2 : (⟨(bigB 4 (18446744073709551615 - v)).toArray⟩ : ByteArray).size = 4 := by rw [ba_size, bigB_length]
  have s1 : (⟨#[UInt8.ofNat 210]⟩ : ByteArray).size = 1 := rfl
  have q := fun W => ev_eql (evIntC true v) (evIntC true v) W
  rw [sameE_refl] at q
  simp only [evV, evIntC] at q
  clear hJ hall hc hv
  generalize (⟨#[UInt8.ofNat 210]⟩ : ByteArray) = X at *
  generalize (⟨(bigB 4 (18446744073709551615 - v)).toArray⟩ : ByteArray) = Y at *
  have hsum : (9223372036854775807 < X.size + Y.size) = False := by simp only [eq_iff_iff, iff_false]; omega
  clear s1 s2
  generalize (18446744073709551615 - v) = T at *
  obtain ⟨Z, hZ⟩ : ∃ Z : Int, (-1 - (v : Int)) = Z := ⟨_, rfl⟩
  rw [hZ] at g0 g1 g2 hwm hwm3 hwt ⊢
  clear hZ
  go_enter Try.func9, Try.ntmps9
  go_wp2_with fail
  refine HA.out.mono ?_
  rintro r w1 ⟨rfl, b1⟩
  have B1 := Lib.hid b1
  clear b1
  have hcv := fun W => HCV.out W
  have hcd := HCD.out w1
  go_wp2_with fail
  go_cut [8] (fun u8 wx => u8 = .string (X ++ Y) ∧ Hid (Below w.heap.size w wx))
  case first =>
    go_region_with ((go_at_call 23); (with_reducible refine (HBg.out _).mono ?_); (rintro e w5 ⟨rfl, b5⟩); (first | (have hcx := HO.out w1 w5 b5) | skip); (have B5 : Hid (Below w.heap.size w w5) := Lib.hid (by first | exact up_trans B1.out (ends0n b5) | exact up_trans B1.out (ends1 b5))))
    all_goals
      go_wp2_with fail
      go_meet
      exact ⟨by rfl, by first | exact B5 | exact Lib.hid (up_alloc B5.out _)⟩
  case rest =>
    obtain ⟨rfl, B2⟩ := hcut
    clear hcv hcd HCV HCD HO HBg
    go_wp2_with fail
    refine (HJ.out _).mono ?_
    rintro r w3 ⟨u, rfl, hM⟩
    have B3 := Lib.hid (up_trans B2.out hM.1)
    obtain ⟨g, off, cap, rfl, hg, l0, l1, l2, l3, l4⟩ := one_of hM
    clear hM
    go_wp2
    go_quiet (fail)
    go_wp2
    go_ret
    exact ⟨rfl, below_drewN (up_alloc B3.out _) _⟩
set_option maxRecDepth 100000 in
set_option maxHeartbeats 8000000 in
theorem pnum_7 (H : PinAll) (v : Nat) (F : Int) (w : World) (hv : v < 9223372036854775808) (hF : (wrap64 (F.tmod 8 + 8)).tmod 8 = 7) :
    Calls Try.prog 9 #[.int .i64 (v : Int), .int .i64 F] w fun r w' => r = .returned (.bool true) ∧ Below w.heap.size w w' := by
  have HA := Lib.hid (palive_any H w)
  have g0 : ((v : Int) < 0) = False := by rw [eq_iff_iff, iff_false]; omega
  have hall : allPm 1 (UInt8.ofNat 211 :: bigB 8 v) = ([evIntC false v], 0) := sgnP_all 3 v v false (by omega) (by simpa using (show 2 * v < 256 ^ 8 by omega)) (by simp)
  have hJ := fun W => H (UInt8.ofNat 211 :: bigB 8 v) 1 (by omega) (by simp [bigB_length]) W
  rw [hall, num_join] at hJ
  simp only at hJ
  have HJ := Lib.hid hJ
  have hwt : IntKind.u64.wrap (v : Int) = ((v : Nat) : Int) := wrapI_u64 _ (by omega) (by omega)
  have hc : (211 : Int) = (((UInt8.ofNat 211).toNat : Nat) : Int) := by decide
  have hwc : IntKind.u8.wrap 211 = 211 := by decide
  have hwi : IntKind.i64.wrap 211 = 211 := by decide
  have HCV := Lib.hid (fun W => ho_new W (UInt8.ofNat 211) 211 hc)
  have HCD := Lib.hid (fun W => ho_drew W (UInt8.ofNat 211) 211 hc)
  have HO := Lib.hid (fun (W W2 : World) hb => ho_old (w := W) (w2 := W2) (UInt8.ofNat 211) 211 hc hb)
  have HBg := Lib.hid (fun W => rbig_n v 8 8 rfl (by omega) (by omega) (by omega) _ rfl W)
  have s2 : (⟨(bigB 8 v).toArray⟩ : ByteArray).size = 8 := by rw [ba_size, bigB_length]
  have s1 : (⟨#[UInt8.ofNat 211]⟩ : ByteArray).size = 1 := rfl
  have q := fun W => ev_eql (evIntC false v) (evIntC false v) W
  rw [sameE_refl] at q
  simp only [evV, evIntC] at q
  clear hJ hall hc hv
  generalize (⟨#[UInt8.ofNat 211]⟩ : ByteArray) = X at *
  generalize (⟨(bigB 8 v).toArray⟩ : ByteArray) = Y at *
  have hsum : (9223372036854775807 < X.size + Y.size) = False := by simp only [eq_iff_iff, iff_false]; omega
  clear s1 s2
  go_enter Try.func9, Try.ntmps9
  go_wp2_with fail
  refine HA.out.mono ?_
  rintro r w1 ⟨rfl, b1⟩
  have B1 := Lib.hid b1
  clear b1
  have hcv := fun W => HCV.out W
  have hcd := HCD.out w1
  go_wp2_with fail
  go_cut [8] (fun u8 wx => u8 = .string (X ++ Y) ∧ Hid (Below w.heap.size w wx))
  case first =>
    go_region_with ((go_at_call 23); (with_reducible refine (HBg.out _).mono ?_); (rintro e w5 ⟨rfl, b5⟩); (first | (have hcx := HO.out w1 w5 b5) | skip); (have B5 : Hid (Below w.heap.size w w5) := Lib.hid (by first | exact up_trans B1.out (ends0n b5) | exact up_trans B1.out (ends1 b5))))
    all_goals
      go_wp2_with fail
      go_meet
      exact ⟨by rfl, by first | exact B5 | exact Lib.hid (up_alloc B5.out _)⟩
  case rest =>
    obtain ⟨rfl, B2⟩ := hcut
    clear hcv hcd HCV HCD HO HBg
    go_wp2_with fail
    refine (HJ.out _).mono ?_
    rintro r w3 ⟨u, rfl, hM⟩
    have B3 := Lib.hid (up_trans B2.out hM.1)
    obtain ⟨g, off, cap, rfl, hg, l0, l1, l2, l3, l4⟩ := one_of hM
    clear hM
    go_wp2
    go_quiet (fail)
    go_wp2
    go_ret
    exact ⟨rfl, below_drewN (up_alloc B3.out _) _⟩
set_option maxRecDepth 100000 in
set_option maxHeartbeats 8000000 in
theorem pnum_7n (H : PinAll) (v : Nat) (F : Int) (w : World) (hv : v < 9223372036854775808) (hF : (wrap64 (F.tmod 8 + 8)).tmod 8 = 7) :
    Calls Try.prog 9 #[.int .i64 (-1 - (v : Int)), .int .i64 F] w fun r w' => r = .returned (.bool true) ∧ Below w.heap.size w w' := by
  have HA := Lib.hid (palive_any H w)
  have g0 : ((-1 - (v : Int)) < 0) = True := by rw [eq_iff_iff, iff_true]; omega
  have hall : allPm 1 (UInt8.ofNat 211 :: bigB 8 (18446744073709551615 - v)) = ([evIntC true v], 0) := sgnP_all 3 (18446744073709551615 - v) v true (by omega) (by simpa using (show 2 * v < 256 ^ 8 by omega)) (by simp)
  have hJ := fun W => H (UInt8.ofNat 211 :: bigB 8 (18446744073709551615 - v)) 1 (by omega) (by simp [bigB_length]) W
  rw [hall, num_join] at hJ
  simp only at hJ
  have HJ := Lib.hid hJ
  have hwt : IntKind.u64.wrap (-1 - (v : Int)) = (((18446744073709551615 - v) : Nat) : Int) := wrap_u64_neg v (by omega)
  have hwm : IntKind.i64.wrap (-1 - (-1 - (v : Int))) = (v : Int) := by simp only [IntKind.wrap_i64]; omega
  have hwm2 : IntKind.i64.wrap (v : Int) = (v : Int) := by simp only [IntKind.wrap_i64]; omega
  have hwm3 : -1 - (-1 - (v : Int)) = (v : Int) := by omega
  have hwu : IntKind.u64.wrap (v : Int) = (v : Int) := wrapI_u64 _ (by omega) (by omega)
  have hc : (211 : Int) = (((UInt8.ofNat 211).toNat : Nat) : Int) := by decide
  have hwc : IntKind.u8.wrap 211 = 211 := by decide
  have hwi : IntKind.i64.wrap 211 = 211 := by decide
  have HCV := Lib.hid (fun W => ho_new W (UInt8.ofNat 211) 211 hc)
  have HCD := Lib.hid (fun W => ho_drew W (UInt8.ofNat 211) 211 hc)
  have HO := Lib.hid (fun (W W2 : World) hb => ho_old (w := W) (w2 := W2) (UInt8.ofNat 211) 211 hc hb)
  have HBg := Lib.hid (fun W => rbig_n (18446744073709551615 - v) 8 8 rfl (by omega) (by omega) (by omega) _ rfl W)
  have s2 : (⟨(bigB 8 (18446744073709551615 - v)).toArray⟩ : ByteArray).size = 8 := by rw [ba_size, bigB_length]
  have s1 : (⟨#[UInt8.ofNat 211]⟩ : ByteArray).size = 1 := rfl
  have q := fun W => ev_eql (evIntC true v) (evIntC true v) W
  rw [sameE_refl] at q
  simp only [evV, evIntC] at q
  clear hJ hall hc hv
  generalize (⟨#[UInt8.ofNat 211]⟩ : ByteArray) = X at *
  generalize (⟨(bigB 8 (18446744073709551615 - v)).toArray⟩ : ByteArray) = Y at *
  have hsum : (9223372036854775807 < X.size + Y.size) = False := by simp only [eq_iff_iff, iff_false]; omega
  clear s1 s2
  generalize (18446744073709551615 - v) = T at *
  obtain ⟨Z, hZ⟩ : ∃ Z : Int, (-1 - (v : Int)) = Z := ⟨_, rfl⟩
  rw [hZ] at g0 hwm hwm3 hwt ⊢
  clear hZ
  go_enter Try.func9, Try.ntmps9
  go_wp2_with fail
  refine HA.out.mono ?_
  rintro r w1 ⟨rfl, b1⟩
  have B1 := Lib.hid b1
  clear b1
  have hcv := fun W => HCV.out W
  have hcd := HCD.out w1
  go_wp2_with fail
  go_cut [8] (fun u8 wx => u8 = .string (X ++ Y) ∧ Hid (Below w.heap.size w wx))
  case first =>
    go_region_with ((go_at_call 23); (with_reducible refine (HBg.out _).mono ?_); (rintro e w5 ⟨rfl, b5⟩); (first | (have hcx := HO.out w1 w5 b5) | skip); (have B5 : Hid (Below w.heap.size w w5) := Lib.hid (by first | exact up_trans B1.out (ends0n b5) | exact up_trans B1.out (ends1 b5))))
    all_goals
      go_wp2_with fail
      go_meet
      exact ⟨by rfl, by first | exact B5 | exact Lib.hid (up_alloc B5.out _)⟩
  case rest =>
    obtain ⟨rfl, B2⟩ := hcut
    clear hcv hcd HCV HCD HO HBg
    go_wp2_with fail
    refine (HJ.out _).mono ?_
    rintro r w3 ⟨u, rfl, hM⟩
    have B3 := Lib.hid (up_trans B2.out hM.1)
    obtain ⟨g, off, cap, rfl, hg, l0, l1, l2, l3, l4⟩ := one_of hM
    clear hM
    go_wp2
    go_quiet (fail)
    go_wp2
    go_ret
    exact ⟨rfl, below_drewN (up_alloc B3.out _) _⟩
end Go.Proofs.Ytebnhelejebobaa
