/-
  LAWS of chapter 15, over PinAll: PackinNumbers, a number in its form (4, below zero, 4, 5, below zero, 5).
-/
import Derived.Test.YtebnhelejebobaaG1a
/-
  LAWS of chapter 15, over PinAll: PackinNumbers, a number in its form (4, below zero, 4, 5, below zero, 5).
-/
namespace Go.Proofs.Ytebnhelejebobaa
open Go.RowKit
open Go.Lib
set_option maxRecDepth 100000 in
set_option maxHeartbeats 8000000 in
theorem pnum_4 (H : PinAll) (v : Nat) (F : Int) (w : World) (hv : v < 128) (hF : (wrap64 (F.tmod 8 + 8)).tmod 8 = 4) :
    Calls Try.prog 9 #[.int .i64 (v : Int), .int .i64 F] w fun r w' => r = .returned (.bool true) ∧ Below w.heap.size w w' := by
  have HA := Lib.hid (palive_any H w)
  have g1 : (128 ≤ (v : Int)) = False := by rw [eq_iff_iff, iff_false]; omega
  have g2 : ((v : Int) < -128) = False := by rw [eq_iff_iff, iff_false]; omega
  have g0 : ((v : Int) < 0) = False := by rw [eq_iff_iff, iff_false]; omega
  have hall : allPm 1 (UInt8.ofNat 208 :: bigB 1 v) = ([evIntC false v], 0) := sgnP_all 0 v v false (by omega) (by simpa using (show 2 * v < 256 ^ 1 by omega)) (by simp)
  have hJ := fun W => H (UInt8.ofNat 208 :: bigB 1 v) 1 (by omega) (by simp [bigB_length]) W
  rw [hall, num_join] at hJ
  simp only at hJ
  have HJ := Lib.hid hJ
  have hwt : IntKind.u64.wrap (v : Int) = ((v : Nat) : Int) := wrapI_u64 _ (by omega) (by omega)
  have hc : (208 : Int) = (((UInt8.ofNat 208).toNat : Nat) : Int) := by decide
  have hwc : IntKind.u8.wrap 208 = 208 := by decide
  have hwi : IntKind.i64.wrap 208 = 208 := by decide
  have HCV := Lib.hid (fun W => ho_new W (UInt8.ofNat 208) 208 hc)
  have HCD := Lib.hid (fun W => ho_drew W (UInt8.ofNat 208) 208 hc)
  have HO := Lib.hid (fun (W W2 : World) hb => ho_old (w := W) (w2 := W2) (UInt8.ofNat 208) 208 hc hb)
  have HBg := Lib.hid (fun W => rbig_n v 1 1 rfl (by omega) (by omega) (by omega) _ rfl W)
  have s2 : (⟨(bigB 1 v).toArray⟩ : ByteArray).size = 1 := by rw [ba_size, bigB_length]
  have s1 : (⟨#[UInt8.ofNat 208]⟩ : ByteArray).size = 1 := rfl
  have q := fun W => ev_eql (evIntC false v) (evIntC false v) W
  rw [sameE_refl] at q
  simp only [evV, evIntC] at q
  clear hJ hall hc hv
  generalize (⟨#[UInt8.ofNat 208]⟩ : ByteArray) = X at *
  generalize (⟨(bigB 1 v).toArray⟩ : ByteArray) = Y at *
  have hsum : (9223372036854775807 < X.size + Y.size) = False := by simp only [eq_iff_iff, iff_false]; omega
  clear s1 s2
  go_enter Try.func9, Try.ntmps9
  go_wp2_with fail
  refine HA.out.mono ?_
  rintro r w1 ⟨rfl, b1⟩
  have B1 := Lib.hid b1
  clear b1
  have hcv := fun W => HCV.out W
  have hcd := HCD.out w1
  go_wp2_with fail
  go_cut [8] (fun u8 wx => u8 = .string (X ++ Y) ∧ Hid (Below w.heap.size w wx))
  case first =>
    go_region_with ((go_at_call 23); (with_reducible refine (HBg.out _).mono ?_); (rintro e w5 ⟨rfl, b5⟩); (first | (have hcx := HO.out w1 w5 b5) | skip); (have B5 : Hid (Below w.heap.size w w5) := Lib.hid (by first | exact up_trans B1.out (ends0n b5) | exact up_trans B1.out (ends1 b5))))
    all_goals
      go_wp2_with fail
      go_meet
      exact ⟨by rfl, by first | exact B5 | exact Lib.hid (up_alloc B5.out _)⟩
  case rest =>
    obtain ⟨rfl, B2⟩ := hcut
    clear hcv hcd HCV HCD HO HBg
    go_wp2_with fail
    refine (HJ.out _).mono ?_
    rintro r w3 ⟨u, rfl, hM⟩
    have B3 := Lib.hid (up_trans B2.out hM.1)
    obtain ⟨g, off, cap, rfl, hg, l0, l1, l2, l3, l4⟩ := one_of hM
    clear hM
    go_wp2
    go_quiet (fail)
    go_wp2
    go_ret
    exact ⟨rfl, below_drewN (up_alloc B3.out _) _⟩
set_option maxRecDepth 100000 in
set_option maxHeartbeats 8000000 in
theorem pnum_4n (H : PinAll) (v : Nat) (F : Int) (w : World) (hv : v < 128) (hF : (wrap64 (F.tmod 8 + 8)).tmod 8 = 4) :
    Calls Try.prog 9 #[.int .i64 (-1 - (v : Int)), .int .i64 F] w fun r w' => r = .returned (.bool true) ∧ Below w.heap.size w w' := by
  have HA := Lib.hid (palive_any H w)
  have g1 : (128 ≤ (-1 - (v : Int))) = False := by rw [eq_iff_iff, iff_false]; omega
  have g2 : ((-1 - (v : Int)) < -128) = False := by rw [eq_iff_iff, iff_false]; omega
  have g0 : ((-1 - (v : Int)) < 0) = True := by rw [eq_iff_iff, iff_true]; omega
  have hall : allPm 1 (UInt8.ofNat 208 :: bigB 1 (18446744073709551615 - v)) = ([evIntC true v], 0) := sgnP_all 0 (18446744073709551615 - v) v true (by omega) (by simpa using (show 2 * v < 256 ^ 1 by omega)) (by simp)
  have hJ := fun W => H (UInt8.ofNat 208 :: bigB 1 (18446744073709551615 - v)) 1 (by omega) (by simp [bigB_length]) W
  rw [hall, num_join] at hJ
  simp only at hJ
  have HJ := Lib.hid hJ
  have hwt : IntKind.u64.wrap (-1 - (v : Int)) = (((18446744073709551615 - v) : Nat) : Int) := wrap_u64_neg v (by omega)
  have hwm : IntKind.i64.wrap (-1 - (-1 - (v : Int))) = (v : Int) := by simp only [IntKind.wrap_i64]; omega
  have hwm2 : IntKind.i64.wrap (v : Int) = (v : Int) := by simp only [IntKind.wrap_i64]; omega
  have hwm3 : -1 - (-1 - (v : Int)) = (v : Int) := by omega
  have hwu : IntKind.u64.wrap (v : Int) = (v : Int) := wrapI_u64 _ (by omega) (by omega)
  have hc : (208 : Int) = (((UInt8.ofNat 208).toNat : Nat) : Int) := by decide
  have hwc : IntKind.u8.wrap 208 = 208 := by decide
  have hwi : IntKind.i64.wrap 208 = 208 := by decide
  have HCV := Lib.hid (fun W => ho_new W (UInt8.ofNat 208) 208 hc)
  have HCD := Lib.hid (fun W => ho_drew W (UInt8.ofNat 208) 208 hc)
  have HO := Lib.hid (fun (W W2 : World) hb => ho_old (w := W) (w2 := W2) (UInt8.ofNat 208) 208 hc hb)
  have HBg := Lib.hid (fun W => rbig_n (18446744073709551615 - v) 1 1 rfl (by omega) (by omega) (by omega) _ rfl W)
  have s2 : (⟨(bigB 1 (18446744073709551615 - v)).toArray⟩ : ByteArray).size = 1 := by rw [ba_size, bigB_length]
  have s1 : (⟨#[UInt8.ofNat 208]⟩ : ByteArray).size = 1 := rfl
  have q := fun W => ev_eql (evIntC true v) (evIntC true v) W
  rw [sameE_refl] at q
  simp only [evV, evIntC] at q
  clear hJ hall hc hv
  generalize (⟨#[UInt8.ofNat 208]⟩ : ByteArray) = X at *
  generalize (⟨(bigB 1 (18446744073709551615 - v)).toArray⟩ : ByteArray) = Y at *
  have hsum : (9223372036854775807 < X.size + Y.size) = False := by simp only [eq_iff_iff, iff_false]; omega
  clear s1 s2
  generalize (18446744073709551615 - v) = T at *
  obtain ⟨Z, hZ⟩ : ∃ Z : Int, (-1 - (v : Int)) = Z := ⟨_, rfl⟩
  rw [hZ] at g0 g1 g2 hwm hwm3 hwt ⊢
  clear hZ
  go_enter Try.func9, Try.ntmps9
  go_wp2_with fail
  refine HA.out.mono ?_
  rintro r w1 ⟨rfl, b1⟩
  have B1 := Lib.hid b1
  clear b1
  have hcv := fun W => HCV.out W
  have hcd := HCD.out w1
  go_wp2_with fail
  go_cut [8] (fun u8 wx => u8 = .string (X ++ Y) ∧ Hid (Below w.heap.size w wx))
  case first =>
    go_region_with ((go_at_call 23); (with_reducible refine (HBg.out _).mono ?_); (rintro e w5 ⟨rfl, b5⟩); (first | (have hcx := HO.out w1 w5 b5) | skip); (have B5 : Hid (Below w.heap.size w w5) := Lib.hid (by first | exact up_trans B1.out (ends0n b5) | exact up_trans B1.out (ends1 b5))))
    all_goals
      go_wp2_with fail
      go_meet
      exact ⟨by rfl, by first | exact B5 | exact Lib.hid (up_alloc B5.out _)⟩
  case rest =>
    obtain ⟨rfl, B2⟩ := hcut
    clear hcv hcd HCV HCD HO HBg
    go_wp2_with fail
    refine (HJ.out _).mono ?_
    rintro r w3 ⟨u, rfl, hM⟩
    have B3 := Lib.hid (up_trans B2.out hM.1)
    obtain ⟨g, off, cap, rfl, hg, l0, l1, l2, l3, l4⟩ := one_of hM
    clear hM
    go_wp2
    go_quiet (fail)
    go_wp2
    go_ret
    exact ⟨rfl, below_drewN (up_alloc B3.out _) _⟩
set_option maxRecDepth 100000 in
set_option maxHeartbeats 8000000 in
theorem pnum_5 (H : PinAll) (v : Nat) (F : Int) (w : World) (hv : v < 32768) (hF : (wrap64 (F.tmod 8 + 8)).tmod 8 = 5) :
    Calls Try.prog 9 #[.int .i64 (v : Int), .int .i64 F] w fun r w' => r = .returned (.bool true) ∧ Below w.heap.size w w' := by
  have HA := Lib.hid (palive_any H w)
  have g1 : (32768 ≤ (v : Int)) = False := by rw [eq_iff_iff, iff_false]; omega
  have g2 : ((v : Int) < -32768) = False := by rw [eq_iff_iff, iff_false]; omega
  have g0 : ((v : Int) < 0) = False := by rw [eq_iff_iff, iff_false]; omega
  have hall : allPm 1 (UInt8.ofNat 209 :: bigB 2 v) = ([evIntC false v], 0) := sgnP_all 1 v v false (by omega) (by simpa using (show 2 * v < 256 ^ 2 by omega)) (by simp)
  have hJ := fun W => H (UInt8.ofNat 209 :: bigB 2 v) 1 (by omega) (by simp [bigB_length]) W
  rw [hall, num_join] at hJ
  simp only at hJ
  have HJ := Lib.hid hJ
  have hwt : IntKind.u64.wrap (v : Int) = ((v : Nat) : Int) := wrapI_u64 _ (by omega) (by omega)
  have hc : (209 : Int) = (((UInt8.ofNat 209).toNat : Nat) : Int) := by decide
  have hwc : IntKind.u8.wrap 209 = 209 := by decide
  have hwi : IntKind.i64.wrap 209 = 209 := by decide
  have HCV := Lib.hid (fun W => ho_new W (UInt8.ofNat 209) 209 hc)
  have HCD := Lib.hid (fun W => ho_drew W (UInt8.ofNat 209) 209 hc)
  have HO := Lib.hid (fun (W W2 : World) hb => ho_old (w := W) (w2 := W2) (UInt8.ofNat 209) 209 hc hb)
  have HBg := Lib.hid (fun W => rbig_n v 2 2 rfl (by omega) (by omega) (by omega) _ rfl W)
  have s2 : (⟨(bigB 2 v).toArray⟩ : ByteArray).size = 2 := by rw [ba_size, bigB_length]
  have s1 : (⟨#[UInt8.ofNat 209]⟩ : ByteArray).size = 1 := rfl
  have q := fun W => ev_eql (evIntC false v) (evIntC false v) W
  rw [sameE_refl] at q
  simp only [evV, evIntC] at q
  clear hJ hall hc hv
  generalize (⟨#[UInt8.ofNat 209]⟩ : ByteArray) = X at *
  generalize (⟨(bigB 2 v).toArray⟩ : ByteArray) = Y at *
  have hsum : (9223372036854775807 < X.size + Y.size) = False := by simp only [eq_iff_iff, iff_false]; omega
  clear s1 s2
  go_enter Try.func9, Try.ntmps9
  go_wp2_with fail
  refine HA.out.mono ?_
  rintro r w1 ⟨rfl, b1⟩
  have B1 := Lib.hid b1
  clear b1
  have hcv := fun W => HCV.out W
  have hcd := HCD.out w1
  go_wp2_with fail
  go_cut [8] (fun u8 wx => u8 = .string (X ++ Y) ∧ Hid (Below w.heap.size w wx))
  case first =>
    go_region_with ((go_at_call 23); (with_reducible refine (HBg.out _).mono ?_); (rintro e w5 ⟨rfl, b5⟩); (first | (have hcx := HO.out w1 w5 b5) | skip); (have B5 : Hid (Below w.heap.size w w5) := Lib.hid (by first | exact up_trans B1.out (ends0n b5) | exact up_trans B1.out (ends1 b5))))
    all_goals
      go_wp2_with fail
      go_meet
      exact ⟨by rfl, by first | exact B5 | exact Lib.hid (up_alloc B5.out _)⟩
  case rest =>
    obtain ⟨rfl, B2⟩ := hcut
    clear hcv hcd HCV HCD HO HBg
    go_wp2_with fail
    refine (HJ.out _).mono ?_
    rintro r w3 ⟨u, rfl, hM⟩
    have B3 := Lib.hid (up_trans B2.out hM.1)
    obtain ⟨g, off, cap, rfl, hg, l0, l1, l2, l3, l4⟩ := one_of hM
    clear hM
    go_wp2
    go_quiet (fail)
    go_wp2
    go_ret
    exact ⟨rfl, below_drewN (up_alloc B3.out _) _⟩
set_option maxRecDepth 100000 in
set_option maxHeartbeats 8000000 in
theorem pnum_5n (H : PinAll) (v : Nat) (F : Int) (w : World) (hv : v < 32768) (hF : (wrap64 (F.tmod 8 + 8)).tmod 8 = 5) :
    Calls Try.prog 9 #[.int .i64 (-1 - (v : Int)), .int .i64 F] w fun r w' => r = .returned (.bool true) ∧ Below w.heap.size w w' := by
  have HA := Lib.hid (palive_any H w)
  have g1 : (32768 ≤ (-1 - (v : Int))) = False := by rw [eq_iff_iff, iff_false]; omega
  have g2 : ((-1 - (v : Int)) < -32768) = False := by rw [eq_iff_iff, iff_false]; omega
  have g0 : ((-1 - (v : Int)) < 0) = True := by rw [eq_iff_iff, iff_true]; omega
  have hall : allPm 1 (UInt8.ofNat 209 :: bigB 2 (18446744073709551615 - v)) = ([evIntC true v], 0) := sgnP_all 1 (18446744073709551615 - v) v true (by omega) (by simpa using (show 2 * v < 256 ^ 2 by omega)) (by simp)
  have hJ := fun W => H (UInt8.ofNat 209 :: bigB 2 (18446744073709551615 - v)) 1 (by omega) (by simp [bigB_length]) W
  rw [hall, num_join] at hJ
  simp only at hJ
  have HJ := Lib.hid hJ
  have hwt : IntKind.u64.wrap (-1 - (v : Int)) = (((18446744073709551615 - v) : Nat) : Int) := wrap_u64_neg v (by omega)
  have hwm : IntKind.i64.wrap (-1 - (-1 - (v : Int))) = (v : Int) := by simp only [IntKind.wrap_i64]; omega
  have hwm2 : IntKind.i64.wrap (v : Int) = (v : Int) := by simp only [IntKind.wrap_i64]; omega
  have hwm3 : -1 - (-1 - (v : Int)) = (v : Int) := by omega
  have hwu : IntKind.u64.wrap (v : Int) = (v : Int) := wrapI_u64 _ (by omega) (by omega)
  have hc : (209 : Int) = (((UInt8.ofNat 209).toNat : Nat) : Int) := by decide
  have hwc : IntKind.u8.wrap 209 = 209 := by decide
  have hwi : IntKind.i64.wrap 209 = 209 := by decide
  have HCV := Lib.hid (fun W => ho_new W (UInt8.ofNat 209) 209 hc)
  have HCD := Lib.hid (fun W => ho_drew W (UInt8.ofNat 209) 209 hc)
  have HO := Lib.hid (fun (W W2 : World) hb => ho_old (w := W) (w2 := W2) (UInt8.ofNat 209) 209 hc hb)
  have HBg := Lib.hid (fun W => rbig_n (18446744073709551615 - v) 2 2 rfl (by omega) (by omega) (by omega) _ rfl W)
  have s2 : (⟨(bigB 2 (18446744073709551615 - v)).toArray⟩ : ByteArray).size = 2 := by rw [ba_size, bigB_length]
  have s1 : (⟨#[UInt8.ofNat 209]⟩ : ByteArray).size = 1 := rfl
  have q := fun W => ev_eql (evIntC true v) (evIntC true v) W
  rw [sameE_refl] at q
  simp only [evV, evIntC] at q
  clear hJ hall hc hv
  generalize (⟨#[UInt8.ofNat 209]⟩ : ByteArray) = X at *
  generalize (⟨(bigB 2 (18446744073709551615 - v)).toArray⟩ : ByteArray) = Y at *
  have hsum : (9223372036854775807 < X.size + Y.size) = False := by simp only [eq_iff_iff, iff_false]; omega
  clear s1 s2
  generalize (18446744073709551615 - v) = T at *
  obtain ⟨Z, hZ⟩ : ∃ Z : Int, (-1 - (v : Int)) = Z := ⟨_, rfl⟩
  rw [hZ] at g0 g1 g2 hwm hwm3 hwt ⊢
  clear hZ
  go_enter Try.func9, Try.ntmps9
  go_wp2_with fail
  refine HA.out.mono ?_
  rintro r w1 ⟨rfl, b1⟩
  have B1 := Lib.hid b1
  clear b1
  have hcv := fun W => HCV.out W
  have hcd := HCD.out w1
  go_wp2_with fail
  go_cut [8] (fun u8 wx => u8 = .string (X ++ Y) ∧ Hid (Below w.heap.size w wx))
  case first =>
    go_region_with ((go_at_call 23); (with_reducible refine (HBg.out _).mono ?_); (rintro e w5 ⟨rfl, b5⟩); (first | (have hcx := HO.out w1 w5 b5) | skip); (have B5 : Hid (Below w.heap.size w w5) := Lib.hid (by first | exact up_trans B1.out (ends0n b5) | exact up_trans B1.out (ends1 b5))))
    all_goals
      go_wp2_with fail
      go_meet
      exact ⟨by rfl, by first | exact B5 | exact Lib.hid (up_alloc B5.out _)⟩
  case rest =>
    obtain ⟨rfl, B2⟩ := hcut
    clear hcv hcd HCV HCD HO HBg
    go_wp2_with fail
    refine (HJ.out _).mono ?_
    rintro r w3 ⟨u, rfl, hM⟩
    have B3 := Lib.hid (up_trans B2.out hM.1)
    obtain ⟨g, off, cap, rfl, hg, l0, l1, l2, l3, l4⟩ := one_of hM
    clear hM
    go_wp2
    go_quiet (fail)
    go_wp2
    go_ret
    exact ⟨rfl, below_drewN (up_alloc B3.out _) _⟩
end Go.Proofs.Ytebnhelejebobaa
