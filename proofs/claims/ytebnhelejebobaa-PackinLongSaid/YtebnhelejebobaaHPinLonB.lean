/-
  PackinLong, one form.
-/
import Derived.Test.YtebnhelejebobaaG9a
/-
  LAWS of chapter 15, over PinAll: PackinLong, form 1.
-/
namespace Go.Proofs.Ytebnhelejebobaa
open Go.RowKit
open Go.Lib
set_option maxRecDepth 100000 in
set_option maxHeartbeats 16000000 in
theorem plong_1 (H : PinAll) (s : ByteArray) (N : Nat) (F : Int) (w : World) (hs : s.size ≤ 100) (hv : validD s.data.toList = true) (hN : N ≤ 15) (hF : (wrap64 (F.tmod 3 + 3)).tmod 3 = 1) :
    Calls Try.prog 10 #[.string s, .int .i64 (N : Int), .int .i64 F] w fun r w' => r = .returned (.bool true) ∧ Below w.heap.size w w' := by
  have t1 : ((100 : Int) < (s.size : Int)) = False := by simp; omega
  have t2 : ((N : Int) < 0) = False := by simp
  have t3 : ((15 : Int) < (N : Int)) = False := by simp; omega
  have HWP : Hid (wrap64 ((N : Int) + 2) = (N : Int) + 2) := Lib.hid (by unfold wrap64; omega)
  have HJ2' : Hid (((N + 1 + 1 : Nat) : Int) = (N : Int) + 2) := Lib.hid (by omega)
  have HA := Lib.hid (fun W => palive_any H W)
  have hVV := refvalid_any s w (by omega)
  rw [hv] at hVV
  have HV := Lib.hid hVV
  have hJ1 := fun W => H (UInt8.ofNat 218 :: bigB 2 s.size ++ s.data.toList) 1 (by omega) (by simp [bigB_length]; omega) W
  rw [show allPm 1 (UInt8.ofNat 218 :: bigB 2 s.size ++ s.data.toList) = _ from long_tx true 1 s (by omega) hs hv, long_join] at hJ1
  have hJ2 := fun W => H (UInt8.ofNat 197 :: bigB 2 s.size ++ s.data.toList) 1 (by omega) (by simp [bigB_length]; omega) W
  rw [show allPm 1 (UInt8.ofNat 197 :: bigB 2 s.size ++ s.data.toList) = _ from long_tx false 1 s (by omega) hs hv, long_join] at hJ2
  have hJ3 := fun W => H (UInt8.ofNat 221 :: bigB 4 N ++ List.replicate N 192) 1 (by omega) (by simp [bigB_length]; omega) W
  rw [show allPm 1 (UInt8.ofNat 221 :: bigB 4 N ++ List.replicate N 192) = _ from longP_list 1 N (by omega) (by omega), lonL_all 221 4 N] at hJ3
  have hln : (evBegC false N :: List.replicate N evNull ++ [evEnd]).length = N + 1 + 1 := by simp
  simp only [hln] at hJ3
  simp only [if_true, Bool.false_eq_true, if_false, List.length_singleton] at hJ1 hJ2
  have HJ1 := Lib.hid hJ1
  have HJ2 := Lib.hid hJ2
  have HJ3 := Lib.hid hJ3
  have hc1 : (218 : Int) = (((UInt8.ofNat 218).toNat : Nat) : Int) := by decide
  have hwc1 : IntKind.u8.wrap 218 = 218 := by decide
  have hwi1 : IntKind.i64.wrap 218 = 218 := by decide
  have HCV1 := Lib.hid (fun W => ho_new W (UInt8.ofNat 218) 218 hc1)
  have HCD1 := Lib.hid (fun W => ho_drew W (UInt8.ofNat 218) 218 hc1)
  have HO1 := Lib.hid (fun (W W2 : World) hb => ho_old (w := W) (w2 := W2) (UInt8.ofNat 218) 218 hc1 hb)
  have hc2 : (197 : Int) = (((UInt8.ofNat 197).toNat : Nat) : Int) := by decide
  have hwc2 : IntKind.u8.wrap 197 = 197 := by decide
  have hwi2 : IntKind.i64.wrap 197 = 197 := by decide
  have HCV2 := Lib.hid (fun W => ho_new W (UInt8.ofNat 197) 197 hc2)
  have HCD2 := Lib.hid (fun W => ho_drew W (UInt8.ofNat 197) 197 hc2)
  have HO2 := Lib.hid (fun (W W2 : World) hb => ho_old (w := W) (w2 := W2) (UInt8.ofNat 197) 197 hc2 hb)
  have hc3 : (221 : Int) = (((UInt8.ofNat 221).toNat : Nat) : Int) := by decide
  have hwc3 : IntKind.u8.wrap 221 = 221 := by decide
  have hwi3 : IntKind.i64.wrap 221 = 221 := by decide
  have HCV3 := Lib.hid (fun W => ho_new W (UInt8.ofNat 221) 221 hc3)
  have HCD3 := Lib.hid (fun W => ho_drew W (UInt8.ofNat 221) 221 hc3)
  have HO3 := Lib.hid (fun (W W2 : World) hb => ho_old (w := W) (w2 := W2) (UInt8.ofNat 221) 221 hc3 hb)
  have HBg := Lib.hid (fun W => rbig_n s.size 2 2 rfl (by omega) (by omega) (by omega) _ rfl W)
  have HBn := Lib.hid (fun W => rbig_n N 4 4 rfl (by omega) (by omega) (by omega) _ rfl W)
  have s2 : (⟨(bigB 2 s.size).toArray⟩ : ByteArray).size = 2 := by rw [ba_size, bigB_length]
  have s3 : (⟨(bigB 4 N).toArray⟩ : ByteArray).size = 4 := by rw [ba_size, bigB_length]
  have hl0 := lonL_0 221 4 N
  have e1 : (⟨#[UInt8.ofNat 218]⟩ : ByteArray).size = 1 := rfl
  have e2 : (⟨#[UInt8.ofNat 197]⟩ : ByteArray).size = 1 := rfl
  have e3 : (⟨#[UInt8.ofNat 221]⟩ : ByteArray).size = 1 := rfl
  have q1 := fun W => ev_eql ⟨3, false, 0, s, 0⟩ ⟨3, false, 0, s, 0⟩ W
  have q2 := fun W => ev_eql ⟨4, false, 0, s, 0⟩ ⟨4, false, 0, s, 0⟩ W
  have q3 := fun W => ev_eql ⟨5, false, 0, ⟨#[]⟩, N⟩ ⟨5, false, 0, ⟨#[]⟩, N⟩ W
  rw [sameE_refl] at q1 q2 q3
  simp only [evV] at q1 q2 q3
  have hwl : IntKind.u64.wrap (s.size : Int) = (s.size : Int) := wrapI_u64 _ (by omega) (by omega)
  have hwn : IntKind.u64.wrap (N : Int) = (N : Int) := wrapI_u64 _ (by omega) (by omega)
  have hwk : IntKind.i64.wrap 2 = 2 := by decide
  have hwk2 : IntKind.i64.wrap 4 = 4 := by decide
  clear hJ1 hJ2 hJ3 hln hc1 hc2 hc3 hv hVV
  generalize (⟨#[UInt8.ofNat 218]⟩ : ByteArray) = X1 at *
  generalize (⟨#[UInt8.ofNat 197]⟩ : ByteArray) = X2 at *
  generalize (⟨#[UInt8.ofNat 221]⟩ : ByteArray) = X3 at *
  generalize (⟨(bigB 2 s.size).toArray⟩ : ByteArray) = Y at *
  generalize (⟨(bigB 4 N).toArray⟩ : ByteArray) = YN at *
  have z1 : (9223372036854775807 < X1.size + Y.size) = False := by simp only [eq_iff_iff, iff_false]; omega
  have z2 : (9223372036854775807 < X2.size + Y.size) = False := by simp only [eq_iff_iff, iff_false]; omega
  have z3 : (9223372036854775807 < X3.size + YN.size) = False := by simp only [eq_iff_iff, iff_false]; omega
  have z4 : (9223372036854775807 < (X1 ++ Y).size + s.size) = False := by rw [ByteArray.size_append]; simp only [eq_iff_iff, iff_false]; omega
  have z5 : (9223372036854775807 < (X2 ++ Y).size + s.size) = False := by rw [ByteArray.size_append]; simp only [eq_iff_iff, iff_false]; omega
  have z6 : (9223372036854775807 < X1.size + Y.size + s.size) = False := by simp only [eq_iff_iff, iff_false]; omega
  have z7 : (9223372036854775807 < X2.size + Y.size + s.size) = False := by simp only [eq_iff_iff, iff_false]; omega
  have HL0 := Lib.hid hl0
  have HQ := Lib.hid (And.intro q1 (And.intro q2 q3))
  have HZ1 := Lib.hid (And.intro z1 (And.intro z4 z6))
  have HZ2 := Lib.hid (And.intro z2 (And.intro z5 z7))
  have HZ3 := Lib.hid z3
  have HC1 := Lib.hid (And.intro hwc1 hwi1)
  have HC2 := Lib.hid (And.intro hwc2 hwi2)
  have HC3 := Lib.hid (And.intro hwc3 hwi3)
  have HWL := Lib.hid (And.intro hwl hwk)
  have HWN := Lib.hid (And.intro hwn hwk2)
  clear s2 s3 e1 e2 e3 hl0 hs q1 q2 q3 z1 z2 z3 z4 z5 z6 z7 hwc1 hwc2 hwc3 hwi1 hwi2 hwi3 hwl hwn hwk hwk2
  go_enter Try.func10, Try.ntmps10
  go_wp2_with fail
  refine HV.out.mono ?_
  rintro r w0 ⟨rfl, rfl⟩
  go_wp2_with fail
  refine (HA.out _).mono ?_
  rintro r w1 ⟨rfl, b1⟩
  have B1 := Lib.hid b1
  clear b1 HA HV
  go_wp2_with fail
  have hcv := fun W => HCV1.out W
  have hcd := HCD1.out w1
  obtain ⟨z1, z4, z6⟩ := HZ1.out
  obtain ⟨hwc1, hwi1⟩ := HC1.out
  obtain ⟨hwl, hwk⟩ := HWL.out
  clear t1 t2 t3 hF HZ1 HC1
  go_cut [8] (fun u8 wx => u8 = .string (X1 ++ Y ++ s) ∧ Hid (Below w.heap.size w wx))
  case first =>
    go_region_with ((go_at_call 23); (with_reducible refine (HBg.out _).mono ?_); (rintro e w5 ⟨rfl, b5⟩); (first | (have hcx := HO1.out w1 w5 b5) | skip); (have B5 : Hid (Below w.heap.size w w5) := Lib.hid (by first | exact up_trans B1.out (ends0n b5) | exact up_trans B1.out (ends1 b5))))
    all_goals
      go_wp2_with fail
      go_meet
      exact ⟨by rfl, by first | exact B5 | exact Lib.hid (up_alloc B5.out _)⟩
  case rest =>
    obtain ⟨rfl, B2⟩ := hcut
    clear hcv hcd HCV1 HCD1 HO1 B1 z1 z4 z6 hwc1 hwi1
    rename World => w2
    go_wp2_with fail
    have hcv := fun W => HCV2.out W
    have hcd := HCD2.out w2
    obtain ⟨z2, z5, z7⟩ := HZ2.out
    obtain ⟨hwc2, hwi2⟩ := HC2.out
    clear HZ2 HC2
    go_cut [9] (fun u9 wx => u9 = .string (X2 ++ Y ++ s) ∧ Hid (Below w.heap.size w wx))
    case first =>
      go_region_with ((go_at_call 23); (with_reducible refine (HBg.out _).mono ?_); (rintro e w5 ⟨rfl, b5⟩); (first | (have hcx := HO2.out w2 w5 b5) | skip); (have B5 : Hid (Below w.heap.size w w5) := Lib.hid (by first | exact up_trans B2.out (ends0n b5) | exact up_trans B2.out (ends1 b5))))
      all_goals
        go_wp2_with fail
        go_meet
        exact ⟨by rfl, by first | exact B5 | exact Lib.hid (up_alloc B5.out _)⟩
    case rest =>
      obtain ⟨rfl, B3⟩ := hcut
      clear hcv hcd HCV2 HCD2 HO2 HBg B2 z2 z5 z7 hwc2 hwi2 hwl hwk HWL
      go_wp2_with fail
      refine (HJ1.out _).mono ?_
      rintro r w4 ⟨u1, rfl, hM1⟩
      obtain ⟨a1, c1, rfl, _, _⟩ := hM1.2.1.slice_form
      have B4 := Lib.hid (up_trans B3.out hM1.1)
      have HW1 := Lib.hid hM1.2.1
      clear hM1
      go_wp2_with fail
      refine (HJ2.out _).mono ?_
      rintro r w5 ⟨u2, rfl, hM2⟩
      obtain ⟨a2, c2, rfl, _, _⟩ := hM2.2.1.slice_form
      have B5 := Lib.hid (up_trans B4.out hM2.1)
      have HW1b := Lib.hid (HW1.out.keep fun k hk => hM2.1.block k (HW1.out.lt k hk))
      have HW2 := Lib.hid hM2.2.1
      clear hM2 HW1 HJ1 HJ2
      go_wp2_with fail
      have hcv := fun W => HCV3.out W
      have hcd := HCD3.out w5
      have z3 := HZ3.out
      obtain ⟨hwc3, hwi3⟩ := HC3.out
      obtain ⟨hwn, hwk2⟩ := HWN.out
      clear HZ3 HC3 HWN
      go_cut [14] (fun u14 wx => u14 = .string (X3 ++ YN) ∧ Hid (Below w5.heap.size w5 wx))
      case first =>
        go_region_with ((go_at_call 23); (with_reducible refine (HBn.out _).mono ?_); (rintro e w6 ⟨rfl, b6⟩); (first | (have hcx := HO3.out w5 w6 b6) | skip); (have B6 : Hid (Below w5.heap.size w5 w6) := Lib.hid (by first | exact ends0n b6 | exact ends1 b6)))
        all_goals
          go_wp2_with fail
          go_meet
          exact ⟨by rfl, by first | exact B6 | exact Lib.hid (up_alloc B6.out _)⟩
      case rest =>
        obtain ⟨rfl, B6⟩ := hcut
        rw [HL0.out]
        clear hcv hcd HCV3 HCD3 HO3 HBn z3 hwc3 hwi3 hwn hwk2
        go_wp2
        go_loopw [14, 15] (fun sl i wr => ∃ (j : Nat) (S : ByteArray), sl = .string S ∧ i = .int .i64 j ∧ j ≤ N ∧ Hid (S = lonL 221 4 N j) ∧ Hid (Below w5.heap.size w5 wr)) (fun _ i _ => N - (RowKit.intOf i).toNat)
        case atStart => exact ⟨0, _, rfl, rfl, by omega, Lib.hid rfl, B6⟩
        case round =>
          obtain ⟨j, S, rfl, rfl, hj, HS, BR⟩ := hrel
          clear B6
          have hS := lonL_size 221 4 N j
          rw [← HS.out] at hS
          by_cases hlt : j < N
          · have y1 : ¬ 9223372036854775807 < S.size + 1 := by omega
            have HS2 : Hid (S ++ ⟨#[192]⟩ = lonL 221 4 N (j + 1)) := Lib.hid (by rw [HS.out]; exact lonL_more _ _ _ _)
            clear hS
            go_wp2
            go_roundw
            case rel => exact ⟨j + 1, _, rfl, rfl, hlt, HS2, BR⟩
            case measure => simp [RowKit.intOf]; omega
          · obtain rfl : j = N := by omega
            have HJQ := HJ3.out
            rw [← HS.out] at HJQ
            have HJJ := Lib.hid HJQ
            clear HJQ hS HS HJ3
            go_wp2_with fail
            refine (HJJ.out _).mono ?_
            rintro r w7 ⟨u3, rfl, hM3⟩
            have B7 := Lib.hid (up_trans BR.out hM3.1)
            have BF := Lib.hid (up_trans B5.out B7.out)
            obtain ⟨g1, o1, p1, hu1, k0, k1, k2, k3, k4⟩ := lonFirst HW1b.out B7.out
            obtain ⟨g2, o2, p2, hu2, l0, l1, l2, l3, l4⟩ := lonFirst HW2.out B7.out
            obtain ⟨g3, o3, p3, hu3, m0, m1, m2, m3, m4⟩ := lonFirst hM3.2.1 (Below.refl _ _)
            cases hu1
            cases hu2
            subst hu3
            have hwp := HWP.out
            obtain ⟨q1, q2, q3⟩ := HQ.out
            have hj2 := HJ2'.out
            clear hM3
            simp only [evBegC, Bool.false_eq_true, if_false] at m0 m1 m2 m3 m4
            go_wp2
            go_ret
            exact ⟨rfl, BF.out⟩
end Go.Proofs.Ytebnhelejebobaa
