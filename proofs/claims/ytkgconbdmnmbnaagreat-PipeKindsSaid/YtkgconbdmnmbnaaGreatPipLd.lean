/-
  LAW of chapter 18: PipeKinds.
-/
import Derived.Test.YtkgconbdmnmbnaaGreatPipLq
namespace Go.Proofs.YtkgconbdmnmbnaaGreat
open Go.RowKit
open Go.Lib
def badKd (r : Nat) : List UInt8 := match r with | 0 => [249, 0, 0] | 1 => [193, 1] | 2 => [247] | 3 => [224] | 4 => [28] | 5 => [255] | _ => [161, 1, 2]
def wantKd (r : Nat) : Nat := match r with | 0 => 6 | 4 => 2 | 5 => 2 | _ => 8
def outKd (t : Nat) : List UInt8 := if t = 1 then [91, 49] else if t = 2 then [130, 1] else [146, 1]
def moreKd (t : Nat) : List UInt8 := if t = 1 then [44, 123] else if t = 2 then [161] else [129]
def kindChk (pr : Bool → Nat → List UInt8) : Bool := (List.range 3).all fun t => batchPp 4 100 (pp0 (smallPr pr) 2 ((t + 1 : Nat) : Int)) [130, 1] == (outKd (t + 1), 3) && ((List.range 7).all fun r => batchPp 4 100 (pp0 (smallPr pr) 2 ((t + 1 : Nat) : Int)) (130 :: 1 :: badKd r) == (outKd (t + 1) ++ (if r = 6 then moreKd (t + 1) else []), wantKd r))
theorem kind_chk (pr : Bool → Nat → List UInt8) : kindChk pr = true := by kernel_rfl
theorem kind_pure (pr : Bool → Nat → List UInt8) (t r : Nat) (ht : 1 ≤ t ∧ t ≤ 3) (hr : r < 7) : batchPp 4 100 (pp0 (smallPr pr) 2 t) [130, 1] = (outKd t, 3) ∧ batchPp 4 100 (pp0 (smallPr pr) 2 t) (130 :: 1 :: badKd r) = (outKd t ++ (if r = 6 then moreKd t else []), wantKd r) := by
  have h := kind_chk pr
  unfold kindChk at h
  have h1 := List.all_eq_true.1 h (t - 1) (by simp; omega)
  rw [show t - 1 + 1 = t by omega, Bool.and_eq_true] at h1
  exact ⟨eq_of_beq h1.1, eq_of_beq (List.all_eq_true.1 h1.2 r (by simp; omega))⟩
theorem extract_preK (x t : List UInt8) : (⟨(x ++ t).toArray⟩ : ByteArray).extract 0 (⟨x.toArray⟩ : ByteArray).size = ⟨x.toArray⟩ := by
  rw [size_of]
  apply ByteArray.ext
  simp
set_option maxRecDepth 100000 in
set_option maxHeartbeats 16000000 in
theorem kinds_any (t k : Int) (_ht : -9223372036854775808 ≤ t ∧ t ≤ 9223372036854775807) (_hk : -9223372036854775808 ≤ k ∧ k ≤ 9223372036854775807) (w : World) (hP : PrintX w) :
    Calls Tryz.prog 6 #[.int .i64 t, .int .i64 k] w fun r w' => r = .returned (.bool true) ∧ Below w.heap.size w w' := by
  have HAL := Lib.hid (fun (W : World) (k : Below w.heap.size w W) => pialive_any (hP.up k))
  by_cases q0 : t < 1
  · skip
    clear hP
    go_enter Tryz.func6, Tryz.ntmps6
    go_wp2_with fail
    refine (HAL.out _ (Below.refl _ _)).mono ?_
    rintro r w1 ⟨rfl, b1⟩
    have B1 := Lib.hid b1
    clear b1
    go_wp2
    go_ret
    exact ⟨rfl, B1.out⟩
  by_cases q1 : 3 < t
  · skip
    clear hP
    go_enter Tryz.func6, Tryz.ntmps6
    go_wp2_with fail
    refine (HAL.out _ (Below.refl _ _)).mono ?_
    rintro r w1 ⟨rfl, b1⟩
    have B1 := Lib.hid b1
    clear b1
    go_wp2
    go_ret
    exact ⟨rfl, B1.out⟩
  obtain ⟨pr, hPr⟩ := hP.small
  obtain ⟨t, rfl⟩ : ∃ n : Nat, t = n := ⟨t.toNat, by omega⟩
  have hl : -7 < Int.tmod k 7 := Int.lt_tmod_of_pos k (by decide)
  have hu : Int.tmod k 7 < 7 := Int.tmod_lt_of_pos k (by decide)
  have hw : wrap64 (Int.tmod k 7 + 7) = Int.tmod k 7 + 7 := by unfold wrap64; omega
  have hb : 0 ≤ Int.tmod (wrap64 (Int.tmod k 7 + 7)) 7 ∧ Int.tmod (wrap64 (Int.tmod k 7 + 7)) 7 < 7 := by
    rw [hw]
    exact ⟨Int.tmod_nonneg _ (by omega), Int.tmod_lt_of_pos _ (by decide)⟩
  clear hl hu hw
  obtain ⟨r, hr⟩ : ∃ r : Nat, Int.tmod (wrap64 (Int.tmod k 7 + 7)) 7 = r := ⟨(Int.tmod (wrap64 (Int.tmod k 7 + 7)) 7).toNat, by omega⟩
  obtain ⟨e1, e2⟩ := kind_pure pr t r (by omega) (by omega)
  have hRt : RightP 2 t ((4 : Nat) : Int) ((100 : Nat) : Int) 0 := by unfold RightP fmtP inP3; omega
  have HB1 := Lib.hid (fun (W : World) (k : Below w.heap.size w W) => pibatch_any (hPr.up k) 2 t 0 4 100 hRt (130 :: 1 :: badKd r) (by unfold badKd; split <;> decide))
  have HB2 := Lib.hid (fun (W : World) (k : Below w.heap.size w W) => pibatch_any (hPr.up k) 2 t 0 4 100 hRt [130, 1] (by decide))
  rw [e2] at HB1
  rw [e1] at HB2
  have hr7 : r = 0 ∨ r = 1 ∨ r = 2 ∨ r = 3 ∨ r = 4 ∨ r = 5 ∨ r = 6 := by omega
  clear hb e1 e2 hP hRt
  unfold suV at HB1 HB2
  obtain ⟨O, hO⟩ : ∃ O : ByteArray, (⟨(outKd t).toArray⟩ : ByteArray) = O := ⟨_, rfl⟩
  obtain ⟨A, hA⟩ : ∃ A : ByteArray, (⟨(outKd t ++ moreKd t).toArray⟩ : ByteArray) = A := ⟨_, rfl⟩
  have lt : O.size < A.size := by
    rw [← hO, ← hA, size_of, size_of, List.length_append]
    have : 0 < (moreKd t).length := by
      unfold moreKd
      repeat' split
      all_goals decide
    omega
  have ex : A.extract 0 O.size = O := by rw [← hO, ← hA]; exact extract_preK _ _
  have sl := fun W => slice_str_hi A O.size (by omega) W
  rw [ex] at sl
  rw [hO] at HB2
  rcases hr7 with rfl | rfl | rfl | rfl | rfl | rfl | rfl
  · simp only [badKd, wantKd, if_neg (show ¬ (0 = 6) by decide), List.append_nil, hO] at HB1
    have hr' : Int.tmod (wrap64 (Int.tmod k 7 + 7)) 7 = 0 := hr
    have ec : (⟨#[130, 1]⟩ : ByteArray) ++ ⟨#[249, 0, 0]⟩ = ⟨#[130, 1, 249, 0, 0]⟩ := by decide
    have EC := Lib.hid ec
    clear hr ec hO hA ex
    go_enter Tryz.func6, Tryz.ntmps6
    go_wp2_with fail
    refine (HAL.out _ (Below.refl _ _)).mono ?_
    rintro r w1 ⟨rfl, b1⟩
    have B1 := Lib.hid b1
    clear b1
    go_wp2_with fail
    rw [EC.out]
    refine (HB1.out _ ?_).mono ?_
    · exact up_alloc (up_alloc (up_alloc B1.out _) _) _
    rintro r w2 ⟨rfl, b2⟩
    have U := (blk_new _ _ _).go b2
    simp only [World.alloc, Array.size_push] at U
    have u0 := U.cell 0
    have u1 := U.cell 1
    have u2 := U.cell 2
    have u3 := U.cell 3
    have u4 := U.cell 4
    simp at u0 u1 u2 u3 u4
    have B2 := Lib.hid (up_trans (up_alloc (up_alloc (up_alloc B1.out _) _) _) b2)
    clear b2 U
    go_wp2_with fail
    refine (HB2.out _ B2.out).mono ?_
    rintro r w3 ⟨rfl, b3⟩
    have B3 := Lib.hid (up_trans B2.out b3)
    clear b3
    go_wp2
    go_ret
    exact ⟨rfl, B3.out⟩
  · simp only [badKd, wantKd, if_neg (show ¬ (1 = 6) by decide), List.append_nil, hO] at HB1
    have hr' : Int.tmod (wrap64 (Int.tmod k 7 + 7)) 7 = 1 := hr
    have ec : (⟨#[130, 1]⟩ : ByteArray) ++ ⟨#[193, 1]⟩ = ⟨#[130, 1, 193, 1]⟩ := by decide
    have EC := Lib.hid ec
    clear hr ec hO hA ex
    go_enter Tryz.func6, Tryz.ntmps6
    go_wp2_with fail
    refine (HAL.out _ (Below.refl _ _)).mono ?_
    rintro r w1 ⟨rfl, b1⟩
    have B1 := Lib.hid b1
    clear b1
    go_wp2_with fail
    rw [EC.out]
    refine (HB1.out _ ?_).mono ?_
    · exact up_alloc (up_alloc (up_alloc B1.out _) _) _
    rintro r w2 ⟨rfl, b2⟩
    have U := (blk_new _ _ _).go b2
    simp only [World.alloc, Array.size_push] at U
    have u0 := U.cell 0
    have u1 := U.cell 1
    have u2 := U.cell 2
    have u3 := U.cell 3
    have u4 := U.cell 4
    simp at u0 u1 u2 u3 u4
    have B2 := Lib.hid (up_trans (up_alloc (up_alloc (up_alloc B1.out _) _) _) b2)
    clear b2 U
    go_wp2_with fail
    refine (HB2.out _ B2.out).mono ?_
    rintro r w3 ⟨rfl, b3⟩
    have B3 := Lib.hid (up_trans B2.out b3)
    clear b3
    go_wp2
    go_ret
    exact ⟨rfl, B3.out⟩
  · simp only [badKd, wantKd, if_neg (show ¬ (2 = 6) by decide), List.append_nil, hO] at HB1
    have hr' : Int.tmod (wrap64 (Int.tmod k 7 + 7)) 7 = 2 := hr
    have ec : (⟨#[130, 1]⟩ : ByteArray) ++ ⟨#[247]⟩ = ⟨#[130, 1, 247]⟩ := by decide
    have EC := Lib.hid ec
    clear hr ec hO hA ex
    go_enter Tryz.func6, Tryz.ntmps6
    go_wp2_with fail
    refine (HAL.out _ (Below.refl _ _)).mono ?_
    rintro r w1 ⟨rfl, b1⟩
    have B1 := Lib.hid b1
    clear b1
    go_wp2_with fail
    rw [EC.out]
    refine (HB1.out _ ?_).mono ?_
    · exact up_alloc (up_alloc (up_alloc B1.out _) _) _
    rintro r w2 ⟨rfl, b2⟩
    have U := (blk_new _ _ _).go b2
    simp only [World.alloc, Array.size_push] at U
    have u0 := U.cell 0
    have u1 := U.cell 1
    have u2 := U.cell 2
    have u3 := U.cell 3
    have u4 := U.cell 4
    simp at u0 u1 u2 u3 u4
    have B2 := Lib.hid (up_trans (up_alloc (up_alloc (up_alloc B1.out _) _) _) b2)
    clear b2 U
    go_wp2_with fail
    refine (HB2.out _ B2.out).mono ?_
    rintro r w3 ⟨rfl, b3⟩
    have B3 := Lib.hid (up_trans B2.out b3)
    clear b3
    go_wp2
    go_ret
    exact ⟨rfl, B3.out⟩
  · simp only [badKd, wantKd, if_neg (show ¬ (3 = 6) by decide), List.append_nil, hO] at HB1
    have hr' : Int.tmod (wrap64 (Int.tmod k 7 + 7)) 7 = 3 := hr
    have ec : (⟨#[130, 1]⟩ : ByteArray) ++ ⟨#[224]⟩ = ⟨#[130, 1, 224]⟩ := by decide
    have EC := Lib.hid ec
    clear hr ec hO hA ex
    go_enter Tryz.func6, Tryz.ntmps6
    go_wp2_with fail
    refine (HAL.out _ (Below.refl _ _)).mono ?_
    rintro r w1 ⟨rfl, b1⟩
    have B1 := Lib.hid b1
    clear b1
    go_wp2_with fail
    rw [EC.out]
    refine (HB1.out _ ?_).mono ?_
    · exact up_alloc (up_alloc (up_alloc B1.out _) _) _
    rintro r w2 ⟨rfl, b2⟩
    have U := (blk_new _ _ _).go b2
    simp only [World.alloc, Array.size_push] at U
    have u0 := U.cell 0
    have u1 := U.cell 1
    have u2 := U.cell 2
    have u3 := U.cell 3
    have u4 := U.cell 4
    simp at u0 u1 u2 u3 u4
    have B2 := Lib.hid (up_trans (up_alloc (up_alloc (up_alloc B1.out _) _) _) b2)
    clear b2 U
    go_wp2_with fail
    refine (HB2.out _ B2.out).mono ?_
    rintro r w3 ⟨rfl, b3⟩
    have B3 := Lib.hid (up_trans B2.out b3)
    clear b3
    go_wp2
    go_ret
    exact ⟨rfl, B3.out⟩
  · simp only [badKd, wantKd, if_neg (show ¬ (4 = 6) by decide), List.append_nil, hO] at HB1
    have hr' : Int.tmod (wrap64 (Int.tmod k 7 + 7)) 7 = 4 := hr
    have ec : (⟨#[130, 1]⟩ : ByteArray) ++ ⟨#[28]⟩ = ⟨#[130, 1, 28]⟩ := by decide
    have EC := Lib.hid ec
    clear hr ec hO hA ex
    go_enter Tryz.func6, Tryz.ntmps6
    go_wp2_with fail
    refine (HAL.out _ (Below.refl _ _)).mono ?_
    rintro r w1 ⟨rfl, b1⟩
    have B1 := Lib.hid b1
    clear b1
    go_wp2_with fail
    rw [EC.out]
    refine (HB1.out _ ?_).mono ?_
    · exact up_alloc (up_alloc (up_alloc B1.out _) _) _
    rintro r w2 ⟨rfl, b2⟩
    have U := (blk_new _ _ _).go b2
    simp only [World.alloc, Array.size_push] at U
    have u0 := U.cell 0
    have u1 := U.cell 1
    have u2 := U.cell 2
    have u3 := U.cell 3
    have u4 := U.cell 4
    simp at u0 u1 u2 u3 u4
    have B2 := Lib.hid (up_trans (up_alloc (up_alloc (up_alloc B1.out _) _) _) b2)
    clear b2 U
    go_wp2_with fail
    refine (HB2.out _ B2.out).mono ?_
    rintro r w3 ⟨rfl, b3⟩
    have B3 := Lib.hid (up_trans B2.out b3)
    clear b3
    go_wp2
    go_ret
    exact ⟨rfl, B3.out⟩
  · simp only [badKd, wantKd, if_neg (show ¬ (5 = 6) by decide), List.append_nil, hO] at HB1
    have hr' : Int.tmod (wrap64 (Int.tmod k 7 + 7)) 7 = 5 := hr
    have ec : (⟨#[130, 1]⟩ : ByteArray) ++ ⟨#[255]⟩ = ⟨#[130, 1, 255]⟩ := by decide
    have EC := Lib.hid ec
    clear hr ec hO hA ex
    go_enter Tryz.func6, Tryz.ntmps6
    go_wp2_with fail
    refine (HAL.out _ (Below.refl _ _)).mono ?_
    rintro r w1 ⟨rfl, b1⟩
    have B1 := Lib.hid b1
    clear b1
    go_wp2_with fail
    rw [EC.out]
    refine (HB1.out _ ?_).mono ?_
    · exact up_alloc (up_alloc (up_alloc B1.out _) _) _
    rintro r w2 ⟨rfl, b2⟩
    have U := (blk_new _ _ _).go b2
    simp only [World.alloc, Array.size_push] at U
    have u0 := U.cell 0
    have u1 := U.cell 1
    have u2 := U.cell 2
    have u3 := U.cell 3
    have u4 := U.cell 4
    simp at u0 u1 u2 u3 u4
    have B2 := Lib.hid (up_trans (up_alloc (up_alloc (up_alloc B1.out _) _) _) b2)
    clear b2 U
    go_wp2_with fail
    refine (HB2.out _ B2.out).mono ?_
    rintro r w3 ⟨rfl, b3⟩
    have B3 := Lib.hid (up_trans B2.out b3)
    clear b3
    go_wp2
    go_ret
    exact ⟨rfl, B3.out⟩
  · simp only [badKd, wantKd, if_true, hA] at HB1
    have hr' : Int.tmod (wrap64 (Int.tmod k 7 + 7)) 7 = 6 := hr
    have ec : (⟨#[130, 1]⟩ : ByteArray) ++ ⟨#[161, 1, 2]⟩ = ⟨#[130, 1, 161, 1, 2]⟩ := by decide
    have EC := Lib.hid ec
    clear hr ec hO hA ex
    go_enter Tryz.func6, Tryz.ntmps6
    go_wp2_with fail
    refine (HAL.out _ (Below.refl _ _)).mono ?_
    rintro r w1 ⟨rfl, b1⟩
    have B1 := Lib.hid b1
    clear b1
    go_wp2_with fail
    rw [EC.out]
    refine (HB1.out _ ?_).mono ?_
    · exact up_alloc (up_alloc (up_alloc B1.out _) _) _
    rintro r w2 ⟨rfl, b2⟩
    have U := (blk_new _ _ _).go b2
    simp only [World.alloc, Array.size_push] at U
    have u0 := U.cell 0
    have u1 := U.cell 1
    have u2 := U.cell 2
    have u3 := U.cell 3
    have u4 := U.cell 4
    simp at u0 u1 u2 u3 u4
    have B2 := Lib.hid (up_trans (up_alloc (up_alloc (up_alloc B1.out _) _) _) b2)
    clear b2 U
    go_wp2_with fail
    refine (HB2.out _ B2.out).mono ?_
    rintro r w3 ⟨rfl, b3⟩
    have B3 := Lib.hid (up_trans B2.out b3)
    clear b3
    go_wp2
    go_ret
    exact ⟨rfl, B3.out⟩
end Go.Proofs.YtkgconbdmnmbnaaGreat
