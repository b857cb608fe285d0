/-
  LAW of chapter 18: PipeStages.
-/
import Derived.Test.YtkgconbdmnmbnaaGreatPipLs
namespace Go.Proofs.YtkgconbdmnmbnaaGreat
open Go.RowKit
open Go.Lib
set_option maxRecDepth 100000 in
set_option maxHeartbeats 16000000 in
theorem stages_any (n t : Int) (w : World) (hP : PrintX w) :
    Calls Tryz.prog 10 #[.int .i64 n, .int .i64 t] w fun r w' => r = .returned (.bool true) ∧ Below w.heap.size w w' := by
  have HAL := Lib.hid (fun (W : World) (k : Below w.heap.size w W) => pialive_any (hP.up k))
  by_cases q0 : n < 1
  · skip
    clear hP
    go_enter Tryz.func10, Tryz.ntmps10
    go_wp2_with fail
    refine (HAL.out _ (Below.refl _ _)).mono ?_
    rintro r w1 ⟨rfl, b1⟩
    have B1 := Lib.hid b1
    clear b1
    go_wp2
    go_ret
    exact ⟨rfl, B1.out⟩
  by_cases q1 : 100 < n
  · skip
    clear hP
    go_enter Tryz.func10, Tryz.ntmps10
    go_wp2_with fail
    refine (HAL.out _ (Below.refl _ _)).mono ?_
    rintro r w1 ⟨rfl, b1⟩
    have B1 := Lib.hid b1
    clear b1
    go_wp2
    go_ret
    exact ⟨rfl, B1.out⟩
  by_cases q2 : t < 1
  · skip
    clear hP
    go_enter Tryz.func10, Tryz.ntmps10
    go_wp2_with fail
    refine (HAL.out _ (Below.refl _ _)).mono ?_
    rintro r w1 ⟨rfl, b1⟩
    have B1 := Lib.hid b1
    clear b1
    go_wp2
    go_ret
    exact ⟨rfl, B1.out⟩
  by_cases q3 : 3 < t
  · skip
    clear hP
    go_enter Tryz.func10, Tryz.ntmps10
    go_wp2_with fail
    refine (HAL.out _ (Below.refl _ _)).mono ?_
    rintro r w1 ⟨rfl, b1⟩
    have B1 := Lib.hid b1
    clear b1
    go_wp2
    go_ret
    exact ⟨rfl, B1.out⟩
  obtain ⟨pr, hPr⟩ := hP.small
  obtain ⟨n, rfl⟩ : ∃ k : Nat, n = k := ⟨n.toNat, by omega⟩
  obtain ⟨t, rfl⟩ : ∃ k : Nat, t = k := ⟨t.toNat, by omega⟩
  have hRt : ∀ s : Nat, s ≤ 2000 → RightP 1 t ((1 : Nat) : Int) s 0 := fun s hs => by unfold RightP fmtP inP3; omega
  have HB1 := Lib.hid (fun (W : World) (k : Below w.heap.size w W) => pibatch_any (hPr.up k) 1 t 0 1 (n + 1) (hRt _ (by omega)) (docS n) (by have := docS_len n; omega))
  have HB2 := Lib.hid (fun (W : World) (k : Below w.heap.size w W) => pibatch_any (hPr.up k) 1 t 0 1 n (hRt _ (by omega)) (docS n) (by have := docS_len n; omega))
  have hn : 1 ≤ n ∧ n ≤ 100 := by omega
  have ht : 1 ≤ t ∧ t ≤ 3 := by omega
  clear hRt hPr q0 q1 q2 q3
  unfold suV at HB1 HB2
  by_cases ht3 : t = 3
  · subst ht3
    obtain ⟨X, e1, e2, e3⟩ := stages3 pr n hn
    have e1' : batchPp 1 (n + 1) (pp0 (smallPr pr) 1 ((3 : Nat) : Int)) (docS n) = (X, 0) := e1
    have e3' : batchPp 1 n (pp0 (smallPr pr) 1 ((3 : Nat) : Int)) (docS n) = ([], 10) := e3
    rw [e1'] at HB1
    rw [e3'] at HB2
    have hs : n < (⟨X.toArray⟩ : ByteArray).size := by rw [size_of]; exact e2
    generalize (⟨X.toArray⟩ : ByteArray) = O at *
    clear e1 e2 e3 e1' e3'
    go_enter Tryz.func10, Tryz.ntmps10
    go_wp2_with fail
    refine (HAL.out _ (Below.refl _ _)).mono ?_
    rintro r w1 ⟨rfl, b1⟩
    have B1 := Lib.hid b1
    clear b1
    go_wp2
    go_loopw [5, 6] (fun vd vi wr => ∃ (k : Nat), vd = .string (rowS k) ∧ vi = .int .i64 k ∧ k ≤ n ∧ Hid (Below w.heap.size w wr)) (fun _ vi _ => n - (RowKit.intOf vi).toNat)
    case atStart => exact ⟨0, rfl, rfl, by omega, B1⟩
    case round =>
      obtain ⟨k, rfl, rfl, hk, HK⟩ := hrel
      have hs0 := rowS_size k
      by_cases hlt : k < n
      · by_cases hk0 : k = 0
        · subst hk0
          have hs2 : (rowS 0 ++ ⟨#[53]⟩ : ByteArray).size ≤ 300 := by rw [rowS_first]; decide
          have hq := Lib.hid rowS_first
          go_wp2
          refine ⟨⟨1, congrArg _ hq.out, rfl, hlt, HK⟩, ?_⟩
          simp [RowKit.intOf]
          omega
        · have hs1 : (rowS k ++ ⟨#[44]⟩ : ByteArray).size ≤ 300 := by
            rw [ByteArray.size_append]
            show (rowS k).size + 1 ≤ 300
            omega
          have hs2 : (rowS k ++ ⟨#[44]⟩ ++ ⟨#[53]⟩ : ByteArray).size ≤ 300 := by
            rw [rowS_next k (by omega)]
            have := rowS_size (k + 1)
            omega
          have hq := Lib.hid (rowS_next k (by omega))
          go_wp2
          refine ⟨⟨k + 1, congrArg _ hq.out, rfl, hlt, HK⟩, ?_⟩
          simp [RowKit.intOf]
          omega
      · have hkn : k = n := by omega
        subst hkn
        have hs2 : (rowS k ++ ⟨#[93]⟩ : ByteArray).size ≤ 300 := by
          rw [ByteArray.size_append]
          show (rowS k).size + 1 ≤ 300
          omega
        have hq := Lib.hid (rowS_end k)
        go_wp2_with fail
        rw [hq.out]
        refine (HB1.out _ HK.out).mono ?_
        rintro r w2 ⟨rfl, b2⟩
        have B2 := Lib.hid (up_trans HK.out b2)
        clear b2
        go_wp2_with fail
        try rw [hq.out]
        refine (HB2.out _ B2.out).mono ?_
        rintro r w3 ⟨rfl, b3⟩
        have B3 := Lib.hid (up_trans B2.out b3)
        clear b3
        go_wp2
        go_ret
        exact ⟨rfl, B3.out⟩
  · obtain ⟨X, e1, e2⟩ := stages12 pr t n (by omega) hn
    rw [e1] at HB1
    rw [e2] at HB2
    have ht3' : (t : Int) ≠ 3 := by omega
    generalize (⟨X.toArray⟩ : ByteArray) = O at *
    clear e1 e2
    go_enter Tryz.func10, Tryz.ntmps10
    go_wp2_with fail
    refine (HAL.out _ (Below.refl _ _)).mono ?_
    rintro r w1 ⟨rfl, b1⟩
    have B1 := Lib.hid b1
    clear b1
    go_wp2
    go_loopw [5, 6] (fun vd vi wr => ∃ (k : Nat), vd = .string (rowS k) ∧ vi = .int .i64 k ∧ k ≤ n ∧ Hid (Below w.heap.size w wr)) (fun _ vi _ => n - (RowKit.intOf vi).toNat)
    case atStart => exact ⟨0, rfl, rfl, by omega, B1⟩
    case round =>
      obtain ⟨k, rfl, rfl, hk, HK⟩ := hrel
      have hs0 := rowS_size k
      by_cases hlt : k < n
      · by_cases hk0 : k = 0
        · subst hk0
          have hs2 : (rowS 0 ++ ⟨#[53]⟩ : ByteArray).size ≤ 300 := by rw [rowS_first]; decide
          have hq := Lib.hid rowS_first
          go_wp2
          refine ⟨⟨1, congrArg _ hq.out, rfl, hlt, HK⟩, ?_⟩
          simp [RowKit.intOf]
          omega
        · have hs1 : (rowS k ++ ⟨#[44]⟩ : ByteArray).size ≤ 300 := by
            rw [ByteArray.size_append]
            show (rowS k).size + 1 ≤ 300
            omega
          have hs2 : (rowS k ++ ⟨#[44]⟩ ++ ⟨#[53]⟩ : ByteArray).size ≤ 300 := by
            rw [rowS_next k (by omega)]
            have := rowS_size (k + 1)
            omega
          have hq := Lib.hid (rowS_next k (by omega))
          go_wp2
          refine ⟨⟨k + 1, congrArg _ hq.out, rfl, hlt, HK⟩, ?_⟩
          simp [RowKit.intOf]
          omega
      · have hkn : k = n := by omega
        subst hkn
        have hs2 : (rowS k ++ ⟨#[93]⟩ : ByteArray).size ≤ 300 := by
          rw [ByteArray.size_append]
          show (rowS k).size + 1 ≤ 300
          omega
        have hq := Lib.hid (rowS_end k)
        go_wp2_with fail
        rw [hq.out]
        refine (HB1.out _ HK.out).mono ?_
        rintro r w2 ⟨rfl, b2⟩
        have B2 := Lib.hid (up_trans HK.out b2)
        clear b2
        go_wp2_with fail
        try rw [hq.out]
        refine (HB2.out _ B2.out).mono ?_
        rintro r w3 ⟨rfl, b3⟩
        have B3 := Lib.hid (up_trans B2.out b3)
        clear b3
        go_wp2
        go_ret
        exact ⟨rfl, B3.out⟩
end Go.Proofs.YtkgconbdmnmbnaaGreat
