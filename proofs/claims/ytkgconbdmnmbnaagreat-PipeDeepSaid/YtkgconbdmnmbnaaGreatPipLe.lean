/-
  LAW of chapter 18: PipeDeep.
-/
import Derived.Test.YtkgconbdmnmbnaaGreatPipLq
namespace Go.Proofs.YtkgconbdmnmbnaaGreat
open Go.RowKit
open Go.Lib
def repB (b : UInt8) (k : Nat) : ByteArray := ⟨(List.replicate k b).toArray⟩
theorem repB_size (b : UInt8) (k : Nat) : (repB b k).size = k := by unfold repB; rw [size_of]; simp
theorem repB_succ (b : UInt8) (k : Nat) : repB b k ++ ⟨#[b]⟩ = repB b (k + 1) := by
  unfold repB
  rw [show (⟨#[b]⟩ : ByteArray) = ⟨[b].toArray⟩ from rfl, cat_of, List.replicate_succ']
set_option maxRecDepth 100000 in
set_option maxHeartbeats 16000000 in
theorem deep_any (f t n d : Int) (w : World) (hP : PrintX w) :
    Calls Tryz.prog 7 #[.int .i64 f, .int .i64 t, .int .i64 n, .int .i64 d] w fun r w' => r = .returned (.bool true) ∧ Below w.heap.size w w' := by
  have HAL := Lib.hid (fun (W : World) (k : Below w.heap.size w W) => pialive_any (hP.up k))
  by_cases q0 : f < 1
  · skip
    clear hP
    go_enter Tryz.func7, Tryz.ntmps7
    go_wp2_with fail
    refine (HAL.out _ (Below.refl _ _)).mono ?_
    rintro r w1 ⟨rfl, b1⟩
    have B1 := Lib.hid b1
    clear b1
    go_wp2
    go_ret
    exact ⟨rfl, B1.out⟩
  by_cases q1 : 3 < f
  · skip
    clear hP
    go_enter Tryz.func7, Tryz.ntmps7
    go_wp2_with fail
    refine (HAL.out _ (Below.refl _ _)).mono ?_
    rintro r w1 ⟨rfl, b1⟩
    have B1 := Lib.hid b1
    clear b1
    go_wp2
    go_ret
    exact ⟨rfl, B1.out⟩
  by_cases q2 : t < 1
  · skip
    clear hP
    go_enter Tryz.func7, Tryz.ntmps7
    go_wp2_with fail
    refine (HAL.out _ (Below.refl _ _)).mono ?_
    rintro r w1 ⟨rfl, b1⟩
    have B1 := Lib.hid b1
    clear b1
    go_wp2
    go_ret
    exact ⟨rfl, B1.out⟩
  by_cases q3 : 3 < t
  · skip
    clear hP
    go_enter Tryz.func7, Tryz.ntmps7
    go_wp2_with fail
    refine (HAL.out _ (Below.refl _ _)).mono ?_
    rintro r w1 ⟨rfl, b1⟩
    have B1 := Lib.hid b1
    clear b1
    go_wp2
    go_ret
    exact ⟨rfl, B1.out⟩
  by_cases q4 : n < 1
  · skip
    clear hP
    go_enter Tryz.func7, Tryz.ntmps7
    go_wp2_with fail
    refine (HAL.out _ (Below.refl _ _)).mono ?_
    rintro r w1 ⟨rfl, b1⟩
    have B1 := Lib.hid b1
    clear b1
    go_wp2
    go_ret
    exact ⟨rfl, B1.out⟩
  by_cases q5 : 20 < n
  · skip
    clear hP
    go_enter Tryz.func7, Tryz.ntmps7
    go_wp2_with fail
    refine (HAL.out _ (Below.refl _ _)).mono ?_
    rintro r w1 ⟨rfl, b1⟩
    have B1 := Lib.hid b1
    clear b1
    go_wp2
    go_ret
    exact ⟨rfl, B1.out⟩
  by_cases q6 : d < 1
  · skip
    clear hP
    go_enter Tryz.func7, Tryz.ntmps7
    go_wp2_with fail
    refine (HAL.out _ (Below.refl _ _)).mono ?_
    rintro r w1 ⟨rfl, b1⟩
    have B1 := Lib.hid b1
    clear b1
    go_wp2
    go_ret
    exact ⟨rfl, B1.out⟩
  by_cases q7 : 16 < d
  · skip
    clear hP
    go_enter Tryz.func7, Tryz.ntmps7
    go_wp2_with fail
    refine (HAL.out _ (Below.refl _ _)).mono ?_
    rintro r w1 ⟨rfl, b1⟩
    have B1 := Lib.hid b1
    clear b1
    go_wp2
    go_ret
    exact ⟨rfl, B1.out⟩
  obtain ⟨pr, hPr, _⟩ := hP
  obtain ⟨f, rfl⟩ : ∃ k : Nat, f = k := ⟨f.toNat, by omega⟩
  obtain ⟨t, rfl⟩ : ∃ k : Nat, t = k := ⟨t.toNat, by omega⟩
  obtain ⟨n, rfl⟩ : ∃ k : Nat, n = k := ⟨n.toNat, by omega⟩
  obtain ⟨d, rfl⟩ : ∃ k : Nat, d = k := ⟨d.toNat, by omega⟩
  have hpu := deep_pure pr f t n d (by omega) (by omega) (by omega) (by omega)
  have hRt : RightP f t d ((100 : Nat) : Int) 0 := by unfold RightP fmtP inP3; omega
  have HB := Lib.hid (fun (W : World) (k : Below w.heap.size w W) => pibatch_any (hPr.up k) f t 0 d 100 hRt (List.replicate n (oneB f)) (by rw [List.length_replicate]; omega))
  rw [hpu] at HB
  generalize hX : (⟨(batchPp d 100 (pp0 pr f t) (List.replicate n (oneB f))).1.toArray⟩ : ByteArray) = X at *
  have hn : 1 ≤ n ∧ n ≤ 20 := by omega
  have hd : 1 ≤ d ∧ d ≤ 16 := by omega
  have ht : 1 ≤ t ∧ t ≤ 3 := by omega
  have hf : f = 1 ∨ f = 2 ∨ f = 3 := by omega
  clear hpu hRt hX hPr q0 q1 q2 q3 q4 q5 q6 q7
  unfold suV at HB
  rcases hf with rfl | rfl | rfl
  · have HB' : Hid (∀ W : World, Below w.heap.size w W → Calls Tryz.prog 15 #[.agg #[.int .i64 1, .int .i64 t, .int .i64 d, .int .i64 100, .int .i64 0], .string (repB 91 n)] W fun r w' => r = .returned (.tuple #[.string X, .int .i64 ((if d < n then 4 else 3 : Nat) : Int)]) ∧ Below W.heap.size W w') := HB
    clear HB
    go_enter Tryz.func7, Tryz.ntmps7
    go_wp2_with fail
    refine (HAL.out _ (Below.refl _ _)).mono ?_
    rintro r w1 ⟨rfl, b1⟩
    have B1 := Lib.hid (up_alloc b1 (.cells #[.string ⟨#[91]⟩, .string ⟨#[129]⟩, .string ⟨#[145]⟩] 9))
    clear b1
    go_wp2
    go_loopw [10, 11] (fun vd vi wr => ∃ (k : Nat), vd = .string (repB 91 k) ∧ vi = .int .i64 k ∧ k ≤ n ∧ Hid (Below w.heap.size w wr)) (fun _ vi _ => n - (RowKit.intOf vi).toNat)
    case atStart => exact ⟨0, rfl, rfl, by omega, B1⟩
    case round =>
      obtain ⟨k, rfl, rfl, hk, HK⟩ := hrel
      by_cases hlt : k < n
      · have hs := repB_size 91 k
        have hs2 : (repB 91 k ++ ⟨#[91]⟩ : ByteArray).size ≤ 100 := by rw [repB_succ, repB_size]; omega
        have hq := Lib.hid (repB_succ 91 k)
        go_wp2
        refine ⟨⟨k + 1, congrArg _ hq.out, rfl, hlt, HK⟩, ?_⟩
        simp [RowKit.intOf]
        omega
      · have hkn : k = n := by omega
        subst hkn
        by_cases hdn : d < k
        · rw [if_pos hdn] at HB'
          go_wp2_with fail
          refine (HB'.out _ HK.out).mono ?_
          rintro r w2 ⟨rfl, b2⟩
          have B2 := Lib.hid (up_trans HK.out b2)
          clear b2
          go_wp2
          go_ret
          exact ⟨rfl, B2.out⟩
        · rw [if_neg hdn] at HB'
          go_wp2_with fail
          refine (HB'.out _ HK.out).mono ?_
          rintro r w2 ⟨rfl, b2⟩
          have B2 := Lib.hid (up_trans HK.out b2)
          clear b2
          go_wp2
          go_ret
          exact ⟨rfl, B2.out⟩
  · have HB' : Hid (∀ W : World, Below w.heap.size w W → Calls Tryz.prog 15 #[.agg #[.int .i64 2, .int .i64 t, .int .i64 d, .int .i64 100, .int .i64 0], .string (repB 129 n)] W fun r w' => r = .returned (.tuple #[.string X, .int .i64 ((if d < n then 4 else 3 : Nat) : Int)]) ∧ Below W.heap.size W w') := HB
    clear HB
    go_enter Tryz.func7, Tryz.ntmps7
    go_wp2_with fail
    refine (HAL.out _ (Below.refl _ _)).mono ?_
    rintro r w1 ⟨rfl, b1⟩
    have B1 := Lib.hid (up_alloc b1 (.cells #[.string ⟨#[91]⟩, .string ⟨#[129]⟩, .string ⟨#[145]⟩] 9))
    clear b1
    go_wp2
    go_loopw [10, 11] (fun vd vi wr => ∃ (k : Nat), vd = .string (repB 129 k) ∧ vi = .int .i64 k ∧ k ≤ n ∧ Hid (Below w.heap.size w wr)) (fun _ vi _ => n - (RowKit.intOf vi).toNat)
    case atStart => exact ⟨0, rfl, rfl, by omega, B1⟩
    case round =>
      obtain ⟨k, rfl, rfl, hk, HK⟩ := hrel
      by_cases hlt : k < n
      · have hs := repB_size 129 k
        have hs2 : (repB 129 k ++ ⟨#[129]⟩ : ByteArray).size ≤ 100 := by rw [repB_succ, repB_size]; omega
        have hq := Lib.hid (repB_succ 129 k)
        go_wp2
        refine ⟨⟨k + 1, congrArg _ hq.out, rfl, hlt, HK⟩, ?_⟩
        simp [RowKit.intOf]
        omega
      · have hkn : k = n := by omega
        subst hkn
        by_cases hdn : d < k
        · rw [if_pos hdn] at HB'
          go_wp2_with fail
          refine (HB'.out _ HK.out).mono ?_
          rintro r w2 ⟨rfl, b2⟩
          have B2 := Lib.hid (up_trans HK.out b2)
          clear b2
          go_wp2
          go_ret
          exact ⟨rfl, B2.out⟩
        · rw [if_neg hdn] at HB'
          go_wp2_with fail
          refine (HB'.out _ HK.out).mono ?_
          rintro r w2 ⟨rfl, b2⟩
          have B2 := Lib.hid (up_trans HK.out b2)
          clear b2
          go_wp2
          go_ret
          exact ⟨rfl, B2.out⟩
  · have HB' : Hid (∀ W : World, Below w.heap.size w W → Calls Tryz.prog 15 #[.agg #[.int .i64 3, .int .i64 t, .int .i64 d, .int .i64 100, .int .i64 0], .string (repB 145 n)] W fun r w' => r = .returned (.tuple #[.string X, .int .i64 ((if d < n then 4 else 3 : Nat) : Int)]) ∧ Below W.heap.size W w') := HB
    clear HB
    go_enter Tryz.func7, Tryz.ntmps7
    go_wp2_with fail
    refine (HAL.out _ (Below.refl _ _)).mono ?_
    rintro r w1 ⟨rfl, b1⟩
    have B1 := Lib.hid (up_alloc b1 (.cells #[.string ⟨#[91]⟩, .string ⟨#[129]⟩, .string ⟨#[145]⟩] 9))
    clear b1
    go_wp2
    go_loopw [10, 11] (fun vd vi wr => ∃ (k : Nat), vd = .string (repB 145 k) ∧ vi = .int .i64 k ∧ k ≤ n ∧ Hid (Below w.heap.size w wr)) (fun _ vi _ => n - (RowKit.intOf vi).toNat)
    case atStart => exact ⟨0, rfl, rfl, by omega, B1⟩
    case round =>
      obtain ⟨k, rfl, rfl, hk, HK⟩ := hrel
      by_cases hlt : k < n
      · have hs := repB_size 145 k
        have hs2 : (repB 145 k ++ ⟨#[145]⟩ : ByteArray).size ≤ 100 := by rw [repB_succ, repB_size]; omega
        have hq := Lib.hid (repB_succ 145 k)
        go_wp2
        refine ⟨⟨k + 1, congrArg _ hq.out, rfl, hlt, HK⟩, ?_⟩
        simp [RowKit.intOf]
        omega
      · have hkn : k = n := by omega
        subst hkn
        by_cases hdn : d < k
        · rw [if_pos hdn] at HB'
          go_wp2_with fail
          refine (HB'.out _ HK.out).mono ?_
          rintro r w2 ⟨rfl, b2⟩
          have B2 := Lib.hid (up_trans HK.out b2)
          clear b2
          go_wp2
          go_ret
          exact ⟨rfl, B2.out⟩
        · rw [if_neg hdn] at HB'
          go_wp2_with fail
          refine (HB'.out _ HK.out).mono ?_
          rintro r w2 ⟨rfl, b2⟩
          have B2 := Lib.hid (up_trans HK.out b2)
          clear b2
          go_wp2
          go_ret
          exact ⟨rfl, B2.out⟩
end Go.Proofs.YtkgconbdmnmbnaaGreat
