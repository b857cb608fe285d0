/-
  PackinLong, over the program as it landed.
-/
import Derived.Test.YtebnhelejebobaaHPinLonA
import Derived.Test.YtebnhelejebobaaHPinLonB
import Derived.Test.YtebnhelejebobaaHPinLonC
import Derived.Test.YtebnhelejebobaaG3a
/-
  LAWS of chapter 15, over PinAll: PackinLong.
-/
namespace Go.Proofs.Ytebnhelejebobaa
open Go.RowKit
open Go.Lib
set_option maxRecDepth 100000 in
set_option maxHeartbeats 8000000 in
theorem plong_out (H : PinAll) (s : ByteArray) (n F : Int) (w : World) (h : (100 < s.size) ∨ (s.size ≤ 100 ∧ validD s.data.toList = false) ∨ (s.size ≤ 100 ∧ validD s.data.toList = true ∧ n < 0) ∨ (s.size ≤ 100 ∧ validD s.data.toList = true ∧ 0 ≤ n ∧ 15 < n)) :
    Calls Try.prog 10 #[.string s, .int .i64 n, .int .i64 F] w fun r w' => r = .returned (.bool true) ∧ Below w.heap.size w w' := by
  have HA := Lib.hid (palive_any H w)
  rcases h with h | ⟨h, h2⟩ | ⟨h, h2, h3⟩ | ⟨h, h2, h3, h4⟩
  · have t1 : ((100 : Int) < (s.size : Int)) = True := by simp; omega
    clear h
    go_enter Try.func10, Try.ntmps10
    go_wp2_with fail
    refine HA.out.mono ?_
    rintro r w1 ⟨rfl, b1⟩
    have B1 := Lib.hid b1
    clear b1
    go_wp2
    go_ret
    exact ⟨rfl, B1.out⟩
  · have t1 : ((100 : Int) < (s.size : Int)) = False := by simp; omega
    have hVV := refvalid_any s w (by omega)
    rw [h2] at hVV
    have HV := Lib.hid hVV
    clear h h2 hVV
    go_enter Try.func10, Try.ntmps10
    go_wp2_with fail
    refine HV.out.mono ?_
    rintro r w0 ⟨rfl, rfl⟩
    go_wp2_with fail
    refine HA.out.mono ?_
    rintro r w1 ⟨rfl, b1⟩
    have B1 := Lib.hid b1
    clear b1
    go_wp2
    go_ret
    exact ⟨rfl, B1.out⟩
  · have t1 : ((100 : Int) < (s.size : Int)) = False := by simp; omega
    have hVV := refvalid_any s w (by omega)
    rw [h2] at hVV
    have HV := Lib.hid hVV
    have t2 : (n < 0) = True := eq_true h3
    clear h h2 h3 hVV
    go_enter Try.func10, Try.ntmps10
    go_wp2_with fail
    refine HV.out.mono ?_
    rintro r w0 ⟨rfl, rfl⟩
    go_wp2_with fail
    refine HA.out.mono ?_
    rintro r w1 ⟨rfl, b1⟩
    have B1 := Lib.hid b1
    clear b1
    go_wp2
    go_ret
    exact ⟨rfl, B1.out⟩
  · have t1 : ((100 : Int) < (s.size : Int)) = False := by simp; omega
    have hVV := refvalid_any s w (by omega)
    rw [h2] at hVV
    have HV := Lib.hid hVV
    have t2 : (n < 0) = False := eq_false (by omega)
    have t3 : ((15 : Int) < n) = True := eq_true h4
    clear h h2 h3 h4 hVV
    go_enter Try.func10, Try.ntmps10
    go_wp2_with fail
    refine HV.out.mono ?_
    rintro r w0 ⟨rfl, rfl⟩
    go_wp2_with fail
    refine HA.out.mono ?_
    rintro r w1 ⟨rfl, b1⟩
    have B1 := Lib.hid b1
    clear b1
    go_wp2
    go_ret
    exact ⟨rfl, B1.out⟩
theorem plong_row (H : PinAll) (s : ByteArray) (n F : Int) (w : World) :
    Calls Try.prog 10 #[.string s, .int .i64 n, .int .i64 F] w fun r w' => r = .returned (.bool true) ∧ Below w.heap.size w w' := by
  by_cases h1 : s.size ≤ 100
  · cases h2 : validD s.data.toList with
    | false => exact plong_out H s n F w (.inr (.inl ⟨h1, h2⟩))
    | true =>
      by_cases h3 : n < 0
      · exact plong_out H s n F w (.inr (.inr (.inl ⟨h1, h2, h3⟩)))
      by_cases h4 : 15 < n
      · exact plong_out H s n F w (.inr (.inr (.inr ⟨h1, h2, by omega, h4⟩)))
      · obtain ⟨N, rfl⟩ : ∃ N : Nat, n = N := ⟨n.toNat, by omega⟩
        have hF := mod3_ref F
        obtain ⟨f, hf⟩ : ∃ f, (F % 3).toNat = f := ⟨_, rfl⟩
        have hf3 : f < 3 := by omega
        rw [hf] at hF
        clear hf
        have hc : f = 0 ∨ f = 1 ∨ f = 2 := by omega
        rcases hc with rfl | rfl | rfl
        · exact plong_0 H s N F w h1 h2 (by omega) hF
        · exact plong_1 H s N F w h1 h2 (by omega) hF
        · exact plong_2 H s N F w h1 h2 (by omega) hF
  · exact plong_out H s n F w (.inl (by omega))
end Go.Proofs.Ytebnhelejebobaa
/-
  PackinLong, over the program as it landed.
-/
namespace Go.Proofs.Ytebnhelejebobaa
open Go.RowKit
open Go.Lib
theorem plong_end (s : ByteArray) (n F : Int) (w : World) : Calls Try.prog 10 #[.string s, .int .i64 n, .int .i64 F] w fun r w' => r = .returned (.bool true) ∧ Below w.heap.size w w' := plong_row pall_any s n F w
end Go.Proofs.Ytebnhelejebobaa
