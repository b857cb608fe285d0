/-
  LAW of chapter 13: CborinDeep.
-/
import Derived.Test.YtgknpheefbfnlaaGj
import Derived.Test.YtgknpheefbfnlaaGa
/-
  LAWS of chapter 13, over CinAll: CborinDeep.
-/
namespace Go.Proofs.Ytgknpheefbfnlaa
open Go.RowKit
open Go.Lib
theorem deep_cases (n D : Nat) : (D < n ∧ ∃ L : List Ev, L.length = D ∧ allCi D (List.replicate n 129 ++ [5]) = (L, 4)) ∨ (¬ D < n ∧ ∃ L : List Ev, L.length = 2 * n + 1 ∧ allCi D (List.replicate n 129 ++ [5]) = (L, 0)) := by
  by_cases h : D < n
  · exact .inl ⟨h, _, by simp, deep_more D n h [5]⟩
  · exact .inr ⟨h, _, by simp; omega, deep_all D n (by omega)⟩
set_option maxRecDepth 100000 in
set_option maxHeartbeats 4000000 in
theorem cdeep_in (H : CinAll) (n D : Nat) (w : World) (hn : 1 ≤ n ∧ n ≤ 20) (hD : 1 ≤ D ∧ D ≤ 16) :
    Calls Try.prog 6 #[.int .i64 n, .int .i64 D] w fun r w' => r = .returned (.bool true) ∧ Below w.heap.size w w' := by
  have h1 : ((n : Int) < 1) = False := by simp; omega
  have h2 : ((20 : Int) < (n : Int)) = False := by simp; omega
  have h3 : ((D : Int) < 1) = False := by simp; omega
  have h4 : ((16 : Int) < (D : Int)) = False := by simp; omega
  have hn20 : n ≤ 20 := hn.2
  have HA := Lib.hid (calive_any H w)
  have HJ := Lib.hid (fun W => H (List.replicate n 129 ++ [5]) D hD (by simp; omega) W)
  have HU : Hid (∀ k : Nat, List.replicate (k + 1) (129 : UInt8) = List.replicate k 129 ++ [129]) := Lib.hid (fun k => List.replicate_succ')
  have HC := Lib.hid (deep_cases n D)
  clear hn hD
  go_enter Try.func6, Try.ntmps6
  go_wp2_with fail
  refine HA.out.mono ?_
  rintro r w1 ⟨rfl, b1⟩
  have B1 := Lib.hid b1
  clear b1
  go_wp2
  go_loopw [5, 6] (fun s i wr => ∃ (k : Nat) (X : ByteArray), s = .string X ∧ i = .int .i64 k ∧ k ≤ n ∧ Hid (X = ⟨(List.replicate k (129 : UInt8)).toArray⟩) ∧ Hid (Below w.heap.size w wr)) (fun _ i _ => n - (RowKit.intOf i).toNat)
  case atStart => exact ⟨0, ⟨#[]⟩, rfl, rfl, by omega, Lib.hid rfl, B1⟩
  case round =>
    obtain ⟨k, X, rfl, rfl, hk, HX, HWR⟩ := hrel
    have hzX : X.size = k := by rw [HX.out, size_of]; simp
    by_cases hlt : k < n
    · have hz5 : ¬ 9223372036854775807 < X.size + 1 := by omega
      have HY : Hid (X ++ ⟨([129] : List UInt8).toArray⟩ = ⟨(List.replicate (k + 1) (129 : UInt8)).toArray⟩) := Lib.hid (by rw [HX.out, HU.out]; exact cat_of _ _)
      clear hzX
      go_wp2
      go_roundw
      case rel => exact ⟨k + 1, _, rfl, rfl, hlt, HY, HWR⟩
      case measure => simp [RowKit.intOf]; omega
    · obtain rfl : k = n := by omega
      have HX1 : Hid (X ++ ⟨#[5]⟩ = ⟨(List.replicate k (129 : UInt8) ++ [5]).toArray⟩) := Lib.hid (by rw [HX.out]; exact cat_of _ _)
      have hz1 : ¬ 9223372036854775807 < X.size + 1 := by omega
      have HJQ := HJ.out
      rw [← HX1.out] at HJQ
      rcases HC.out with ⟨hd, L, hL, hall⟩ | ⟨hd, L, hL, hall⟩
      · rw [hall] at HJQ
        simp only [hL] at HJQ
        have HJJ := Lib.hid HJQ
        have hd2 : ((D : Int) < (k : Int)) = True := by simp; omega
        clear HJQ hd hL hall hzX
        go_wp2_with fail
        refine (HJJ.out _).mono ?_
        rintro r w2 ⟨u, rfl, hM⟩
        obtain ⟨a, cp, rfl, _, _⟩ := hM.2.1.slice_form
        have HM := Lib.hid (up_trans HWR.out hM.1)
        clear hM
        go_wp2
        go_ret
        exact ⟨rfl, HM.out⟩
      · rw [hall] at HJQ
        simp only [hL] at HJQ
        have HJJ := Lib.hid HJQ
        have hd2 : ((D : Int) < (k : Int)) = False := by simp; omega
        clear HJQ hd hL hall hzX
        go_wp2_with fail
        refine (HJJ.out _).mono ?_
        rintro r w2 ⟨u, rfl, hM⟩
        obtain ⟨a, cp, rfl, _, _⟩ := hM.2.1.slice_form
        have HM := Lib.hid (up_trans HWR.out hM.1)
        have hq : (((2 * k + 1 : Nat) : Int) == wrap64 (wrap64 (2 * (k : Int)) + 1)) = true := by rw [beq_iff_eq]; unfold wrap64; omega
        clear hM
        generalize ((2 * k + 1 : Nat) : Int) = N at *
        go_wp2
        go_ret
        exact ⟨rfl, HM.out⟩
theorem cdeep_out (H : CinAll) (n d : Int) (w : World) (h : ¬ (1 ≤ n ∧ n ≤ 20 ∧ 1 ≤ d ∧ d ≤ 16)) :
    Calls Try.prog 6 #[.int .i64 n, .int .i64 d] w fun r w' => r = .returned (.bool true) ∧ Below w.heap.size w w' := by
  have key : ∀ c1 c2 c3 c4 : Prop, (n < 1) = c1 → ((20 : Int) < n) = c2 → (d < 1) = c3 → ((16 : Int) < d) = c4 →
      (c1 = True ∨ c1 = False ∧ c2 = True ∨ c1 = False ∧ c2 = False ∧ c3 = True ∨ c1 = False ∧ c2 = False ∧ c3 = False ∧ c4 = True) →
      Calls Try.prog 6 #[.int .i64 n, .int .i64 d] w fun r w' => r = .returned (.bool true) ∧ Below w.heap.size w w' := by
    intro c1 c2 c3 c4 e1 e2 e3 e4 hc
    have HA := Lib.hid (calive_any H w)
    clear h
    rcases hc with rfl | ⟨rfl, rfl⟩ | ⟨rfl, rfl, rfl⟩ | ⟨rfl, rfl, rfl, rfl⟩
    all_goals
      go_enter Try.func6, Try.ntmps6
      go_wp2_with fail
      refine HA.out.mono ?_
      rintro r w1 ⟨rfl, b1⟩
      have B1 := Lib.hid b1
      clear b1
      go_wp2
      go_ret
      exact ⟨rfl, B1.out⟩
  refine key _ _ _ _ rfl rfl rfl rfl ?_
  by_cases h1 : n < 1
  · exact .inl (eq_true h1)
  by_cases h2 : 20 < n
  · exact .inr (.inl ⟨eq_false h1, eq_true h2⟩)
  by_cases h3 : d < 1
  · exact .inr (.inr (.inl ⟨eq_false h1, eq_false h2, eq_true h3⟩))
  · exact .inr (.inr (.inr ⟨eq_false h1, eq_false h2, eq_false h3, eq_true (by omega)⟩))
theorem cdeep_row (H : CinAll) (n d : Int) (w : World) :
    Calls Try.prog 6 #[.int .i64 n, .int .i64 d] w fun r w' => r = .returned (.bool true) ∧ Below w.heap.size w w' := by
  by_cases h : 1 ≤ n ∧ n ≤ 20 ∧ 1 ≤ d ∧ d ≤ 16
  · obtain ⟨N, rfl⟩ : ∃ N : Nat, n = N := ⟨n.toNat, by omega⟩
    obtain ⟨D, rfl⟩ : ∃ D : Nat, d = D := ⟨d.toNat, by omega⟩
    exact cdeep_in H N D w (by omega) (by omega)
  · exact cdeep_out H n d w h
end Go.Proofs.Ytgknpheefbfnlaa
