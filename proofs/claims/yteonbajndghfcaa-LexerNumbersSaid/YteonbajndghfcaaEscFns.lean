/-
  CONTRACTS of the small functions of package escape: hexDigit, meant, mayPair.
-/
import Derived.Test.YteonbajndghfcaaKit
import Derived.Test.YteonbajndghfcaaEscPure
namespace Go.Proofs.Yteonbajndghfcaa
open Go.RowKit
open Go.Lib
/-- hexDigit: value and whether it is one. -/
def hexR (b : Nat) : Nat × Bool := match hexV b with
  | some d => (d, true)
  | none => (0, false)
theorem hexV_lt {b d : Nat} (h : hexV b = some d) : d < 16 ∧ b < 128 ∧ 48 ≤ b := by
  unfold hexV at h
  repeat' split at h
  all_goals first | (simp only [Option.some.injEq] at h; omega) | (cases h)
set_option maxHeartbeats 800000 in
theorem hexDigit_any (x : Nat) (w : World) :
    Calls Try.prog 45 #[.int .u8 x] w fun e w' => e = .returned (.tuple #[.int .i64 (hexR x).1, .bool (hexR x).2]) ∧ w = w' := by
  by_cases a1 : (48 : Int) ≤ x
  · by_cases a2 : (x : Int) ≤ 57
    · have he : hexR x = (x - 48, true) := by unfold hexR hexV; rw [if_pos (by omega)]
      rw [he, show ((x - 48 : Nat) : Int) = (x : Int) - 48 by omega]
      clear he
      go_enter Try.func45, Try.ntmps45
      go_wp2
      go_ret2
      exact ⟨rfl, rfl⟩
    by_cases b1 : (97 : Int) ≤ x
    · have n65 : (65 : Int) ≤ x := by omega
      have n70 : ¬ (x : Int) ≤ 70 := by omega
      by_cases b2 : (x : Int) ≤ 102
      · have he : hexR x = (x - 87, true) := by unfold hexR hexV; rw [if_neg (by omega), if_pos (by omega)]
        rw [he, show ((x - 87 : Nat) : Int) = (x : Int) - 97 + 10 by omega]
        clear he
        go_enter Try.func45, Try.ntmps45
        go_wp2
        go_ret2
        exact ⟨rfl, rfl⟩
      · have he : hexR x = (0, false) := by unfold hexR hexV; rw [if_neg (by omega), if_neg (by omega), if_neg (by omega)]
        rw [he]
        clear he
        go_enter Try.func45, Try.ntmps45
        go_wp2
        go_ret2
        exact ⟨rfl, rfl⟩
    · by_cases c1 : (65 : Int) ≤ x
      · by_cases c2 : (x : Int) ≤ 70
        · have he : hexR x = (x - 55, true) := by unfold hexR hexV; rw [if_neg (by omega), if_neg (by omega), if_pos (by omega)]
          rw [he, show ((x - 55 : Nat) : Int) = (x : Int) - 65 + 10 by omega]
          clear he
          go_enter Try.func45, Try.ntmps45
          go_wp2
          go_ret2
          exact ⟨rfl, rfl⟩
        · have he : hexR x = (0, false) := by unfold hexR hexV; rw [if_neg (by omega), if_neg (by omega), if_neg (by omega)]
          rw [he]
          clear he
          go_enter Try.func45, Try.ntmps45
          go_wp2
          go_ret2
          exact ⟨rfl, rfl⟩
      · have he : hexR x = (0, false) := by unfold hexR hexV; rw [if_neg (by omega), if_neg (by omega), if_neg (by omega)]
        rw [he]
        clear he
        go_enter Try.func45, Try.ntmps45
        go_wp2
        go_ret2
        exact ⟨rfl, rfl⟩
  · have b1 : ¬ (97 : Int) ≤ x := by omega
    have c1 : ¬ (65 : Int) ≤ x := by omega
    have he : hexR x = (0, false) := by unfold hexR hexV; rw [if_neg (by omega), if_neg (by omega), if_neg (by omega)]
    rw [he]
    clear he
    go_enter Try.func45, Try.ntmps45
    go_wp2
    go_ret2
    exact ⟨rfl, rfl⟩
/-- What a byte behind a backslash stands for by itself; nothing: for none. -/
def shortL (b : Nat) : List UInt8 := match shortOf b with
  | some c => [UInt8.ofNat c]
  | none => []
theorem shortL_none {b : Nat} (h1 : b ≠ 34) (h2 : b ≠ 92) (h3 : b ≠ 47) (h4 : b ≠ 98) (h5 : b ≠ 102) (h6 : b ≠ 110) (h7 : b ≠ 114) (h8 : b ≠ 116) : shortOf b = none := by
  unfold shortOf
  rw [if_neg (by omega), if_neg h4, if_neg h5, if_neg h6, if_neg h7, if_neg h8]
set_option maxHeartbeats 800000 in
theorem meant_any (x : Nat) (w : World) :
    Calls Try.prog 48 #[.int .u8 x] w fun e w' => e = .returned (.string ⟨(shortL x).toArray⟩) ∧ w = w' := by
  by_cases a1 : x = 34
  · subst a1
    go_enter Try.func48, Try.ntmps48
    go_wp2
    go_ret
    exact ⟨rfl, rfl⟩
  by_cases a2 : x = 92
  · subst a2
    go_enter Try.func48, Try.ntmps48
    go_wp2
    go_ret
    exact ⟨rfl, rfl⟩
  by_cases a3 : x = 47
  · subst a3
    go_enter Try.func48, Try.ntmps48
    go_wp2
    go_ret
    exact ⟨rfl, rfl⟩
  by_cases a4 : x = 98
  · subst a4
    go_enter Try.func48, Try.ntmps48
    go_wp2
    go_ret
    exact ⟨rfl, rfl⟩
  by_cases a5 : x = 102
  · subst a5
    go_enter Try.func48, Try.ntmps48
    go_wp2
    go_ret
    exact ⟨rfl, rfl⟩
  by_cases a6 : x = 110
  · subst a6
    go_enter Try.func48, Try.ntmps48
    go_wp2
    go_ret
    exact ⟨rfl, rfl⟩
  by_cases a7 : x = 114
  · subst a7
    go_enter Try.func48, Try.ntmps48
    go_wp2
    go_ret
    exact ⟨rfl, rfl⟩
  by_cases a8 : x = 116
  · subst a8
    go_enter Try.func48, Try.ntmps48
    go_wp2
    go_ret
    exact ⟨rfl, rfl⟩
  have he : shortL x = [] := by unfold shortL; rw [shortL_none a1 a2 a3 a4 a5 a6 a7 a8]
  rw [he]
  have z1 : ((x : Int) == 34) = false := by rw [beq_eq_false_iff_ne]; omega
  have z2 : ((x : Int) == 92) = false := by rw [beq_eq_false_iff_ne]; omega
  have z3 : ((x : Int) == 47) = false := by rw [beq_eq_false_iff_ne]; omega
  have z4 : ((x : Int) == 98) = false := by rw [beq_eq_false_iff_ne]; omega
  have z5 : ((x : Int) == 102) = false := by rw [beq_eq_false_iff_ne]; omega
  have z6 : ((x : Int) == 110) = false := by rw [beq_eq_false_iff_ne]; omega
  have z7 : ((x : Int) == 114) = false := by rw [beq_eq_false_iff_ne]; omega
  have z8 : ((x : Int) == 116) = false := by rw [beq_eq_false_iff_ne]; omega
  clear a1 a2 a3 a4 a5 a6 a7 a8 he
  go_enter Try.func48, Try.ntmps48
  go_wp2
  go_ret
  exact ⟨rfl, rfl⟩
/-- lowOk by what hexDigit tells. -/
def lowQ (k b : Nat) : Bool := if k = 0 then b == 92 else if k = 1 then b == 117 else if k = 2 then (hexR b).2 && decide ((hexR b).1 = 13) else if k = 3 then (hexR b).2 && decide (12 ≤ (hexR b).1) else (hexR b).2
theorem lowOk_is (k b : Nat) : lowOk k b = lowQ k b := by
  unfold lowOk lowQ hexR
  match k with
  | 0 => rfl
  | 1 => rfl
  | 2 =>
    show (b == 100 || b == 68) = _
    simp only [show ¬ (2 = 0) by decide, show ¬ (2 = 1) by decide, if_true, if_false]
    unfold hexV
    by_cases h1 : b = 100
    · subst h1; rfl
    by_cases h2 : b = 68
    · subst h2; rfl
    have e1 : (b == 100) = false := by rw [beq_eq_false_iff_ne]; exact h1
    have e2 : (b == 68) = false := by rw [beq_eq_false_iff_ne]; exact h2
    rw [e1, e2]
    split <;> rename_i hh
    · repeat' split at hh
      all_goals first | (simp only [Option.some.injEq] at hh; simp; omega) | (cases hh)
    · rfl
  | 3 =>
    simp only [show ¬ (3 = 0) by decide, show ¬ (3 = 1) by decide, show ¬ (3 = 2) by decide, if_true, if_false]
    cases hexV b <;> simp
  | k + 4 =>
    rw [if_neg (by omega), if_neg (by omega), if_neg (by omega), if_neg (by omega)]
    show (hexV b).isSome = _
    cases hexV b <;> rfl
set_option maxHeartbeats 800000 in
theorem mayPair_any (k x : Nat) (w : World) :
    Calls Try.prog 39 #[.int .i64 k, .int .u8 x] w fun e w' => e = .returned (.bool (lowOk k x)) ∧ w = w' := by
  have hH := Lib.hid (hexDigit_any x)
  rw [lowOk_is]
  unfold lowQ
  generalize hexR x = p at *
  obtain ⟨d, q⟩ := p
  simp only []
  by_cases k0 : k = 0
  · subst k0
    have e : (x == 92) = ((x : Int) == 92) := by rw [Bool.eq_iff_iff]; simp; omega
    rw [if_pos rfl, e]
    go_enter Try.func39, Try.ntmps39
    go_wp2_with fail
    refine (hH.out _).mono ?_
    rintro e w' ⟨rfl, rfl⟩
    go_wp2
    go_ret
    exact ⟨rfl, rfl⟩
  rw [if_neg k0]
  have z0 : ((k : Int) == 0) = false := by rw [beq_eq_false_iff_ne]; omega
  by_cases k1 : k = 1
  · subst k1
    have e : (x == 117) = ((x : Int) == 117) := by rw [Bool.eq_iff_iff]; simp; omega
    rw [if_pos rfl, e]
    go_enter Try.func39, Try.ntmps39
    go_wp2_with fail
    refine (hH.out _).mono ?_
    rintro e w' ⟨rfl, rfl⟩
    go_wp2
    go_ret
    exact ⟨rfl, rfl⟩
  rw [if_neg k1]
  have z1 : ((k : Int) == 1) = false := by rw [beq_eq_false_iff_ne]; omega
  by_cases k2 : k = 2
  · subst k2
    rw [if_pos rfl]
    cases q with
    | false =>
      go_enter Try.func39, Try.ntmps39
      go_wp2_with fail
      refine (hH.out _).mono ?_
      rintro e w' ⟨rfl, rfl⟩
      go_wp2
      go_ret
      exact ⟨rfl, rfl⟩
    | true =>
      have e : (true && decide (d = 13)) = ((d : Int) == 13) := by rw [Bool.eq_iff_iff]; simp; omega
      rw [e]
      go_enter Try.func39, Try.ntmps39
      go_wp2_with fail
      refine (hH.out _).mono ?_
      rintro e w' ⟨rfl, rfl⟩
      go_wp2
      go_ret
      exact ⟨rfl, rfl⟩
  rw [if_neg k2]
  have z2 : ((k : Int) == 2) = false := by rw [beq_eq_false_iff_ne]; omega
  by_cases k3 : k = 3
  · subst k3
    rw [if_pos rfl]
    cases q with
    | false =>
      go_enter Try.func39, Try.ntmps39
      go_wp2_with fail
      refine (hH.out _).mono ?_
      rintro e w' ⟨rfl, rfl⟩
      go_wp2
      go_ret
      exact ⟨rfl, rfl⟩
    | true =>
      have e : (true && decide (12 ≤ d)) = decide ((12 : Int) ≤ (d : Int)) := by rw [Bool.eq_iff_iff]; simp; omega
      rw [e]
      go_enter Try.func39, Try.ntmps39
      go_wp2_with fail
      refine (hH.out _).mono ?_
      rintro e w' ⟨rfl, rfl⟩
      go_wp2
      go_ret
      exact ⟨rfl, rfl⟩
  rw [if_neg k3]
  have z3 : ((k : Int) == 3) = false := by rw [beq_eq_false_iff_ne]; omega
  go_enter Try.func39, Try.ntmps39
  go_wp2_with fail
  refine (hH.out _).mono ?_
  rintro e w' ⟨rfl, rfl⟩
  go_wp2
  go_ret
  exact ⟨rfl, rfl⟩
end Go.Proofs.Yteonbajndghfcaa
