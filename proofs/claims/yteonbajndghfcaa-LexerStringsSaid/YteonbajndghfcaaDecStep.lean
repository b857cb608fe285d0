/-
  CONTRACTS of decimal.Number: add, take, Step by the machine of DecPure.
-/
import Derived.Test.YteonbajndghfcaaDecNum
namespace Go.Proofs.Yteonbajndghfcaa
open Go.RowKit
open Go.Lib
theorem fits_zero {h l : Nat} (hf : Fits h l 0) : h = 0 ∧ l = 0 := by
  obtain ⟨_, _, h | h⟩ := hf <;> omega
theorem fits_step {h l v d : Nat} (hf : Fits h l v) (hh : h ≤ 1) (hd : d ≤ 9) : Fits (h * 10 + l * 10 / 18446744073709551616 + (l * 10 % 18446744073709551616 + d) / 18446744073709551616) ((l * 10 % 18446744073709551616 + d) % 18446744073709551616) (v * 10 + d) := by
  obtain ⟨h1, h2, h3⟩ := hf
  refine ⟨by omega, by omega, .inl ?_⟩
  omega
theorem fits_great {h l v d : Nat} (hf : Fits h l v) (hh : 2 ≤ h) : Fits h l (v * 10 + d) := by
  obtain ⟨h1, h2, h3⟩ := hf
  exact ⟨h1, h2, .inr ⟨hh, by omega⟩⟩
/-- add. -/
theorem add_at {w : World} {b o : Nat} {p : Nat} {m : Bool} {v x : Nat} (hp : p ≠ 2) (hx : 48 ≤ x ∧ x ≤ 57) (h : DAt w b o (.num p m v)) :
    Calls Try.prog 44 #[.pointer (some ⟨b, o, none⟩), .int .u8 x] w fun e w' => e = .returned (.tuple #[]) ∧ DPost w b o (stepD (.num p m v) x).1 w' := by
  obtain ⟨hw, hi, lo, hA, hf⟩ := h
  have hwf := wf_stepD (.num p m v) x hw
  obtain ⟨h1, h2, h3, h4, h5⟩ := hw
  simp only [stepD] at hwf ⊢
  rw [if_neg (by omega), if_pos ⟨hx, hp⟩] at hwf ⊢
  by_cases hz : x = 48 ∧ p < 2
  · obtain ⟨rfl, hp2⟩ := hz
    rw [if_pos ⟨by trivial, hp2⟩] at hwf ⊢
    refine (add_zero hp2 hA).mono ?_
    rintro e w' ⟨rfl, hA', hS⟩
    exact ⟨rfl, ⟨hwf, hi, lo, hA', hf⟩, hS⟩
  · rw [if_neg hz] at hwf ⊢
    by_cases hg : 1 < hi
    · refine (add_great (by omega) (by omega) hg hA).mono ?_
      rintro e w' ⟨rfl, hA', hS⟩
      exact ⟨rfl, ⟨hwf, hi, lo, hA', fits_great hf (by omega)⟩, hS⟩
    · refine (add_digit (d := x - 48) (by omega) (by omega) (by omega) (by omega) (by omega) hf.2.1 hA).mono ?_
      rintro e w' ⟨rfl, hA', hS⟩
      exact ⟨rfl, ⟨hwf, _, _, hA', fits_step hf (by omega) (by omega)⟩, hS⟩
theorem nm_set21 {w : World} {b o : Nat} {e p : Nat} {m : Bool} {h l : Nat} (hA : At w b o (nmCells e p m h l)) :
    At ((w.setCell ⟨b, o + 2, none⟩ (.bool true)).setCell ⟨b, o + 1, none⟩ (.int .i64 1)) b o (nmCells e 1 true h l) ∧
    Sub b o 5 w ((w.setCell ⟨b, o + 2, none⟩ (.bool true)).setCell ⟨b, o + 1, none⟩ (.int .i64 1)) :=
  ⟨(hA.set 2 (by simp [nmCells]) (.bool true)).set 1 (by simp [nmCells]) (.int .i64 1), (sub_setCell w (o + 2) _ (by omega)).setCell (o + 1) _ (by omega)⟩
set_option maxHeartbeats 1000000 in
theorem take_minus {w : World} {b o : Nat} {m : Bool} {v : Nat} (h : DAt w b o (.num 0 m v)) :
    Calls Try.prog 36 #[.pointer (some ⟨b, o, none⟩), .int .u8 45] w fun e w' => e = .returned (.tuple #[.bool true, .int .i64 0]) ∧ DPost w b o (.num 1 true v) w' := by
  obtain ⟨hw, hi, lo, hA, hf⟩ := h
  have hwf : WfD (.num 1 true v) := ⟨by omega, fun _ => hw.2.1 (by omega), by omega, by omega, fun _ => rfl⟩
  obtain ⟨_, ⟨hc1, hf1⟩, ⟨hc2, hf2⟩, _⟩ := hA.five
  obtain ⟨k1, k2⟩ := nm_set21 hA
  have HP : Hid (DPost w b o (.num 1 true v) _) := Lib.hid ⟨⟨hwf, hi, lo, k1, hf⟩, k2⟩
  clear hA hw hwf hf k1 k2
  go_enter Try.func36, Try.ntmps36
  go_wp2
  go_ret2
  exact ⟨rfl, HP.out⟩
set_option maxHeartbeats 1000000 in
theorem dtake_digit {w : World} {b o : Nat} {p : Nat} {m : Bool} {v x : Nat} (hp : p ≠ 2) (hx : 48 ≤ x ∧ x ≤ 57) (h : DAt w b o (.num p m v)) :
    Calls Try.prog 36 #[.pointer (some ⟨b, o, none⟩), .int .u8 x] w fun e w' => e = .returned (.tuple #[.bool true, .int .i64 0]) ∧ DPost w b o (stepD (.num p m v) x).1 w' := by
  have HA := Lib.hid (add_at hp hx h)
  have HI := Lib.hid (isDigit_any x true (by simp; omega))
  obtain ⟨_, hi, lo, hA, _⟩ := h
  obtain ⟨_, ⟨hc1, _⟩, _⟩ := hA.five
  have hz : ((x : Int) == 45) = false := by rw [beq_eq_false_iff_ne]; omega
  have hz2 : ((p : Int) != 2) = true := by simp; omega
  clear hA hx hp
  go_enter Try.func36, Try.ntmps36
  go_wp2_with fail
  refine (HI.out _).mono ?_
  rintro e w1 ⟨rfl, rfl⟩
  go_wp2_with fail
  refine HA.out.mono ?_
  rintro e w1 ⟨rfl, hP⟩
  have HP := Lib.hid hP
  clear hP
  go_wp2
  go_ret2
  exact ⟨rfl, HP.out⟩
set_option maxHeartbeats 2000000 in
/-- take: a digit behind a first 0. -/
theorem take_behind {w : World} {b o : Nat} {x : Nat} (hc1 : w.cell? ⟨b, o + 1, none⟩ = some (.int .i64 2)) (hx : 48 ≤ x ∧ x ≤ 57) :
    Calls Try.prog 36 #[.pointer (some ⟨b, o, none⟩), .int .u8 x] w fun r w' => r = .returned (.tuple #[.bool false, .int .i64 2]) ∧ w = w' := by
  have HI := Lib.hid (isDigit_any x true (by simp; omega))
  have hz : ((x : Int) == 45) = false := by rw [beq_eq_false_iff_ne]; omega
  clear hx
  go_enter Try.func36, Try.ntmps36
  go_wp2_with fail
  refine (HI.out _).mono ?_
  rintro r w1 ⟨rfl, rfl⟩
  go_wp2_with fail
  refine (HI.out _).mono ?_
  rintro r w1 ⟨rfl, rfl⟩
  go_wp2
  go_ret2
  exact ⟨rfl, rfl⟩
set_option maxHeartbeats 2000000 in
/-- take: no digit, ahead of the first one. -/
theorem take_ahead {w : World} {b o : Nat} {p x : Nat} (hc1 : w.cell? ⟨b, o + 1, none⟩ = some (.int .i64 p)) (hp : p < 2) (hx : ¬ (48 ≤ x ∧ x ≤ 57)) (h45 : ¬ (x = 45 ∧ p = 0)) :
    Calls Try.prog 36 #[.pointer (some ⟨b, o, none⟩), .int .u8 x] w fun r w' => r = .returned (.tuple #[.bool false, .int .i64 2]) ∧ w = w' := by
  have HI := Lib.hid (isDigit_any x false (by simp; omega))
  have HH := Lib.hid (has_at p (by omega) hc1 false (by simp; omega))
  by_cases h : x = 45
  · subst h
    obtain rfl : p = 1 := by omega
    clear hx hp h45
    go_enter Try.func36, Try.ntmps36
    go_wp2_with fail
    refine (HI.out _).mono ?_
    rintro r w1 ⟨rfl, rfl⟩
    go_wp2_with fail
    refine (HI.out _).mono ?_
    rintro r w1 ⟨rfl, rfl⟩
    go_wp2_with fail
    refine HH.out.mono ?_
    rintro r w1 ⟨rfl, rfl⟩
    go_wp2
    go_ret2
    exact ⟨rfl, rfl⟩
  · have hz : ((x : Int) == 45) = false := by rw [beq_eq_false_iff_ne]; omega
    clear hx hp h45 h
    go_enter Try.func36, Try.ntmps36
    go_wp2_with fail
    refine (HI.out _).mono ?_
    rintro r w1 ⟨rfl, rfl⟩
    go_wp2_with fail
    refine (HI.out _).mono ?_
    rintro r w1 ⟨rfl, rfl⟩
    go_wp2_with fail
    refine HH.out.mono ?_
    rintro r w1 ⟨rfl, rfl⟩
    go_wp2
    go_ret2
    exact ⟨rfl, rfl⟩
set_option maxHeartbeats 4000000 in
/-- take: no digit, behind one. -/
theorem dtake_end {w : World} {b o : Nat} {p x : Nat} (hc1 : w.cell? ⟨b, o + 1, none⟩ = some (.int .i64 p)) (hp : p = 2 ∨ p = 3) (hx : ¬ (48 ≤ x ∧ x ≤ 57)) (e : Nat) (he : e = if x = 46 ∨ x = 101 ∨ x = 69 then 6 else 0) :
    Calls Try.prog 36 #[.pointer (some ⟨b, o, none⟩), .int .u8 x] w fun r w' => r = .returned (.tuple #[.bool false, .int .i64 e]) ∧ w = w' := by
  have HI := Lib.hid (isDigit_any x false (by simp; omega))
  have HH := Lib.hid (has_at p (by omega) hc1 true (by simp; omega))
  by_cases a1 : x = 46
  · obtain rfl : e = 6 := by rw [he, if_pos (by omega)]
    clear he hx
    subst a1
    rcases hp with rfl | rfl
    all_goals
      go_enter Try.func36, Try.ntmps36
      go_wp2_with fail
      refine (HI.out _).mono ?_
      rintro r w1 ⟨rfl, rfl⟩
      go_wp2_with fail
      refine (HI.out _).mono ?_
      rintro r w1 ⟨rfl, rfl⟩
      go_wp2_with fail
      refine HH.out.mono ?_
      rintro r w1 ⟨rfl, rfl⟩
      go_wp2
      go_ret2
      exact ⟨rfl, rfl⟩
  by_cases a2 : x = 101
  · obtain rfl : e = 6 := by rw [he, if_pos (by omega)]
    clear he hx a1
    subst a2
    rcases hp with rfl | rfl
    all_goals
      go_enter Try.func36, Try.ntmps36
      go_wp2_with fail
      refine (HI.out _).mono ?_
      rintro r w1 ⟨rfl, rfl⟩
      go_wp2_with fail
      refine (HI.out _).mono ?_
      rintro r w1 ⟨rfl, rfl⟩
      go_wp2_with fail
      refine HH.out.mono ?_
      rintro r w1 ⟨rfl, rfl⟩
      go_wp2
      go_ret2
      exact ⟨rfl, rfl⟩
  by_cases a3 : x = 69
  · obtain rfl : e = 6 := by rw [he, if_pos (by omega)]
    clear he hx a1 a2
    subst a3
    rcases hp with rfl | rfl
    all_goals
      go_enter Try.func36, Try.ntmps36
      go_wp2_with fail
      refine (HI.out _).mono ?_
      rintro r w1 ⟨rfl, rfl⟩
      go_wp2_with fail
      refine (HI.out _).mono ?_
      rintro r w1 ⟨rfl, rfl⟩
      go_wp2_with fail
      refine HH.out.mono ?_
      rintro r w1 ⟨rfl, rfl⟩
      go_wp2
      go_ret2
      exact ⟨rfl, rfl⟩
  obtain rfl : e = 0 := by rw [he, if_neg (by omega)]
  have z1 : ((x : Int) == 46) = false := by rw [beq_eq_false_iff_ne]; omega
  have z2 : ((x : Int) == 101) = false := by rw [beq_eq_false_iff_ne]; omega
  have z3 : ((x : Int) == 69) = false := by rw [beq_eq_false_iff_ne]; omega
  clear he hx a1 a2 a3
  by_cases a4 : x = 45
  · subst a4
    clear z1 z2 z3
    rcases hp with rfl | rfl
    all_goals
      go_enter Try.func36, Try.ntmps36
      go_wp2_with fail
      refine (HI.out _).mono ?_
      rintro r w1 ⟨rfl, rfl⟩
      go_wp2_with fail
      refine (HI.out _).mono ?_
      rintro r w1 ⟨rfl, rfl⟩
      go_wp2_with fail
      refine HH.out.mono ?_
      rintro r w1 ⟨rfl, rfl⟩
      go_wp2
      go_ret2
      exact ⟨rfl, rfl⟩
  · have z4 : ((x : Int) == 45) = false := by rw [beq_eq_false_iff_ne]; omega
    clear a4
    rcases hp with rfl | rfl
    all_goals
      go_enter Try.func36, Try.ntmps36
      go_wp2_with fail
      refine (HI.out _).mono ?_
      rintro r w1 ⟨rfl, rfl⟩
      go_wp2_with fail
      refine (HI.out _).mono ?_
      rintro r w1 ⟨rfl, rfl⟩
      go_wp2_with fail
      refine HH.out.mono ?_
      rintro r w1 ⟨rfl, rfl⟩
      go_wp2
      go_ret2
      exact ⟨rfl, rfl⟩
/-- A byte that is neither taken nor changes anything. -/
theorem take_none {w : World} {b o : Nat} {p : Nat} {m : Bool} {v x : Nat} (h : DAt w b o (.num p m v)) (h1 : ¬ (x = 45 ∧ p = 0)) (h2 : ¬ ((48 ≤ x ∧ x ≤ 57) ∧ p ≠ 2)) (e : Nat) (he : e = errD (stepD (.num p m v) x).1) :
    Calls Try.prog 36 #[.pointer (some ⟨b, o, none⟩), .int .u8 x] w fun r w' => r = .returned (.tuple #[.bool false, .int .i64 e]) ∧ w = w' := by
  obtain ⟨hw, hi, lo, hA, _⟩ := h
  obtain ⟨hp3, _⟩ := hw
  obtain ⟨_, ⟨hc1, _⟩, _⟩ := hA.five
  clear hA
  simp only [stepD] at he
  rw [if_neg h1, if_neg h2] at he
  by_cases hd : 48 ≤ x ∧ x ≤ 57
  · obtain rfl : p = 2 := by omega
    rw [if_pos (.inl hd)] at he
    subst he
    exact take_behind hc1 hd
  · by_cases hp : p < 2
    · rw [if_pos (.inr hp)] at he
      subst he
      exact take_ahead hc1 hp hd h1
    · rw [if_neg (by omega)] at he
      refine dtake_end hc1 (by omega) hd e ?_
      rw [he]
      split <;> rfl
end Go.Proofs.Yteonbajndghfcaa
