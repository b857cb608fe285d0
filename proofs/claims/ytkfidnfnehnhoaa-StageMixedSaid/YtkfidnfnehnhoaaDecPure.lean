/-
  NO PROGRAM NEEDED: the machine of decimal.Number over bytes; digits there and back; their order.
-/
import Derived.Lib.ItoaNum
import Derived.Test.YtkfidnfnehnhoaaWin
namespace Go.Proofs.Ytkfidnfnehnhoaa
open Go.Lib
/-- A Number: behind an error (true: a float; false: no form), or at a place (0 the beginning, 1 behind a minus, 2 behind a first 0, 3 behind another digit), with its minus and the number that its digits say. -/
inductive Dec
  | bad (f : Bool)
  | num (p : Nat) (m : Bool) (v : Nat)
/-- What a byte does, and whether it is taken. -/
def stepD : Dec → Nat → Dec × Bool
  | .bad f, _ => (.bad f, false)
  | .num p m v, b =>
    if b = 45 ∧ p = 0 then (.num 1 true v, true)
    else if (48 ≤ b ∧ b ≤ 57) ∧ p ≠ 2 then (if b = 48 ∧ p < 2 then (.num 2 m v, true) else (.num 3 m (v * 10 + (b - 48)), true))
    else if (48 ≤ b ∧ b ≤ 57) ∨ p < 2 then (.bad false, false)
    else if b = 46 ∨ b = 101 ∨ b = 69 then (.bad true, false)
    else (.num p m v, false)
def errD : Dec → Nat
  | .bad true => 6
  | .bad false => 2
  | .num _ _ _ => 0
def WfD : Dec → Prop
  | .bad _ => True
  | .num p m v => p ≤ 3 ∧ (p ≤ 2 → v = 0) ∧ (p = 3 → 1 ≤ v) ∧ (p = 0 → m = false) ∧ (p = 1 → m = true)
theorem wf_stepD (s : Dec) (b : Nat) (h : WfD s) : WfD (stepD s b).1 := by
  cases s with
  | bad f => trivial
  | num p m v =>
    obtain ⟨h1, h2, h3, h4, h5⟩ := h
    simp only [stepD]
    split
    · exact ⟨by omega, fun _ => h2 (by omega), by omega, by omega, fun _ => rfl⟩
    · split
      · split
        · exact ⟨by omega, fun _ => h2 (by omega), by omega, by omega, by omega⟩
        · rename_i q1 q2 q3
          refine ⟨by omega, by omega, fun _ => ?_, by omega, by omega⟩
          by_cases h : p = 3
          · have := h3 h; omega
          · have := h2 (by omega); omega
      · split
        · trivial
        · split
          · trivial
          · exact ⟨h1, h2, h3, h4, h5⟩
/-- The end: whether below 0, the rest; the error. -/
def endD : Dec → (Bool × Nat) × Nat
  | .bad f => ((false, 0), errD (.bad f))
  | .num p m v =>
    if p < 2 then ((false, 0), 2)
    else if m = true ∧ p ≠ 2 then (if v ≤ 18446744073709551616 then ((true, v - 1), 0) else ((false, 0), 7))
    else if v < 18446744073709551616 then ((false, v), 0) else ((false, 0), 7)
/-- All of a text. -/
def parseD : Dec → List UInt8 → (Bool × Nat) × Nat
  | s, [] => endD s
  | s, b :: t =>
    if errD (stepD s b.toNat).1 = 0 then (if (stepD s b.toNat).2 then parseD (stepD s b.toNat).1 t else ((false, 0), 2))
    else ((false, 0), errD (stepD s b.toNat).1)
def d0 : Dec := .num 0 false 0
def printD (p : Bool × Nat) : List UInt8 := if p.1 then 45 :: decDigits (p.2 + 1) else decDigits p.2
theorem parse_taken {s s' : Dec} {b : UInt8} {t : List UInt8} (h : stepD s b.toNat = (s', true)) (he : errD s' = 0) : parseD s (b :: t) = parseD s' t := by
  rw [parseD, h]
  simp [he]
theorem parse_err {s : Dec} {b : UInt8} {t : List UInt8} {e : Nat} (he : errD (stepD s b.toNat).1 = e) (h : e ≠ 0) : parseD s (b :: t) = ((false, 0), e) := by
  rw [parseD, he, if_neg h]
/-- Digits. -/
theorem dig_toNat (d : Nat) (h : d < 10) : (UInt8.ofNat (48 + d)).toNat = 48 + d := by simp; omega
theorem dec_big {u : Nat} (h : 10 ≤ u) : decDigits u = decDigits (u / 10) ++ [UInt8.ofNat (48 + u % 10)] := by rw [decDigits, dif_neg (by omega)]
theorem dec_ne (u : Nat) : decDigits u ≠ [] := by
  intro h
  have := decDigits_length u
  have := nDigits_pos u
  rw [h] at *
  simp at *
  omega
theorem step_dig3 (m : Bool) (v d : Nat) (h : d < 10) : stepD (.num 3 m v) (UInt8.ofNat (48 + d)).toNat = (.num 3 m (v * 10 + d), true) := by
  rw [dig_toNat d h]
  simp only [stepD]
  rw [if_neg (by omega), if_pos ⟨by omega, by omega⟩, if_neg (by omega), show 48 + d - 48 = d by omega]
theorem step_dig1 (p : Nat) (m : Bool) (d : Nat) (h : d < 10) (hd : 1 ≤ d) (hp : p < 2) : stepD (.num p m 0) (UInt8.ofNat (48 + d)).toNat = (.num 3 m d, true) := by
  rw [dig_toNat d h]
  simp only [stepD]
  rw [if_neg (by omega), if_pos ⟨by omega, by omega⟩, if_neg (by omega), show 0 * 10 + (48 + d - 48) = d by omega]
theorem step_zero (p : Nat) (m : Bool) (hp : p < 2) : stepD (.num p m 0) 48 = (.num 2 m 0, true) := by
  simp only [stepD]
  rw [if_neg (by omega), if_pos ⟨by omega, by omega⟩, if_pos ⟨by trivial, hp⟩]
/-- All of whose bytes are taken. -/
inductive Runs : Dec → List UInt8 → Dec → Prop
  | nil (s : Dec) : Runs s [] s
  | cons {s s' r : Dec} {b : UInt8} {t : List UInt8} (h : stepD s b.toNat = (s', true)) (he : errD s' = 0) (k : Runs s' t r) : Runs s (b :: t) r
theorem Runs.append {s r q : Dec} {l k : List UInt8} (h : Runs s l r) (g : Runs r k q) : Runs s (l ++ k) q := by
  induction h with
  | nil s => exact g
  | cons h he _ ih => exact .cons h he (ih g)
theorem Runs.parse {s r : Dec} {l : List UInt8} (h : Runs s l r) (t : List UInt8) : parseD s (l ++ t) = parseD r t := by
  induction h with
  | nil s => rfl
  | cons h he _ ih => rw [List.cons_append, parse_taken h he, ih]
theorem Runs.all {s r : Dec} {l : List UInt8} (h : Runs s l r) : parseD s l = endD r := by
  have := h.parse []
  rw [List.append_nil] at this
  rw [this]
  rfl
theorem runs_one {s s' : Dec} {b : UInt8} (h : stepD s b.toNat = (s', true)) (he : errD s' = 0) : Runs s [b] s' := .cons h he (.nil _)
theorem runs_digits (p : Nat) (m : Bool) (hp : p < 2) : ∀ u : Nat, 1 ≤ u → Runs (.num p m 0) (decDigits u) (.num 3 m u) := by
  intro u
  induction u using Nat.strongRecOn with
  | _ u ih =>
    intro hu
    by_cases h : u < 10
    · rw [decDigits_one h]
      exact runs_one (step_dig1 p m u h hu hp) rfl
    · rw [dec_big (by omega)]
      refine (ih (u / 10) (by omega) (by omega)).append (runs_one ?_ rfl)
      rw [step_dig3 m _ _ (by omega)]
      congr 2
      omega
theorem runs_zero (p : Nat) (m : Bool) (hp : p < 2) : Runs (.num p m 0) (decDigits 0) (.num 2 m 0) := by
  rw [decDigits_one (by omega)]
  exact runs_one (step_zero p m hp) rfl
/-- The state behind a number's digits. -/
def atD (_p : Nat) (m : Bool) (u : Nat) : Dec := if u = 0 then .num 2 m 0 else .num 3 m u
theorem runs_dec (p : Nat) (m : Bool) (hp : p < 2) (u : Nat) : Runs (.num p m 0) (decDigits u) (atD p m u) := by
  unfold atD
  split
  · rename_i h; subst h; exact runs_zero p m hp
  · exact runs_digits p m hp u (by omega)
theorem runs_minus : Runs d0 [45] (.num 1 true 0) := runs_one rfl rfl
theorem runs_neg (u : Nat) : Runs d0 (45 :: decDigits u) (atD 1 true u) := runs_minus.append (runs_dec 1 true (by omega) u)
/-- What a number that is printed leaves. -/
def prD (w : Bool × Nat) : Dec := if w.1 then .num 3 true (w.2 + 1) else atD 0 false w.2
theorem runs_print (w : Bool × Nat) : Runs d0 (printD w) (prD w) := by
  obtain ⟨m, v⟩ := w
  unfold printD prD
  cases m with
  | true =>
    have := runs_neg (v + 1)
    unfold atD at this
    rw [if_neg (by omega)] at this
    exact this
  | false => exact runs_dec 0 false (by omega) v
theorem end_print (w : Bool × Nat) (h : w.2 < 18446744073709551616) : endD (prD w) = (w, 0) := by
  obtain ⟨m, v⟩ := w
  simp only [] at h
  cases m with
  | true =>
    simp only [prD, if_true, endD]
    rw [if_neg (by omega), if_pos ⟨by trivial, by omega⟩, if_pos (by omega)]
    rfl
  | false =>
    simp only [prD, Bool.false_eq_true, if_false, atD]
    split
    · rename_i h0; subst h0; rfl
    · simp only [endD]
      rw [if_neg (by omega), if_neg (by simp), if_pos h]
theorem parse_print (w : Bool × Nat) (h : w.2 < 18446744073709551616) : parseD d0 (printD w) = (w, 0) := by rw [(runs_print w).all, end_print w h]
theorem prD_digit (w : Bool × Nat) : ∃ p m v, prD w = .num p m v ∧ 2 ≤ p := by
  obtain ⟨m, v⟩ := w
  cases m with
  | true => exact ⟨3, true, v + 1, rfl, by omega⟩
  | false =>
    unfold prD atD
    simp only [Bool.false_eq_true, if_false]
    split
    · exact ⟨_, _, _, rfl, by omega⟩
    · exact ⟨_, _, _, rfl, by omega⟩
/-- What bytes stand for a state. -/
def Own : Dec → List UInt8 → Prop
  | .bad _, _ => False
  | .num p m v, l => l = (if m then [45] else []) ++ (if p < 2 then [] else decDigits v)
theorem own_step {s s' : Dec} {l : List UInt8} {b : UInt8} (hw : WfD s) (h : Own s l) (hs : stepD s b.toNat = (s', true)) : Own s' (l ++ [b]) := by
  cases s with
  | bad f => exact h.elim
  | num p m v =>
    obtain ⟨h1, h2, h3, h4, h5⟩ := hw
    simp only [Own] at h
    subst h
    have hb : b = UInt8.ofNat b.toNat := by simp
    have hbl := b.toNat_lt
    generalize b.toNat = n at *
    subst hb
    simp only [stepD] at hs
    split at hs
    · rename_i q
      obtain ⟨rfl, rfl⟩ := q
      simp only [Prod.mk.injEq, and_true] at hs
      subst hs
      have := h4 rfl
      subst this
      simp [Own]
    · split at hs
      · split at hs
        · rename_i q1 q2 q3
          obtain ⟨rfl, hp⟩ := q3
          simp only [Prod.mk.injEq, and_true] at hs
          subst hs
          have := h2 (by omega)
          subst this
          simp only [Own]
          rw [if_pos hp, if_neg (show ¬ 2 < 2 by omega), decDigits_one (by omega), List.append_nil]
        · rename_i q1 q2 q3
          simp only [Prod.mk.injEq, and_true] at hs
          subst hs
          simp only [Own]
          rw [if_neg (show ¬ 3 < 2 by omega)]
          obtain ⟨d, rfl⟩ : ∃ d, n = 48 + d := ⟨n - 48, by omega⟩
          rw [show 48 + d - 48 = d by omega]
          by_cases hp : p < 2
          · have := h2 (by omega)
            subst this
            rw [if_pos hp, List.append_nil, show 0 * 10 + d = d by omega, decDigits_one (by omega)]
          · have hp3 : p = 3 := by omega
            have := h3 hp3
            rw [if_neg hp, dec_big (u := v * 10 + d) (by omega), show (v * 10 + d) / 10 = v by omega, show (v * 10 + d) % 10 = d by omega, List.append_assoc]
      · split at hs
        · simp at hs
        · split at hs
          · simp at hs
          · simp at hs
theorem own_end {s : Dec} {l : List UInt8} {y : Bool × Nat} (hw : WfD s) (h : Own s l) (he : endD s = (y, 0)) : printD y = l ∨ l = [45, 48] ∧ y = (false, 0) := by
  cases s with
  | bad f => exact h.elim
  | num p m v =>
    obtain ⟨h1, h2, h3, h4, h5⟩ := hw
    simp only [Own] at h
    subst h
    simp only [endD] at he
    split at he
    · simp at he
    · rename_i hp
      split at he
      · rename_i q
        obtain ⟨rfl, hq⟩ := q
        split at he
        · simp only [Prod.mk.injEq, and_true] at he
          subst he
          have := h3 (by omega)
          simp only [printD, if_true]
          rw [if_neg hp, show v - 1 + 1 = v by omega]
          exact .inl rfl
        · simp at he
      · rename_i q
        split at he
        · simp only [Prod.mk.injEq, and_true] at he
          subst he
          rw [if_neg hp]
          cases m with
          | false => exact .inl rfl
          | true =>
            have hp2 : p = 2 := by
              by_cases h : p = 2
              · exact h
              · exact absurd ⟨rfl, h⟩ q
            have := h2 (by omega)
            subst this
            exact .inr ⟨by rw [decDigits_one (by omega)]; rfl, rfl⟩
        · simp at he
theorem parse_back (l : List UInt8) : ∀ (s : Dec) (k : List UInt8) (y : Bool × Nat), WfD s → Own s k → parseD s l = (y, 0) → printD y = k ++ l ∨ k ++ l = [45, 48] ∧ y = (false, 0) := by
  induction l with
  | nil =>
    intro s k y hw ho h
    rw [List.append_nil]
    exact own_end hw ho h
  | cons b t ih =>
    intro s k y hw ho h
    rw [parseD] at h
    split at h
    · split at h
      · rename_i h1 h2
        have hs : stepD s b.toNat = ((stepD s b.toNat).1, true) := by rw [← h2]
        have := ih _ _ y (wf_stepD s b.toNat hw) (own_step hw ho hs) h
        simpa using this
      · simp at h
    · rename_i h1
      simp only [Prod.mk.injEq] at h
      exact absurd h.2 h1
theorem own0 : Own d0 [] := rfl
theorem wf0 : WfD d0 := ⟨by omega, fun _ => rfl, by omega, fun _ => rfl, by omega⟩
theorem print_parse (l : List UInt8) (y : Bool × Nat) (h : parseD d0 l = (y, 0)) : printD y = l ∨ l = [45, 48] ∧ y = (false, 0) := parse_back l d0 [] y wf0 own0 h
theorem end_lt (s : Dec) : (endD s).1.2 < 18446744073709551616 := by
  unfold endD
  repeat' split
  all_goals first | (simp only []; omega) | (show 0 < _; decide)
theorem parse_lt (l : List UInt8) : ∀ s, (parseD s l).1.2 < 18446744073709551616 := by
  induction l with
  | nil => exact end_lt
  | cons b t ih =>
    intro s
    rw [parseD]
    split
    · split
      · exact ih _
      · show 0 < _; decide
    · show 0 < _; decide
end Go.Proofs.Ytkfidnfnehnhoaa
