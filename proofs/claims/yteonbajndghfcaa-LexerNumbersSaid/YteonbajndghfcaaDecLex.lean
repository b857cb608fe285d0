/-
  NO PROGRAM NEEDED: the order of numbers as digits.
-/
import Derived.Test.YteonbajndghfcaaDecPure
import GoSem.Op.String
namespace Go.Proofs.Yteonbajndghfcaa
open Go.Lib
theorem lessb_cons (a b : UInt8) (x y : List UInt8) : Op.bytesLess (a :: x) (b :: y) = true ↔ a.toNat < b.toNat ∨ (a = b ∧ Op.bytesLess x y = true) := by
  rw [Op.bytesLess]
  simp only [Bool.or_eq_true, Bool.and_eq_true, beq_iff_eq, decide_eq_true_eq]
  rfl
theorem lessb_last (p q : UInt8) : ∀ x y : List UInt8, x.length = y.length → (Op.bytesLess (x ++ [p]) (y ++ [q]) = true ↔ Op.bytesLess x y = true ∨ (x = y ∧ p.toNat < q.toNat))
  | [], [], _ => by
    simp [Op.bytesLess]
    exact Iff.rfl
  | [], _ :: _, h => by simp at h
  | _ :: _, [], h => by simp at h
  | a :: x, b :: y, h => by
    have ih := lessb_last p q x y (by simpa using h)
    rw [List.cons_append, List.cons_append, lessb_cons, lessb_cons, ih]
    simp only [List.cons.injEq]
    constructor
    · rintro (h | ⟨h1, h2 | ⟨h2, h3⟩⟩)
      · exact .inl (.inl h)
      · exact .inl (.inr ⟨h1, h2⟩)
      · exact .inr ⟨⟨h1, h2⟩, h3⟩
    · rintro ((h | ⟨h1, h2⟩) | ⟨⟨h1, h2⟩, h3⟩)
      · exact .inl h
      · exact .inr ⟨h1, .inl h2⟩
      · exact .inr ⟨h1, .inr ⟨h2, h3⟩⟩
theorem lessb_irrefl (x : List UInt8) : ¬ Op.bytesLess x x = true := by
  induction x with
  | nil => simp [Op.bytesLess]
  | cons a t ih =>
    rw [lessb_cons]
    rintro (h | ⟨_, h⟩)
    · omega
    · exact ih h
theorem nDigits_mono : ∀ b a : Nat, b ≤ a → nDigits b ≤ nDigits a := by
  intro b
  induction b using Nat.strongRecOn with
  | _ b ih =>
    intro a h
    by_cases hb : b < 10
    · rw [nDigits_small hb]; exact nDigits_pos a
    · rw [nDigits_big hb, nDigits_big (show ¬ a < 10 by omega)]
      have := ih (b / 10) (by omega) (a / 10) (by omega)
      omega
theorem less_dec : ∀ a b : Nat, nDigits a = nDigits b → (Op.bytesLess (decDigits a) (decDigits b) = true ↔ a < b) := by
  intro a
  induction a using Nat.strongRecOn with
  | _ a ih =>
    intro b h
    by_cases ha : a < 10
    · have hb : b < 10 := by
        by_cases hb : b < 10
        · exact hb
        · rw [nDigits_small ha, nDigits_big hb] at h
          have := nDigits_pos (b / 10)
          omega
      rw [decDigits_one ha, decDigits_one hb, lessb_cons, dig_toNat a ha, dig_toNat b hb]
      simp [Op.bytesLess]
    · have hb : ¬ b < 10 := by
        intro hb
        rw [nDigits_small hb, nDigits_big ha] at h
        have := nDigits_pos (a / 10)
        omega
      rw [nDigits_big ha, nDigits_big hb] at h
      have i1 := ih (a / 10) (by omega) (b / 10) (by omega)
      rw [dec_big (by omega), dec_big (u := b) (by omega), lessb_last _ _ _ _ (by rw [decDigits_length, decDigits_length]; omega), i1, dig_toNat _ (by omega), dig_toNat _ (by omega)]
      constructor
      · rintro (h | ⟨h1, h2⟩)
        · omega
        · have n1 : ¬ a / 10 < b / 10 := by rw [← i1, h1]; exact lessb_irrefl _
          by_cases hlt : b / 10 < a / 10
          · have i2 := ih (b / 10) (by omega) (a / 10) (by omega)
            have := i2.2 hlt
            rw [h1] at this
            exact absurd this (lessb_irrefl _)
          · omega
      · intro h
        by_cases hlt : a / 10 < b / 10
        · exact .inl hlt
        · have he : a / 10 = b / 10 := by omega
          exact .inr ⟨by rw [he], by omega⟩
/-- The order that the law asks. -/
theorem order_dec (a b : Nat) : (nDigits a < nDigits b ∨ nDigits a = nDigits b ∧ Op.bytesLess (decDigits a) (decDigits b) = true) ↔ a < b := by
  constructor
  · rintro (h | ⟨h1, h2⟩)
    · by_cases hl : a < b
      · exact hl
      · have := nDigits_mono b a (by omega)
        omega
    · exact (less_dec a b h1).1 h2
  · intro h
    have := nDigits_mono a b (by omega)
    by_cases he : nDigits a = nDigits b
    · exact .inr ⟨he, (less_dec a b he).2 h⟩
    · exact .inl (by omega)
theorem nDigits_le (u : Nat) (h : u < 100000000000000000000) : nDigits u ≤ 20 := by
  have : nDigits u ≤ nDigits 99999999999999999999 := nDigits_mono _ _ (by omega)
  rw [show nDigits 99999999999999999999 = 20 from nDigits_unique 19 _ (by decide) (by decide)] at this
  exact this
theorem print_len (w : Bool × Nat) (h : w.2 < 18446744073709551616) : (printD w).length ≤ 21 := by
  obtain ⟨m, v⟩ := w
  unfold printD
  have h : v < 18446744073709551616 := h
  cases m with
  | true =>
    simp only [if_true, List.length_cons, decDigits_length]
    have := nDigits_le (v + 1) (by omega)
    omega
  | false =>
    simp only [Bool.false_eq_true, if_false, decDigits_length]
    have := nDigits_le v (by omega)
    omega
/-- The bytes of a number are digits, or a minus. -/
theorem dec_bytes : ∀ u : Nat, ∀ b ∈ decDigits u, 48 ≤ b.toNat ∧ b.toNat ≤ 57 := by
  intro u
  induction u using Nat.strongRecOn with
  | _ u ih =>
    intro b hb
    by_cases h : u < 10
    · rw [decDigits_one h] at hb
      simp only [List.mem_singleton] at hb
      subst hb
      rw [dig_toNat u h]
      omega
    · rw [dec_big (by omega)] at hb
      rcases List.mem_append.1 hb with hb | hb
      · exact ih (u / 10) (by omega) b hb
      · simp only [List.mem_singleton] at hb
        subst hb
        rw [dig_toNat _ (by omega)]
        omega
end Go.Proofs.Yteonbajndghfcaa
