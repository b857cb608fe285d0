/-
  GENERAL, NO PROGRAM NEEDED: runes as bytes: lengths, order, none twice.
-/
import Derived.Test.YtpmbpcinfakckaaDoorUtfEnc
namespace Go.Proofs.YtpmbpcinfakckaaDoor
open Go.Lib
theorem less_cons (a b : UInt8) (x y : List UInt8) : Op.bytesLess (a :: x) (b :: y) = true ↔ a.toNat < b.toNat ∨ (a.toNat = b.toNat ∧ Op.bytesLess x y = true) := by
  rw [Op.bytesLess]
  simp only [Bool.or_eq_true, Bool.and_eq_true, decide_eq_true_eq, beq_iff_eq, UInt8.lt_iff_toNat_lt]
  constructor
  · rintro (h | ⟨rfl, h⟩)
    · exact .inl h
    · exact .inr ⟨rfl, h⟩
  · rintro (h | ⟨e, h⟩)
    · exact .inl h
    · exact .inr ⟨UInt8.toNat_inj.1 e, h⟩
theorem less_irrefl (x : List UInt8) : Op.bytesLess x x = false := by
  induction x with
  | nil => rfl
  | cons a t ih =>
    cases h : Op.bytesLess (a :: t) (a :: t) with
    | false => rfl
    | true =>
      rcases (less_cons a a t t).1 h with h1 | ⟨_, h1⟩
      · omega
      · rw [ih] at h1; cases h1
theorem less_asymm (x y : List UInt8) (h : Op.bytesLess x y = true) : Op.bytesLess y x = false := by
  induction x generalizing y with
  | nil =>
    cases y with
    | nil => cases h
    | cons b t => rfl
  | cons a x ih =>
    cases y with
    | nil => cases h
    | cons b y =>
      cases h2 : Op.bytesLess (b :: y) (a :: x) with
      | false => rfl
      | true =>
        rcases (less_cons _ _ _ _).1 h with h1 | ⟨e1, h1⟩ <;> rcases (less_cons _ _ _ _).1 h2 with h3 | ⟨e3, h3⟩
        · omega
        · omega
        · omega
        · rw [ih y h1] at h3; cases h3
theorem lex64 (a b : Nat) (h : a < b) : a / 64 < b / 64 ∨ (a / 64 = b / 64 ∧ a % 64 < b % 64) := by omega
theorem lex3 (a b : Nat) (h : a < b) : a / 4096 < b / 4096 ∨ (a / 4096 = b / 4096 ∧ (a / 64 % 64 < b / 64 % 64 ∨ (a / 64 % 64 = b / 64 % 64 ∧ a % 64 < b % 64))) := by
  rw [show a / 4096 = a / 64 / 64 by rw [Nat.div_div_eq_div_mul], show b / 4096 = b / 64 / 64 by rw [Nat.div_div_eq_div_mul]]
  rcases lex64 a b h with h1 | ⟨h1, h2⟩
  · rcases lex64 _ _ h1 with h3 | ⟨h3, h4⟩
    · exact .inl h3
    · exact .inr ⟨h3, .inl h4⟩
  · exact .inr ⟨by rw [h1], .inr ⟨by rw [h1], h2⟩⟩
theorem lex4 (a b : Nat) (h : a < b) : a / 262144 < b / 262144 ∨ (a / 262144 = b / 262144 ∧ (a / 4096 % 64 < b / 4096 % 64 ∨ (a / 4096 % 64 = b / 4096 % 64 ∧ (a / 64 % 64 < b / 64 % 64 ∨ (a / 64 % 64 = b / 64 % 64 ∧ a % 64 < b % 64))))) := by
  rw [show a / 262144 = a / 64 / 4096 by rw [Nat.div_div_eq_div_mul], show b / 262144 = b / 64 / 4096 by rw [Nat.div_div_eq_div_mul], show a / 4096 = a / 64 / 64 by rw [Nat.div_div_eq_div_mul], show b / 4096 = b / 64 / 64 by rw [Nat.div_div_eq_div_mul]]
  rcases lex64 a b h with h1 | ⟨h1, h2⟩
  · rcases lex3 _ _ h1 with h3 | ⟨h3, h4 | ⟨h4, h5⟩⟩
    · exact .inl h3
    · exact .inr ⟨h3, .inl h4⟩
    · exact .inr ⟨h3, .inr ⟨h4, .inl h5⟩⟩
  · exact .inr ⟨by rw [h1], .inr ⟨by rw [h1], .inr ⟨by rw [h1], h2⟩⟩⟩
theorem len_enc (n : Nat) (hr : IsRune n) : (encL n).length = 1 + (if 128 ≤ n then 1 else 0) + (if 2048 ≤ n then 1 else 0) + (if 65536 ≤ n then 1 else 0) := by
  by_cases h1 : n < 128
  · rw [enc1 h1, if_neg (by omega), if_neg (by omega), if_neg (by omega)]; rfl
  by_cases h2 : n < 2048
  · rw [enc2 (by omega) h2, if_pos (by omega), if_neg (by omega), if_neg (by omega)]; rfl
  by_cases h3 : n < 65536
  · rw [enc3 hr (by omega) h3, if_pos (by omega), if_pos (by omega), if_neg (by omega)]; rfl
  · rw [enc4 (by omega) (by unfold IsRune at hr; omega), if_pos (by omega), if_pos (by omega), if_pos (by omega)]; rfl
theorem less_lt (a b : Nat) (ha : IsRune a) (hb : IsRune b) (h : a < b) : Op.bytesLess (encL a) (encL b) = true := by
  have hb' : b ≤ 1114111 := by unfold IsRune at hb; omega
  by_cases b1 : b < 128
  · rw [enc1 (show a < 128 by omega), enc1 b1, less_cons, toNat_ofNat _ (by omega), toNat_ofNat _ (by omega)]
    exact .inl h
  by_cases b2 : b < 2048
  · rw [enc2 (by omega) b2]
    by_cases a1 : a < 128
    · rw [enc1 a1, less_cons, toNat_ofNat _ (by omega), toNat_ofNat _ (by omega)]
      exact .inl (by omega)
    · rw [enc2 (by omega) (by omega), less_cons, less_cons, toNat_ofNat _ (by omega), toNat_ofNat _ (by omega), toNat_ofNat _ (by omega), toNat_ofNat _ (by omega)]
      rcases lex64 a b h with h1 | ⟨h1, h2⟩
      · exact .inl (by omega)
      · exact .inr ⟨by omega, .inl (by omega)⟩
  by_cases b3 : b < 65536
  · rw [enc3 hb (by omega) b3]
    by_cases a1 : a < 128
    · rw [enc1 a1, less_cons, toNat_ofNat _ (by omega), toNat_ofNat _ (by omega)]
      exact .inl (by omega)
    by_cases a2 : a < 2048
    · rw [enc2 (by omega) a2, less_cons, toNat_ofNat _ (by omega), toNat_ofNat (224 + b / 4096) (by omega)]
      exact .inl (by omega)
    · rw [enc3 ha (by omega) (by omega), less_cons, less_cons, less_cons, toNat_ofNat (224 + a / 4096) (by omega), toNat_ofNat (224 + b / 4096) (by omega), toNat_ofNat (128 + a / 64 % 64) (by omega), toNat_ofNat (128 + b / 64 % 64) (by omega), toNat_ofNat (128 + a % 64) (by omega), toNat_ofNat (128 + b % 64) (by omega)]
      rcases lex3 a b h with h1 | ⟨h1, h2 | ⟨h2, h3⟩⟩
      · exact .inl (by omega)
      · exact .inr ⟨by omega, .inl (by omega)⟩
      · exact .inr ⟨by omega, .inr ⟨by omega, .inl (by omega)⟩⟩
  · rw [enc4 (by omega) hb']
    by_cases a1 : a < 128
    · rw [enc1 a1, less_cons, toNat_ofNat _ (by omega), toNat_ofNat (240 + b / 262144) (by omega)]
      exact .inl (by omega)
    by_cases a2 : a < 2048
    · rw [enc2 (by omega) a2, less_cons, toNat_ofNat (192 + a / 64) (by omega), toNat_ofNat (240 + b / 262144) (by omega)]
      exact .inl (by omega)
    by_cases a3 : a < 65536
    · rw [enc3 ha (by omega) a3, less_cons, toNat_ofNat (224 + a / 4096) (by omega), toNat_ofNat (240 + b / 262144) (by omega)]
      exact .inl (by omega)
    · rw [enc4 (by omega) (by omega), less_cons, less_cons, less_cons, less_cons, toNat_ofNat (240 + a / 262144) (by omega), toNat_ofNat (240 + b / 262144) (by omega), toNat_ofNat (128 + a / 4096 % 64) (by omega), toNat_ofNat (128 + b / 4096 % 64) (by omega), toNat_ofNat (128 + a / 64 % 64) (by omega), toNat_ofNat (128 + b / 64 % 64) (by omega), toNat_ofNat (128 + a % 64) (by omega), toNat_ofNat (128 + b % 64) (by omega)]
      rcases lex4 a b h with h1 | ⟨h1, h2 | ⟨h2, h3 | ⟨h3, h4⟩⟩⟩
      · exact .inl (by omega)
      · exact .inr ⟨by omega, .inl (by omega)⟩
      · exact .inr ⟨by omega, .inr ⟨by omega, .inl (by omega)⟩⟩
      · exact .inr ⟨by omega, .inr ⟨by omega, .inr ⟨by omega, .inl (by omega)⟩⟩⟩
theorem enc_inj {a b : Nat} (ha : IsRune a) (hb : IsRune b) (h : encL a = encL b) : a = b := by
  have h1 : (decodeL (encL a ++ [])).1 = a := congrArg Prod.fst (dec_enc ha [])
  have h2 : (decodeL (encL b ++ [])).1 = b := congrArg Prod.fst (dec_enc hb [])
  rw [h] at h1
  exact h1.symm.trans h2
theorem less_iff (a b : Nat) (ha : IsRune a) (hb : IsRune b) : Op.bytesLess (encL a) (encL b) = decide (a < b) := by
  rcases Nat.lt_trichotomy a b with h | h | h
  · rw [less_lt a b ha hb h, decide_eq_true h]
  · subst h; rw [less_irrefl, decide_eq_false (by omega)]
  · rw [less_asymm _ _ (less_lt b a hb ha h), decide_eq_false (by omega)]
end Go.Proofs.YtpmbpcinfakckaaDoor
