/-
  Parts: EscD, AtB, EscE, BitsA, BitsS, Bits, DecNum, DecStep.
-/
import Derived.Test.YtkgconbdmnmbnaaGreatG0c
import Derived.Test.YtkgconbdmnmbnaaGreatG0b
import Derived.Shelf.LaysM
import Derived.Shelf.Bits.Mul64
import Derived.Shelf.Spec.BitsCarry
import Derived.WalkKit
import Derived.WalkSpells
import Derived.Below
import Derived.BigCall
import Derived.BigGuard
import Derived.Test.YtkgconbdmnmbnaaGreatG0a
set_option maxRecDepth 100000
set_option maxHeartbeats 16000000
open Go.Lib (hid)
namespace Go.Proofs.YtkgconbdmnmbnaaGreat
section
open Go.RowKit
open Go.Lib
theorem hex_none {x : UInt8} (h : x.toNat < 48) : hexV x.toNat = none := by
  cases hh : hexV x.toNat with
  | none => rfl
  | some d => have := (hexV_lt hh).2.2; omega
theorem hex_none_hi {x : UInt8} (h : openS x.toNat = none) : hexV x.toNat = none := by
  cases hh : hexV x.toNat with
  | none => rfl
  | some d =>
    rw [open_low (hexV_lt hh).2.1] at h; cases h
theorem step_hex_none {k v : Nat} {x : UInt8} (h : hexV x.toNat = none) : stepI (.hex k v) x = (.bad (openS x.toNat).isNone, []) := by
  simp only [stepI, h]
theorem step_hex_mid {k v d : Nat} {x : UInt8} (h : hexV x.toNat = some d) (hk : k < 3) : stepI (.hex k v) x = (.hex (k + 1) (v * 16 + d), []) := by
  simp only [stepI, h]; rw [if_pos hk]
theorem pow_lt {k v d : Nat} (hv : v < 16 ^ k) (hd : d < 16) : v * 16 + d < 16 ^ (k + 1) := by
  rw [Nat.pow_succ]; omega
def endI (c : Nat) : Ins × List UInt8 := if 56320 ≤ c ∧ c ≤ 57343 then (.bad true, []) else if 55296 ≤ c ∧ c ≤ 56319 then (.high c 0 0, []) else (insT, encL c)
theorem step_hex_end {v d : Nat} {x : UInt8} (h : hexV x.toNat = some d) : stepI (.hex 3 v) x = endI (v * 16 + d) := by
  simp only [stepI, h]; rw [if_neg (by omega)]; rfl
theorem take_early (w : World) (b o n : Nat) (c h : Nat) (hn : 2 ≤ n) (hh : h = 0) (hT : At w b (o + 5) (tail3 n c h)) (x : UInt8) (hx : x.toNat < 32 ∨ x.toNat = 34) :
    Calls Tryz.prog 120 #[.pointer (some ⟨b, o, none⟩), .int .u8 x.toNat] w fun e w' => e = .returned (.tuple #[.string ⟨#[]⟩, .int .i64 2]) ∧ w = w' := by
  obtain ⟨⟨hc0, hf0⟩, ⟨hc1, hf1⟩, hc2, hf2⟩ := hT.zeros n c 0 rfl rfl (by rw [hh]; rfl); have n1 : ((n : Int) == 1) = false := by rw [beq_eq_false_iff_ne]; omega
  clear hT hh hn; by_cases h32 : x.toNat < 32
  · have g : (((x.toNat : Nat) : Int) < 32) = True := by simp only [eq_iff_iff, iff_true]; omega
    clear hx h32; go_enter Tryz.func120, Tryz.ntmps120; go_wp2; go_ret2; exact ⟨rfl, rfl⟩
  · have g : (((x.toNat : Nat) : Int) < 32) = False := by simp only [eq_iff_iff, iff_false]; omega
    have g2 : (((x.toNat : Nat) : Int) == 34) = true := by rw [beq_iff_eq]; omega
    clear hx h32; go_enter Tryz.func120, Tryz.ntmps120; go_wp2; go_ret2; exact ⟨rfl, rfl⟩
theorem take_utf (w : World) (b o n c : Nat) (hn : 2 ≤ n) (hC : CAt w b (o + 1) st0) (hT : At w b (o + 5) (tail3 n c 0)) (x : UInt8) (hx : openS x.toNat = none) :
    Calls Tryz.prog 120 #[.pointer (some ⟨b, o, none⟩), .int .u8 x.toNat] w fun e w' => e = .returned (.tuple #[.string ⟨#[]⟩, .int .i64 9]) ∧ Sub b (o + 1) 4 w w' := by
  obtain ⟨⟨hc0, hf0⟩, ⟨hc1, hf1⟩, hc2, hf2⟩ := hT.zeros n c 0 rfl rfl rfl; have n1 : ((n : Int) == 1) = false := by rw [beq_eq_false_iff_ne]; omega
  have hlt : ¬ x.toNat < 128 := fun h => by rw [open_low h] at hx; cases hx
  have g : (((x.toNat : Nat) : Int) < 32) = False := by simp only [eq_iff_iff, iff_false]; omega
  have g2 : (((x.toNat : Nat) : Int) == 34) = false := u8z x 34 (by omega); have hS := step_at hC x; rw [step0, hx] at hS; have HS := hid hS; clear hT hn hS hC hx hlt; go_enter Tryz.func120, Tryz.ntmps120; (go_wp2_with fail); refine HS.out.mono ?_; rintro e w' ⟨rfl, hp⟩; have HP := hid hp.2; simp only [Option.isSome]; clear hp; go_wp2; go_ret2; exact ⟨rfl, HP.out⟩
theorem take_digit (w : World) (b o n c : Nat) (hn : 2 ≤ n) (hC : CAt w b (o + 1) st0) (hT : At w b (o + 5) (tail3 n c 0)) (x : UInt8) (p : Nat × Nat × Nat) (hx : openS x.toNat = some p) (h1 : 32 ≤ x.toNat) (h2 : x.toNat ≠ 34)
    (R : Value × Value) (Q : World → World → Prop)
    (hD : ∀ w1 : World, At w1 b (o + 5) (tail3 n c 0) → Calls Tryz.prog 126 #[.pointer (some ⟨b, o, none⟩), .int .u8 x.toNat] w1 fun e w' => e = .returned (.tuple #[R.1, R.2]) ∧ Q w1 w') :
    Calls Tryz.prog 120 #[.pointer (some ⟨b, o, none⟩), .int .u8 x.toNat] w fun e w' => e = .returned (.tuple #[R.1, R.2]) ∧ ∃ w1, CPost w b (o + 1) (openS x.toNat) w1 ∧ Q w1 w' := by
  obtain ⟨⟨hc0, hf0⟩, ⟨hc1, hf1⟩, hc2, hf2⟩ := hT.zeros n c 0 rfl rfl rfl; obtain ⟨R1, R2⟩ := R; simp only [] at hD ⊢; have n1 : ((n : Int) == 1) = false := by rw [beq_eq_false_iff_ne]; omega
  have n0 : ((n : Int) == 0) = false := by rw [beq_eq_false_iff_ne]; omega
  have g : (((x.toNat : Nat) : Int) < 32) = False := by simp only [eq_iff_iff, iff_false]; omega
  have g2 : (((x.toNat : Nat) : Int) == 34) = false := u8z x 34 (by omega); have hS := step_at hC x; rw [step0] at hS; have hq : (openS x.toNat).isSome = true := by rw [hx]; rfl
  rw [hq] at hS; have HS := hid hS; have HT := hid hT; have HD := hid hD; obtain ⟨S, hSS⟩ : ∃ S, openS x.toNat = S := ⟨_, rfl⟩
  rw [hSS] at HS ⊢; clear hT hn hS hC hx h1 h2 hD hq hSS; go_enter Tryz.func120, Tryz.ntmps120; (go_wp2_with fail); refine HS.out.mono ?_; rintro e w1 ⟨rfl, hp⟩; have hT' := HT.out.sub hp.2 (.inr (by omega)); obtain ⟨⟨hd0, he0⟩, ⟨hd1, he1⟩, hd2, he2⟩ := hT'.zeros n c 0 rfl rfl rfl; have HO := hid (HD.out w1 hT'); have HP := hid hp; clear hp hT'; (go_wp2_with fail); refine HO.out.mono ?_; rintro e w2 ⟨rfl, hq⟩; have HQ := hid hq; clear hq; go_wp2; go_ret2; exact ⟨rfl, w1, HP.out, HQ.out⟩
theorem rune_of {c : Nat} (h : c < 65536) (h1 : ¬ (56320 ≤ c ∧ c ≤ 57343)) (h2 : ¬ (55296 ≤ c ∧ c ≤ 56319)) : IsRune c := by
  unfold IsRune; omega
theorem take_hex (w : World) (b o k v : Nat) (hW : WfI (.hex k v)) (hC : CAt w b (o + 1) st0) (hT : At w b (o + 5) (tail3 (k + 2) v 0)) (x : UInt8) :
    Calls Tryz.prog 120 #[.pointer (some ⟨b, o, none⟩), .int .u8 x.toNat] w fun e w' =>
      e = .returned (.tuple #[.string ⟨(stepI (.hex k v) x).2.toArray⟩, .int .i64 (errI (stepI (.hex k v) x).1)]) ∧ TPost w b o (stepI (.hex k v) x).1 w' := by
  by_cases h1 : x.toNat < 32 ∨ x.toNat = 34
  · rw [step_hex_none (hex_none (by omega)), open_low (by omega)]
    refine (take_early w b o (k + 2) v 0 (by omega) rfl hT x h1).mono ?_; rintro e w' ⟨rfl, rfl⟩; exact ⟨rfl, tpost_ref⟩
  cases hp : openS x.toNat with
  | none =>
    rw [step_hex_none (hex_none_hi hp), hp]; refine (take_utf w b o (k + 2) v (by omega) hC hT x hp).mono ?_; rintro e w' ⟨rfl, hs⟩; exact ⟨rfl, tpost_bad hs (by omega)⟩
  | some p =>
    have hv4 : v < 4096 := Nat.lt_of_lt_of_le hW.2 (Nat.le_trans (Nat.pow_le_pow_right (by omega) hW.1) (by decide)); cases hh : hexV x.toNat with
    | none =>
      rw [step_hex_none hh, hp]; refine (take_digit w b o (k + 2) v (by omega) hC hT x p hp (by omega) (by omega) (.string ⟨#[]⟩, .int .i64 2) (fun a c => a = c) (fun w1 _ => digit_no w1 b o x.toNat hh)).mono ?_; rintro e w' ⟨rfl, w1, hc, rfl⟩; exact ⟨rfl, tpost_bad hc.2 (by omega)⟩
    | some d =>
      obtain ⟨hd, hx128, _⟩ := hexV_lt hh; have ho := open_low hx128; by_cases hk : k < 3
      · rw [step_hex_mid hh hk]
        refine (take_digit w b o (k + 2) v (by omega) hC hT x p hp (by omega) (by omega) (.string ⟨#[]⟩, .int .i64 0) (fun w1 w' => At w' b (o + 5) (tail3 (k + 2 + 1) (v * 16 + d) 0) ∧ Sub b (o + 5) 3 w1 w')
          (fun w1 ht => digit_mid w1 b o (k + 2) v 0 x.toNat d hh (by omega) (by omega) ht)).mono ?_
        rintro e w' ⟨rfl, w1, hc, ha, hs⟩; rw [ho] at hc; exact ⟨rfl, (hc.2.widen (Nat.le_refl _) (by omega)).trans (hs.widen (by omega) (by omega)), fun _ => ⟨⟨by omega, pow_lt hW.2 hd⟩, hc.1.sub hs (.inl (by omega)), ha⟩⟩
      · have hk3 : k = 3 := by have := hW.1; omega
        subst hk3; rw [step_hex_end hh]; have go : ∀ (R : Value × Value) (c : Nat), (∀ w1 : World, At w1 b (o + 5) (tail3 6 (v * 16 + d) 0) → Calls Tryz.prog 133 #[.pointer (some ⟨b, o, none⟩)] w1 fun e w' => e = .returned (.tuple #[R.1, R.2]) ∧ EndPost w1 b o c w') →
            Calls Tryz.prog 120 #[.pointer (some ⟨b, o, none⟩), .int .u8 x.toNat] w fun e w' => e = .returned (.tuple #[R.1, R.2]) ∧ CAt w' b (o + 1) st0 ∧ At w' b (o + 5) (tail3 0 0 c) ∧ Sub b (o + 1) 7 w w' := by
          intro R c hE; refine (take_digit w b o (3 + 2) v (by omega) hC hT x p hp (by omega) (by omega) R (fun w1 w' => EndPost w1 b o c w') (fun w1 ht => digit_end w1 b o v 0 x.toNat d c R hh (by omega) ht hE)).mono ?_; rintro e w' ⟨rfl, w1, hc, ha, hs⟩; rw [ho] at hc; exact ⟨rfl, hc.1.sub hs (.inl (by omega)), ha, (hc.2.widen (Nat.le_refl _) (by omega)).trans (hs.widen (by omega) (by omega))⟩
        have hcl : v * 16 + d < 65536 := by omega
        generalize v * 16 + d = c at *
        unfold endI; by_cases q1 : 56320 ≤ c ∧ c ≤ 57343
        · rw [if_pos q1]
          refine (go (.string ⟨#[]⟩, .int .i64 9) 0 (fun w1 ht => end_low w1 b o 6 c q1 ht)).mono ?_; rintro e w' ⟨rfl, _, _, hs⟩; exact ⟨rfl, tpost_bad hs (by omega)⟩
        · rw [if_neg q1]
          by_cases q2 : 55296 ≤ c ∧ c ≤ 56319
          · rw [if_pos q2]
            refine (go (.string ⟨#[]⟩, .int .i64 0) c (fun w1 ht => end_sur w1 b o 6 c (by omega) ht)).mono ?_; rintro e w' ⟨rfl, hc, ha, hs⟩; exact ⟨rfl, hs, fun _ => ⟨⟨q2.1, q2.2, .inl ⟨by omega, rfl⟩⟩, hc, ha⟩⟩
          · rw [if_neg q2]
            have hE := fun (w1 : World) ht => end_rune w1 b o 6 c (rune_of hcl q1 q2) ht
            generalize encL c = l at hE ⊢; refine (go (.string ⟨l.toArray⟩, .int .i64 0) 0 hE).mono ?_; rintro e w' ⟨rfl, hc, ha, hs⟩; exact ⟨rfl, hs, fun _ => ⟨⟨by omega, rfl, rfl⟩, hc, ha⟩⟩
theorem lowOk_byte {k x : Nat} (h : lowOk k x = true) : x < 128 ∧ 48 ≤ x ∧ (k = 0 → x = 92) ∧ (k = 1 → x = 117) ∧ (2 ≤ k → ∃ d, hexV x = some d) := by
  match k, h with
  | 0, h =>
    have : x = 92 := by simpa [lowOk] using h
    exact ⟨by omega, by omega, fun _ => this, fun h => by omega, fun h => by omega⟩
  | 1, h =>
    have : x = 117 := by simpa [lowOk] using h
    exact ⟨by omega, by omega, fun h => by omega, fun _ => this, fun h => by omega⟩
  | 2, h =>
    have : x = 100 ∨ x = 68 := by simpa [lowOk] using h
    refine ⟨by omega, by omega, fun h => by omega, fun h => by omega, fun _ => ⟨13, ?_⟩⟩; rcases this with rfl | rfl <;> decide
  | 3, h =>
    cases hh : hexV x with
    | none => simp [lowOk, hh] at h
    | some d =>
      have := hexV_lt hh; exact ⟨by omega, by omega, fun h => by omega, fun h => by omega, fun _ => ⟨d, rfl⟩⟩
  | k + 4, h =>
    cases hh : hexV x with
    | none => simp [lowOk, hh] at h
    | some d =>
      have := hexV_lt hh; exact ⟨by omega, by omega, fun h => by omega, fun h => by omega, fun _ => ⟨d, rfl⟩⟩
theorem low_two {x d : Nat} (h : lowOk 2 x = true) (hd : hexV x = some d) : d = 13 := by
  have : x = 100 ∨ x = 68 := by simpa [lowOk] using h
  rcases this with rfl | rfl
  · have : hexV 100 = some 13 := by decide
    rw [this] at hd
    injection hd with hd
    exact hd.symm
  · have : hexV 68 = some 13 := by decide
    rw [this] at hd
    injection hd with hd
    exact hd.symm
theorem low_three {x d : Nat} (h : lowOk 3 x = true) (hd : hexV x = some d) : 12 ≤ d := by
  rw [lowOk3 hd] at h; exact of_decide_eq_true h
theorem take_alone (w : World) (b o h k c : Nat) (hh : 55296 ≤ h) (hT : At w b (o + 5) (tail3 k c h)) (x : UInt8) (hx : lowOk k x.toNat = false) :
    Calls Tryz.prog 120 #[.pointer (some ⟨b, o, none⟩), .int .u8 x.toNat] w fun e w' => e = .returned (.tuple #[.string ⟨#[]⟩, .int .i64 9]) ∧ w = w' := by
  obtain ⟨⟨hc0, hf0⟩, ⟨hc1, hf1⟩, hc2, hf2⟩ := hT.zeros k c h rfl rfl rfl; have z : ((h : Int) == 0) = false := by rw [beq_eq_false_iff_ne]; omega
  have z2 : ((h : Int) = 0) = False := by simp only [eq_iff_iff, iff_false]; omega
  have hM := mayPair_any k x.toNat; rw [hx] at hM; have HM := hid hM; clear hT hM hx; go_enter Tryz.func120, Tryz.ntmps120; (go_wp2_with fail); refine (HM.out _).mono ?_; rintro e w' ⟨rfl, rfl⟩; go_wp2; go_ret2; exact ⟨rfl, rfl⟩
theorem take_high0 (w : World) (b o h : Nat) (hh : 55296 ≤ h) (hC : CAt w b (o + 1) st0) (hT : At w b (o + 5) (tail3 0 0 h)) :
    Calls Tryz.prog 120 #[.pointer (some ⟨b, o, none⟩), .int .u8 92] w fun e w' => e = .returned (.tuple #[.string ⟨#[]⟩, .int .i64 0]) ∧ CAt w' b (o + 1) st0 ∧ At w' b (o + 5) (tail3 1 0 h) ∧ Sub b (o + 1) 7 w w' := by
  obtain ⟨⟨hc0, hf0⟩, ⟨hc1, hf1⟩, hc2, hf2⟩ := hT.zeros 0 0 h rfl rfl rfl; have z : ((h : Int) == 0) = false := by rw [beq_eq_false_iff_ne]; omega
  have z2 : ((h : Int) = 0) = False := by simp only [eq_iff_iff, iff_false]; omega
  have hM := mayPair_any 0 92; have HM : Hid (∀ w, Calls Tryz.prog 123 #[.int .i64 0, .int .u8 92] w fun e w' => e = .returned (.bool true) ∧ w = w') := hid hM; have hS : Calls Tryz.prog 124 #[.pointer (some ⟨b, o + 1, none⟩), .int .u8 92] w fun e w' => e = .returned (.bool true) ∧ CPost w b (o + 1) st0 w' := step_at hC 92
  have HS := hid hS; have HT := hid hT; clear hT hM hC hS; go_enter Tryz.func120, Tryz.ntmps120; (go_wp2_with fail); refine (HM.out _).mono ?_; rintro e w' ⟨rfl, rfl⟩; (go_wp2_with fail); refine HS.out.mono ?_; rintro e w' ⟨rfl, hp⟩; have hT' := HT.out.sub hp.2 (.inr (by omega)); obtain ⟨⟨hd0, he0⟩, ⟨hd1, he1⟩, hd2, he2⟩ := hT'.zeros 0 0 h rfl rfl rfl; have HP := hid (And.intro hp (one_set hT' 1)); clear hp hT'; go_wp2; go_ret2; obtain ⟨hp, ha, hs⟩ := HP.out; exact ⟨rfl, hp.1.sub hs (.inl (by omega)), ha, (hp.2.widen (Nat.le_refl _) (by omega)).trans (hs.widen (by omega) (by omega))⟩
theorem take_high1 (w : World) (b o h : Nat) (hh : 55296 ≤ h) (hC : CAt w b (o + 1) st0) (hT : At w b (o + 5) (tail3 1 0 h)) :
    Calls Tryz.prog 120 #[.pointer (some ⟨b, o, none⟩), .int .u8 117] w fun e w' => e = .returned (.tuple #[.string ⟨#[]⟩, .int .i64 0]) ∧ CAt w' b (o + 1) st0 ∧ At w' b (o + 5) (tail3 2 0 h) ∧ Sub b (o + 1) 7 w w' := by
  obtain ⟨⟨hc0, hf0⟩, ⟨hc1, hf1⟩, hc2, hf2⟩ := hT.zeros 1 0 h rfl rfl rfl; have z : ((h : Int) == 0) = false := by rw [beq_eq_false_iff_ne]; omega
  have z2 : ((h : Int) = 0) = False := by simp only [eq_iff_iff, iff_false]; omega
  have hM := mayPair_any 1 117; have HM : Hid (∀ w, Calls Tryz.prog 123 #[.int .i64 1, .int .u8 117] w fun e w' => e = .returned (.bool true) ∧ w = w') := hid hM; have hS : Calls Tryz.prog 124 #[.pointer (some ⟨b, o + 1, none⟩), .int .u8 117] w fun e w' => e = .returned (.bool true) ∧ CPost w b (o + 1) st0 w' := step_at hC 117
  have HS := hid hS; have HT := hid hT; clear hT hM hC hS; go_enter Tryz.func120, Tryz.ntmps120; (go_wp2_with fail); refine (HM.out _).mono ?_; rintro e w' ⟨rfl, rfl⟩; (go_wp2_with fail); refine HS.out.mono ?_; rintro e w' ⟨rfl, hp⟩; have hT' := HT.out.sub hp.2 (.inr (by omega)); obtain ⟨⟨hd0, he0⟩, ⟨hd1, he1⟩, hd2, he2⟩ := hT'.zeros 1 0 h rfl rfl rfl; have HP := hid hp; have HO := hid (open_u w' b o 1 0 h hT'); clear hp hT'; (go_wp2_with fail); refine HO.out.mono ?_; rintro e w2 ⟨rfl, ha, hs⟩; have HA := hid (And.intro ha hs); clear ha hs; go_wp2; go_ret2; obtain ⟨ha, hs⟩ := HA.out; have hp := HP.out; exact ⟨rfl, hp.1.sub hs (.inl (by omega)), ha, (hp.2.widen (Nat.le_refl _) (by omega)).trans (hs.widen (by omega) (by omega))⟩
theorem take_low (w : World) (b o n c h : Nat) (hn : 2 ≤ n) (hh : 55296 ≤ h) (hC : CAt w b (o + 1) st0) (hT : At w b (o + 5) (tail3 n c h)) (x : UInt8) (hx : lowOk n x.toNat = true)
    (R : Value × Value) (Q : World → World → Prop)
    (hD : ∀ w1 : World, At w1 b (o + 5) (tail3 n c h) → Calls Tryz.prog 126 #[.pointer (some ⟨b, o, none⟩), .int .u8 x.toNat] w1 fun e w' => e = .returned (.tuple #[R.1, R.2]) ∧ Q w1 w') :
    Calls Tryz.prog 120 #[.pointer (some ⟨b, o, none⟩), .int .u8 x.toNat] w fun e w' => e = .returned (.tuple #[R.1, R.2]) ∧ ∃ w1, CPost w b (o + 1) st0 w1 ∧ Q w1 w' := by
  obtain ⟨⟨hc0, hf0⟩, ⟨hc1, hf1⟩, hc2, hf2⟩ := hT.zeros n c h rfl rfl rfl; obtain ⟨R1, R2⟩ := R; simp only [] at hD ⊢; obtain ⟨hx1, hx2, _, _, _⟩ := lowOk_byte hx; have z : ((h : Int) == 0) = false := by rw [beq_eq_false_iff_ne]; omega
  have z2 : ((h : Int) = 0) = False := by simp only [eq_iff_iff, iff_false]; omega
  have n1 : ((n : Int) == 1) = false := by rw [beq_eq_false_iff_ne]; omega
  have n0 : ((n : Int) == 0) = false := by rw [beq_eq_false_iff_ne]; omega
  have g : (((x.toNat : Nat) : Int) < 32) = False := by simp only [eq_iff_iff, iff_false]; omega
  have g2 : (((x.toNat : Nat) : Int) == 34) = false := u8z x 34 (by omega); have hM := mayPair_any n x.toNat; rw [hx] at hM; have HM := hid hM; have hS := step_at hC x; rw [step0, open_low hx1] at hS; have HS := hid hS; have HT := hid hT; have HD := hid hD; clear hT hn hS hC hx hD hM hx1 hx2; go_enter Tryz.func120, Tryz.ntmps120; (go_wp2_with fail); refine (HM.out _).mono ?_; rintro e w' ⟨rfl, rfl⟩; (go_wp2_with fail); refine HS.out.mono ?_; rintro e w1 ⟨rfl, hp⟩; have hT' := HT.out.sub hp.2 (.inr (by omega)); obtain ⟨⟨hd0, he0⟩, ⟨hd1, he1⟩, hd2, he2⟩ := hT'.zeros n c h rfl rfl rfl; have HO := hid (HD.out w1 hT'); have HP := hid hp; simp only [Option.isSome]; clear hp hT'; (go_wp2_with fail); refine HO.out.mono ?_; rintro e w2 ⟨rfl, hq⟩; have HQ := hid hq; clear hq; go_wp2; go_ret2; exact ⟨rfl, w1, HP.out, HQ.out⟩
theorem step_high_no {h k c : Nat} {x : UInt8} (hl : lowOk k x.toNat = false) : stepI (.high h k c) x = (.bad true, []) := by
  simp only [stepI]; rw [if_neg (by rw [hl]; decide)]
theorem step_high0 (h : Nat) : stepI (.high h 0 0) 92 = (.high h 1 0, []) := step_lt (by decide) (by decide) (by decide)
theorem step_high1 (h : Nat) : stepI (.high h 1 0) 117 = (.high h 2 0, []) := step_lt (by decide) (by decide) (by decide)
theorem take_high (w : World) (b o h k c : Nat) (hW : WfI (.high h k c)) (hC : CAt w b (o + 1) st0) (hT : At w b (o + 5) (tail3 k c h)) (x : UInt8) :
    Calls Tryz.prog 120 #[.pointer (some ⟨b, o, none⟩), .int .u8 x.toNat] w fun e w' =>
      e = .returned (.tuple #[.string ⟨(stepI (.high h k c) x).2.toArray⟩, .int .i64 (errI (stepI (.high h k c) x).1)]) ∧ TPost w b o (stepI (.high h k c) x).1 w' := by
  obtain ⟨hh1, hh2, hkc⟩ := hW; by_cases hl : lowOk k x.toNat = false
  · rw [step_high_no hl]
    refine (take_alone w b o h k c hh1 hT x hl).mono ?_; rintro e w' ⟨rfl, rfl⟩; exact ⟨rfl, tpost_ref⟩
  have hl' : lowOk k x.toNat = true := by simpa using hl
  obtain ⟨hx1, hx2, e0, e1, e2⟩ := lowOk_byte hl'; by_cases k0 : k = 0
  · subst k0
    obtain ⟨_, rfl⟩ : 0 ≤ 2 ∧ c = 0 := by omega
    have hx : x = 92 := UInt8.toNat_inj.1 (by rw [e0 rfl]; rfl); subst hx; rw [step_high0]; refine (take_high0 w b o h hh1 hC hT).mono ?_; rintro e w' ⟨rfl, hc, ha, hs⟩; exact ⟨rfl, hs, fun _ => ⟨⟨hh1, hh2, .inl ⟨by omega, rfl⟩⟩, hc, ha⟩⟩
  by_cases k1 : k = 1
  · subst k1
    obtain ⟨_, rfl⟩ : 1 ≤ 2 ∧ c = 0 := by omega
    have hx : x = 117 := UInt8.toNat_inj.1 (by rw [e1 rfl]; rfl); subst hx; rw [step_high1]; refine (take_high1 w b o h hh1 hC hT).mono ?_; rintro e w' ⟨rfl, hc, ha, hs⟩; exact ⟨rfl, hs, fun _ => ⟨⟨hh1, hh2, .inl ⟨by omega, rfl⟩⟩, hc, ha⟩⟩
  obtain ⟨d, hd⟩ := e2 (by omega); have hdl := (hexV_lt hd).1; by_cases k5 : k < 5
  · rw [step_lt hl' k5 (lowW_d (by omega) hd)]
    refine (take_low w b o k c h (by omega) hh1 hC hT x hl' (.string ⟨#[]⟩, .int .i64 0) (fun w1 w' => At w' b (o + 5) (tail3 (k + 1) (c * 16 + d) h) ∧ Sub b (o + 5) 3 w1 w')
      (fun w1 ht => digit_mid w1 b o k c h x.toNat d hd k5 (by omega) ht)).mono ?_
    rintro e w' ⟨rfl, w1, hc, ha, hs⟩; refine ⟨rfl, (hc.2.widen (Nat.le_refl _) (by omega)).trans (hs.widen (by omega) (by omega)), fun _ => ⟨⟨hh1, hh2, ?_⟩, hc.1.sub hs (.inl (by omega)), ha⟩⟩; by_cases k2 : k = 2
    · subst k2
      have := low_two hl' hd; omega
    by_cases k3 : k = 3
    · subst k3
      have := low_three hl' hd; omega
    · omega
  · have hk : k = 5 := by omega
    subst hk; rw [step_end hl' (lowW_d (by omega) hd)]; have hE := fun (w1 : World) ht => end_pair w1 b o 6 (c * 16 + d) h ⟨hh1, hh2⟩ (by omega) ht
    generalize encL (pairN h (c * 16 + d)) = l at hE ⊢; refine (take_low w b o 5 c h (by omega) hh1 hC hT x hl' (.string ⟨l.toArray⟩, .int .i64 0) (fun w1 w' => EndPost w1 b o 0 w')
      (fun w1 ht => digit_end w1 b o c h x.toNat d 0 (.string ⟨l.toArray⟩, .int .i64 0) hd (by omega) ht hE)).mono ?_
    rintro e w' ⟨rfl, w1, hc, ha, hs⟩; exact ⟨rfl, (hc.2.widen (Nat.le_refl _) (by omega)).trans (hs.widen (by omega) (by omega)), fun _ => ⟨⟨by omega, rfl, rfl⟩, hc.1.sub hs (.inl (by omega)), ha⟩⟩
end
section
open Go.RowKit
open Go.Lib
theorem at_block {w : World} {b : Nat} {c : Array Value} {t : TypeId} (h : w.heap[b]? = some (.cells c t (0, 0))) : At w b 0 c.toList := fun j u hj => by
  refine ⟨?_, ?_⟩
  · unfold World.cell?
    simp only [h]; simpa using hj
  · unfold World.frozen?
    simp only [h]; simp
end
section
open Go.RowKit
open Go.Lib
def EAt (w : World) (b o : Nat) (s : Ins) : Prop := At w b o [.int .i64 (errI s)] ∧ (errI s = 0 → WfI s ∧ CAt w b (o + 1) (utfI s) ∧ At w b (o + 5) (tail3 (seenI s) (codeI s) (highI s)))
theorem EAt.keep {w w' : World} {b o : Nat} {s : Ins} (h : EAt w b o s) (hk : w'.heap[b]? = w.heap[b]?) : EAt w' b o s := ⟨h.1.keep hk, fun e => ⟨(h.2 e).1, (h.2 e).2.1.keep hk, (h.2 e).2.2.keep hk⟩⟩
theorem EAt.wf {w : World} {b o : Nat} {s : Ins} (h : EAt w b o s) (e : errI s = 0) : WfI s := (h.2 e).1
theorem EAt.sub {w w' : World} {b o o' n : Nat} {s : Ins} (h : EAt w b o s) (k : Sub b o' n w w') (hd : o + 8 ≤ o' ∨ o' + n ≤ o) : EAt w' b o s :=
  ⟨h.1.sub k (by simp only [List.length_singleton]; omega), fun e => ⟨(h.2 e).1, (h.2 e).2.1.sub k (by omega), (h.2 e).2.2.sub k (by simp only [tail3, List.length_cons, List.length_nil]; omega)⟩⟩
theorem bad_of {s : Ins} (h : errI s ≠ 0) : ∃ u, s = .bad u := by
  match s with
  | .text _ _ _ => exact absurd rfl h
  | .back => exact absurd rfl h
  | .hex _ _ => exact absurd rfl h
  | .high _ _ _ => exact absurd rfl h
  | .bad u => exact ⟨u, rfl⟩
theorem take_at {w : World} {b o : Nat} {s : Ins} (he : errI s = 0) (hW : WfI s) (hC : CAt w b (o + 1) (utfI s)) (hT : At w b (o + 5) (tail3 (seenI s) (codeI s) (highI s))) (x : UInt8) :
    Calls Tryz.prog 120 #[.pointer (some ⟨b, o, none⟩), .int .u8 x.toNat] w fun e w' =>
      e = .returned (.tuple #[.string ⟨(stepI s x).2.toArray⟩, .int .i64 (errI (stepI s x).1)]) ∧ TPost w b o (stepI s x).1 w' := by
  match s with
  | .text n lo hi => exact take_text w b o n lo hi hW hC hT x
  | .back => exact take_back w b o hC hT x
  | .hex k v => exact take_hex w b o k v hW hC hT x
  | .high h k c => exact take_high w b o h k c hW hC hT x
  | .bad u => cases u <;> cases he
theorem estep_at {w : World} {b o : Nat} {s : Ins} (h : EAt w b o s) (x : UInt8) :
    Calls Tryz.prog 112 #[.pointer (some ⟨b, o, none⟩), .int .u8 x.toNat] w fun e w' =>
      e = .returned (.tuple #[.string ⟨(stepI s x).2.toArray⟩, .int .i64 (errI (stepI s x).1)]) ∧ EAt w' b o (stepI s x).1 ∧ Sub b o 8 w w' := by
  by_cases he : errI s = 0
  · obtain ⟨hA, hR⟩ := h
    obtain ⟨hW, hC, hT⟩ := hR he; have hK := take_at he hW hC hT x; obtain ⟨hc', hf⟩ := hA 0 _ rfl; have hc : w.cell? ⟨b, o, none⟩ = some (.int .i64 0) := by rw [he] at hc'; exact hc'
    have hP : ∀ w', TPost w b o (stepI s x).1 w' → (w'.cell? ⟨b, o, none⟩ = some (.int .i64 0) ∧ w'.frozen? ⟨b, o, none⟩ = false) ∧ EAt (w'.setCell ⟨b, o, none⟩ (.int .i64 (errI (stepI s x).1))) b o (stepI s x).1 ∧ Sub b o 8 w (w'.setCell ⟨b, o, none⟩ (.int .i64 (errI (stepI s x).1))) := by
      intro w' hp; have a1 := hA.sub hp.1 (.inl (by simp)); have hs := sub_setCell (b := b) (o := o) (n := 1) w' o (.int .i64 (errI (stepI s x).1)) (by omega); have a2 := a1 0 _ rfl; rw [he] at a2; refine ⟨a2, ⟨a1.set 0 (by simp) _, fun e => ?_⟩, (hp.1.widen (by omega) (by omega)).trans (hs.widen (by omega) (by omega))⟩; obtain ⟨q1, q2, q3⟩ := hp.2 e; exact ⟨q1, q2.sub hs (.inr (by omega)), q3.sub hs (.inr (by omega))⟩
    have HP := hid hP; have HK := hid hK; clear hP hK hA hR hW hC hT hc' he; generalize (stepI s x).1 = s' at *
    generalize (stepI s x).2 = l at *
    obtain ⟨z, hz⟩ : ∃ z : ByteArray, (⟨l.toArray⟩ : ByteArray) = z := ⟨_, rfl⟩
    rw [hz] at HK ⊢; clear hz; obtain ⟨E, hE⟩ : ∃ E, ((errI s' : Nat) : Int) = E := ⟨_, rfl⟩
    rw [hE] at HP HK ⊢; clear hE; go_enter Tryz.func112, Tryz.ntmps112; (go_wp2_with fail); refine HK.out.mono ?_; rintro e w' ⟨rfl, hp⟩; obtain ⟨⟨hc', hf'⟩, hq⟩ := HP.out w' hp; have HQ := hid hq; clear hp hq; go_wp2; go_ret2; exact ⟨rfl, HQ.out⟩
  · obtain ⟨u, rfl⟩ := bad_of he
    obtain ⟨hc, hf⟩ := h.1 0 _ rfl; have hE : (((errI (.bad u) : Nat) : Int) == 0) = false := by rw [beq_eq_false_iff_ne]; omega
    have hE2 : (((errI (.bad u) : Nat) : Int) = 0) = False := by simp only [eq_iff_iff, iff_false]; omega
    have hn : (0 : Int) < ((errI (.bad u) : Nat) : Int) := by omega
    simp only [stepI]; have HP : Hid (EAt w b o (.bad u)) := hid h; obtain ⟨E, hEE⟩ : ∃ E, ((errI (.bad u) : Nat) : Int) = E := ⟨_, rfl⟩
    rw [hEE] at hc hE hE2 hn ⊢; have hc0 : w.cell? ⟨b, o, none⟩ = some (.int .i64 E) := hc; clear h hc he hEE; go_enter Tryz.func112, Tryz.ntmps112; (go_wp2_with fail)
    go_region
    go_wp2; go_ret2; exact ⟨rfl, HP.out, (Sub.refl _ _ _ _).drew⟩
theorem ewhole_bad {w : World} {b o : Nat} {u : Bool} (h : EAt w b o (.bad u)) :
    Calls Tryz.prog 111 #[.pointer (some ⟨b, o, none⟩)] w fun e w' => e = .returned (.bool false) ∧ w = w' := by
  obtain ⟨hc, hf⟩ := h.1 0 _ rfl; have hE : (((errI (.bad u) : Nat) : Int) == 0) = false := by cases u <;> rfl
  obtain ⟨E, hEE⟩ : ∃ E, ((errI (.bad u) : Nat) : Int) = E := ⟨_, rfl⟩
  rw [hEE] at hc hE; have hc0 : w.cell? ⟨b, o, none⟩ = some (.int .i64 E) := hc; clear h hc hEE; go_enter Tryz.func111, Tryz.ntmps111; go_wp2; go_ret; exact ⟨rfl, rfl⟩
theorem ewhole_open {w : World} {b o n c hi : Nat} (h0 : At w b o [.int .i64 (0 : Nat)]) (hT : At w b (o + 5) (tail3 n c hi)) (hne : n ≠ 0 ∨ hi ≠ 0) :
    Calls Tryz.prog 111 #[.pointer (some ⟨b, o, none⟩)] w fun e w' => e = .returned (.bool false) ∧ w = w' := by
  obtain ⟨hc', hf⟩ := h0 0 _ rfl; have hc : w.cell? ⟨b, o, none⟩ = some (.int .i64 0) := hc'; obtain ⟨⟨hd0, he0⟩, ⟨hd1, he1⟩, hd2, he2⟩ := hT.tail; clear h0 hT hc'; by_cases hn : n = 0
  · subst hn
    have hd0' : w.cell? ⟨b, o + 5, none⟩ = some (.int .i64 0) := hd0; have z : ((hi : Int) == 0) = false := by rw [beq_eq_false_iff_ne]; omega
    clear hd0 hne; go_enter Tryz.func111, Tryz.ntmps111; go_wp2; go_ret; exact ⟨rfl, rfl⟩
  · have z : ((n : Int) == 0) = false := by rw [beq_eq_false_iff_ne]; omega
    clear hne; go_enter Tryz.func111, Tryz.ntmps111; go_wp2; go_ret; exact ⟨rfl, rfl⟩
theorem ewhole_text {w : World} {b o : Nat} {s : Option (Nat × Nat × Nat)} (h0 : At w b o [.int .i64 (0 : Nat)]) (hC : CAt w b (o + 1) s) (hT : At w b (o + 5) (tail3 0 0 0)) :
    Calls Tryz.prog 111 #[.pointer (some ⟨b, o, none⟩)] w fun e w' => e = .returned (.bool (wholeS s)) ∧ w = w' := by
  obtain ⟨hc', hf⟩ := h0 0 _ rfl; have hc : w.cell? ⟨b, o, none⟩ = some (.int .i64 0) := hc'; obtain ⟨⟨hd0, he0⟩, ⟨hd1, he1⟩, hd2, he2⟩ := hT.zeros 0 0 0 rfl rfl rfl; have HW := hid (whole_at hC); generalize wholeS s = q at *
  clear h0 hT hc' hC; go_enter Tryz.func111, Tryz.ntmps111; (go_wp2_with fail); refine HW.out.mono ?_; rintro e w' ⟨rfl, rfl⟩; go_wp2; go_ret; exact ⟨rfl, rfl⟩
theorem ewhole_at {w : World} {b o : Nat} {s : Ins} (h : EAt w b o s) :
    Calls Tryz.prog 111 #[.pointer (some ⟨b, o, none⟩)] w fun e w' => e = .returned (.bool (wholeI s)) ∧ w = w' := by
  match s with
  | .bad u => exact ewhole_bad h
  | .back =>
    obtain ⟨_, hC, hT⟩ := h.2 rfl; exact ewhole_open h.1 hT (.inl (by decide))
  | .hex k v =>
    obtain ⟨_, hC, hT⟩ := h.2 rfl; exact ewhole_open h.1 hT (.inl (by simp only [seenI]; omega))
  | .high a k c =>
    obtain ⟨hW, hC, hT⟩ := h.2 rfl; exact ewhole_open h.1 hT (.inr (by have := hW.1; simp only [highI]; omega))
  | .text n lo hi =>
    obtain ⟨_, hC, hT⟩ := h.2 rfl; have := ewhole_text h.1 hC hT; have e : wholeS (some (n, lo, hi)) = wholeI (.text n lo hi) := by cases n <;> rfl
    rw [← e]; exact this
abbrev rdZero : Array Value := #[.int .i64 0, .int .i64 0, .int .u8 0, .int .u8 0, .bool false, .int .i64 0, .int .i64 0, .int .i64 0]
theorem eat_of {w : World} {b o : Nat} (h : At w b o rdZero.toList) : EAt w b o insT := by
  have h1 : At w b o ([.int .i64 (0 : Nat)] ++ (ckCells 0 0 0 false ++ tail3 0 0 0)) := h; exact ⟨h1.left, fun _ => ⟨⟨by omega, rfl, rfl⟩, cat_zero (h1.right).left, (h1.right).right⟩⟩
def RBlk (w : World) (b : Nat) : Prop := ∃ c fr, w.heap[b]? = some (.cells c 127 fr)
theorem step_len {s : Ins} (hW : WfI s) (x : UInt8) : (stepI s x).2.length ≤ 4 := by
  match s with
  | .bad u => simp [stepI]
  | .text n lo hi =>
    simp only [stepI]
    repeat' split
    all_goals simp
  | .back =>
    simp only [stepI]
    repeat' split
    all_goals simp
  | .hex k v =>
    obtain ⟨hk, hv⟩ := hW; cases hh : hexV x.toNat with
    | none => rw [step_hex_none hh]; simp
    | some d =>
      by_cases h3 : k < 3
      · rw [step_hex_mid hh h3]; simp
      · have : k = 3 := by omega
        subst this; rw [step_hex_end hh]; have hd := (hexV_lt hh).1; have hcl : v * 16 + d < 65536 := by omega
        generalize v * 16 + d = c at *
        unfold endI; by_cases q1 : 56320 ≤ c ∧ c ≤ 57343
        · rw [if_pos q1]; simp
        · rw [if_neg q1]
          by_cases q2 : 55296 ≤ c ∧ c ≤ 56319
          · rw [if_pos q2]; simp
          · rw [if_neg q2]
            have h4 := (enc_len (rune_of hcl q1 q2)).2; generalize encL c = l at h4 ⊢; exact h4
  | .high h k c =>
    obtain ⟨hh1, hh2, hkc⟩ := hW; by_cases hl : lowOk k x.toNat = false
    · rw [step_high_no hl]; simp
    have hl' : lowOk k x.toNat = true := by simpa using hl
    by_cases k5 : k < 5
    · rw [step_lt hl' k5 rfl]; simp
    · have hk : k = 5 := by omega
      subst hk; obtain ⟨d, hd⟩ := (lowOk_byte hl').2.2.2.2 (by omega); have hdl := (hexV_lt hd).1; rw [step_end hl' (lowW_d (by omega) hd)]; have h4 := (enc_len (pair_rune (h := h) (c := c * 16 + d) ⟨hh1, hh2⟩ (by omega))).2; generalize encL (pairN h (c * 16 + d)) = l at h4 ⊢; exact h4
end
section
open Go.Shelf
def lays25_ren : Go.Shelf.Ren := ⟨fun | 25 => 135 | n => n, fun | 22 => 41 | n => n, fun | n => n⟩
theorem lays25 : Go.Proofs.Lays7.n25 Tryz.prog lays25_ren := {
  mixed := by kernel_rfl
  f25 := Tryz.func135.trans (congrArg some (by kernel_rfl))
  t22 := Tryz.underlying41
  a22 := Tryz.isAgg41
  z22 := Tryz.sizeOf41
  v22 := Tryz.zeroValue41
  i22 := by kernel_rfl }
theorem run_add64 (x y c : Nat) (hc : c ≤ 1) (w : World) : (callFunc 135 #[.int .u64 x, .int .u64 y, .int .u64 c]).run Tryz.prog w =
      .ok (.value (.tuple #[.int .u64 (((x + y + c) % 18446744073709551616 : Nat) : Int), .int .u64 (((x + y + c) / 18446744073709551616 : Nat) : Int)])) w := Any7.bits_Add64 lays25 x y c hc w
theorem below_dr {B : Nat} {w w' : World} (h : Go.RowKit.Below B w w') (q : Nat) : Go.RowKit.Below B w (w'.drewN q) := ⟨h.os, h.tape, h.output, h.size, h.block⟩
end
section
open Go.Shelf
def lays26_ren : Go.Shelf.Ren := ⟨fun | 26 => 118 | n => n, fun | 22 => 41 | n => n, fun | n => n⟩
theorem lays26 : Go.Proofs.Lays7.n26 Tryz.prog lays26_ren := {
  mixed := by kernel_rfl
  f26 := Tryz.func118.trans (congrArg some (by kernel_rfl))
  t22 := Tryz.underlying41
  a22 := Tryz.isAgg41
  z22 := Tryz.sizeOf41
  v22 := Tryz.zeroValue41
  i22 := by kernel_rfl }
open Go.RowKit
open Go.Lib
theorem run_sub64 (x y b : Nat) (hb : b ≤ 1) (w : World) : (callFunc 118 #[.int .u64 x, .int .u64 y, .int .u64 b]).run Tryz.prog w =
      .ok (.value (.tuple #[.int .u64 (((x + 18446744073709551616 - y - b) % 18446744073709551616 : Nat) : Int), .int .u64 ((if x < y + b then 1 else 0 : Nat) : Int)])) w := Any7.bits_Sub64 lays26 x y b hb w
end
section
open Go.Shelf
def lays264_ren : Go.Shelf.Ren := ⟨fun | 264 => 134 | n => n, fun | 53 => 41 | 46 => 85 | n => n, fun | n => n⟩
theorem lays264 : Go.Proofs.Lays.n264 Tryz.prog lays264_ren := {
  mixed := by kernel_rfl
  f264 := Tryz.func134.trans (congrArg some (by kernel_rfl))
  t46 := Tryz.underlying85
  a46 := Tryz.isAgg85
  z46 := Tryz.sizeOf85
  v46 := Tryz.zeroValue85
  t53 := Tryz.underlying41
  a53 := Tryz.isAgg41
  z53 := Tryz.sizeOf41
  v53 := Tryz.zeroValue41 }
open Go.RowKit Go.Lib in
theorem bits_Mul64 (x y : Nat) (hx : x < 18446744073709551616) (hy : y < 18446744073709551616) (w : World) :
    Calls Tryz.prog 134 #[.int .u64 x, .int .u64 y] w fun e w' => e = .returned (.tuple #[.int .u64 ((x * y / 18446744073709551616 : Nat) : Int), .int .u64 ((x * y % 18446744073709551616 : Nat) : Int)]) ∧ w' = w := Any.bits_Mul64 lays264 x y hx hy w
end
section
open Go.RowKit
open Go.Lib
def nmCells (e p : Nat) (m : Bool) (h l : Nat) : List Value := [.int .i64 e, .int .i64 p, .bool m, .int .u64 h, .int .u64 l]
def Fits (h l v : Nat) : Prop := h < 100 ∧ l < 18446744073709551616 ∧ (h * 18446744073709551616 + l = v ∨ 2 ≤ h ∧ 36893488147419103232 ≤ v)
def DAt (w : World) (b o : Nat) : Dec → Prop
  | .bad f => ∃ p m h l, At w b o (nmCells (errD (.bad f)) p m h l)
  | .num p m v => WfD (.num p m v) ∧ ∃ h l : Nat, At w b o (nmCells 0 p m h l) ∧ Fits h l v
theorem DAt.wf {w : World} {b o : Nat} {s : Dec} (h : DAt w b o s) : WfD s := by
  cases s with
  | bad f => trivial
  | num p m v => exact h.1
theorem DAt.cells {w : World} {b o : Nat} {s : Dec} (h : DAt w b o s) : ∃ p m hi lo, At w b o (nmCells (errD s) p m hi lo) := by
  cases s with
  | bad f => exact h
  | num p m v =>
    obtain ⟨_, hi, lo, h, _⟩ := h; exact ⟨p, m, hi, lo, h⟩
theorem DAt.map {w w' : World} {b o : Nat} {s : Dec} (h : DAt w b o s) (hk : ∀ vs : List Value, vs.length = 5 → At w b o vs → At w' b o vs) : DAt w' b o s := by
  cases s with
  | bad f =>
    obtain ⟨p, m, hi, lo, h⟩ := h; exact ⟨p, m, hi, lo, hk _ rfl h⟩
  | num p m v =>
    obtain ⟨hw, hi, lo, h, hf⟩ := h; exact ⟨hw, hi, lo, hk _ rfl h, hf⟩
theorem DAt.keep {w w' : World} {b o : Nat} {s : Dec} (h : DAt w b o s) (hk : w'.heap[b]? = w.heap[b]?) : DAt w' b o s := h.map fun _ _ h => h.keep hk
theorem DAt.sub {w w' : World} {b o o' n : Nat} {s : Dec} (h : DAt w b o s) (k : Sub b o' n w w') (hd : o + 5 ≤ o' ∨ o' + n ≤ o) : DAt w' b o s := h.map fun vs hv h => h.sub k (by omega)
theorem DAt.drewN {w : World} {b o : Nat} {s : Dec} (h : DAt w b o s) (q : Nat) : DAt (w.drewN q) b o s := h.map fun _ _ h => h
def DPost (w : World) (b o : Nat) (s : Dec) (w' : World) : Prop := DAt w' b o s ∧ Sub b o 5 w w'
theorem dat_zero {w : World} {b o : Nat} (h : At w b o (nmCells 0 0 false 0 0)) : DAt w b o d0 := ⟨wf0, 0, 0, h, by omega, by omega, .inl rfl⟩
theorem At.five {w : World} {b o : Nat} {v0 v1 v2 v3 v4 : Value} (h : At w b o [v0, v1, v2, v3, v4]) :
    (w.cell? ⟨b, o, none⟩ = some v0 ∧ w.frozen? ⟨b, o, none⟩ = false) ∧ (w.cell? ⟨b, o + 1, none⟩ = some v1 ∧ w.frozen? ⟨b, o + 1, none⟩ = false) ∧
    (w.cell? ⟨b, o + 2, none⟩ = some v2 ∧ w.frozen? ⟨b, o + 2, none⟩ = false) ∧ (w.cell? ⟨b, o + 3, none⟩ = some v3 ∧ w.frozen? ⟨b, o + 3, none⟩ = false) ∧
    (w.cell? ⟨b, o + 4, none⟩ = some v4 ∧ w.frozen? ⟨b, o + 4, none⟩ = false) :=
  ⟨h 0 v0 rfl, h 1 v1 rfl, h 2 v2 rfl, h 3 v3 rfl, h 4 v4 rfl⟩
theorem isDigit_any (x : Nat) (q : Bool) (hq : q = decide (48 ≤ x ∧ x ≤ 57)) (w : World) :
    Calls Tryz.prog 127 #[.int .u8 x] w fun e w' => e = .returned (.bool q) ∧ w = w' := by
  subst hq; by_cases a1 : (48 : Int) ≤ x
  · by_cases a2 : (x : Int) ≤ 57
    · have he : decide (48 ≤ x ∧ x ≤ 57) = true := by simp; omega
      rw [he]; go_enter Tryz.func127, Tryz.ntmps127; go_wp2; go_ret; exact ⟨rfl, rfl⟩
    · have he : decide (48 ≤ x ∧ x ≤ 57) = false := by simp; omega
      rw [he]; go_enter Tryz.func127, Tryz.ntmps127; go_wp2; go_ret; exact ⟨rfl, rfl⟩
  · have he : decide (48 ≤ x ∧ x ≤ 57) = false := by simp; omega
    rw [he]; go_enter Tryz.func127, Tryz.ntmps127; go_wp2; go_ret; exact ⟨rfl, rfl⟩
theorem has_at {w : World} {b o : Nat} (p : Nat) (hp : p ≤ 3) (hc : w.cell? ⟨b, o + 1, none⟩ = some (.int .i64 p)) (q : Bool) (hq : q = decide (2 ≤ p)) :
    Calls Tryz.prog 109 #[.pointer (some ⟨b, o, none⟩)] w fun e w' => e = .returned (.bool q) ∧ w = w' := by
  subst hq; rcases (show p = 0 ∨ p = 1 ∨ p = 2 ∨ p = 3 by omega) with rfl | rfl | rfl | rfl
  all_goals
    go_enter Tryz.func109, Tryz.ntmps109; go_wp2; go_ret; exact ⟨rfl, rfl⟩
theorem mul64 (x : Nat) (hx : x < 18446744073709551616) (w : World) :
    Calls Tryz.prog 134 #[.int .u64 x, .int .u64 10] w fun e w' => e = .returned (.tuple #[.int .u64 ((x * 10 / 18446744073709551616 : Nat) : Int), .int .u64 ((x * 10 % 18446744073709551616 : Nat) : Int)]) ∧ w' = w := bits_Mul64 x 10 hx (by decide) w
theorem nm_set1 {w : World} {b o : Nat} {e p : Nat} {m : Bool} {h l : Nat} (q : Nat) (hA : At w b o (nmCells e p m h l)) :
    At (w.setCell ⟨b, o + 1, none⟩ (.int .i64 q)) b o (nmCells e q m h l) ∧ Sub b o 5 w (w.setCell ⟨b, o + 1, none⟩ (.int .i64 q)) :=
  ⟨hA.set 1 (by simp [nmCells]) _, sub_setCell w (o + 1) _ (by omega)⟩
theorem add_zero {w : World} {b o : Nat} {p : Nat} {m : Bool} {h l : Nat} (hp : p < 2) (hA : At w b o (nmCells 0 p m h l)) :
    Calls Tryz.prog 128 #[.pointer (some ⟨b, o, none⟩), .int .u8 48] w fun e w' => e = .returned (.tuple #[]) ∧ At w' b o (nmCells 0 2 m h l) ∧ Sub b o 5 w w' := by
  obtain ⟨_, ⟨hc, hf⟩, _⟩ := hA.five; have HP := hid (nm_set1 2 hA); have HD := hid (has_at p (by omega) hc false (by simp; omega)); clear hA; go_enter Tryz.func128, Tryz.ntmps128; (go_wp2_with fail); refine HD.out.mono ?_; rintro e w' ⟨rfl, rfl⟩; go_wp2; refine bodyPost_ret (results_none rfl _ _ _) rfl ?_; exact ⟨rfl, HP.out⟩
theorem add_great {w : World} {b o : Nat} {p : Nat} {m : Bool} {h l x : Nat} (hp : p ≤ 3) (hx : x ≠ 48 ∨ 2 ≤ p) (hh : 1 < h) (hA : At w b o (nmCells 0 p m h l)) :
    Calls Tryz.prog 128 #[.pointer (some ⟨b, o, none⟩), .int .u8 x] w fun e w' => e = .returned (.tuple #[]) ∧ At w' b o (nmCells 0 3 m h l) ∧ Sub b o 5 w w' := by
  obtain ⟨_, ⟨hc, hf⟩, _, ⟨hch, _⟩, _⟩ := hA.five; have HP := hid (nm_set1 3 hA); have hh' : (1 : Int) < h := by omega
  clear hA; by_cases h48 : x = 48
  · subst h48
    have HD := hid (has_at p hp hc true (by simp; omega)); go_enter Tryz.func128, Tryz.ntmps128; (go_wp2_with fail); refine HD.out.mono ?_; rintro e w' ⟨rfl, rfl⟩; go_wp2; refine bodyPost_ret (results_none rfl _ _ _) rfl ?_; exact ⟨rfl, HP.out⟩
  · have hz : ((x : Int) == 48) = false := by rw [beq_eq_false_iff_ne]; omega
    clear hx; go_enter Tryz.func128, Tryz.ntmps128; go_wp2; refine bodyPost_ret (results_none rfl _ _ _) rfl ?_; exact ⟨rfl, HP.out⟩
theorem nm_set134 {w : World} {b o : Nat} {e p : Nat} {m : Bool} {h l : Nat} (q h' l' : Nat) (hA : At w b o (nmCells e p m h l)) :
    At (((w.setCell ⟨b, o + 1, none⟩ (.int .i64 q)).setCell ⟨b, o + 3, none⟩ (.int .u64 h')).setCell ⟨b, o + 4, none⟩ (.int .u64 l')) b o (nmCells e q m h' l') ∧
    Sub b o 5 w (((w.setCell ⟨b, o + 1, none⟩ (.int .i64 q)).setCell ⟨b, o + 3, none⟩ (.int .u64 h')).setCell ⟨b, o + 4, none⟩ (.int .u64 l')) :=
  ⟨((hA.set 1 (by simp [nmCells]) (.int .i64 q)).set 3 (by simp [nmCells]) (.int .u64 h')).set 4 (by simp [nmCells]) (.int .u64 l'),
   ((sub_setCell w (o + 1) _ (by omega)).setCell (o + 3) _ (by omega)).setCell (o + 4) _ (by omega)⟩
theorem add_digit {w : World} {b o : Nat} {p : Nat} {m : Bool} {h l x d : Nat} (hp : p ≤ 3) (hx : x ≠ 48 ∨ 2 ≤ p) (hd : x = 48 + d) (hd9 : d ≤ 9) (hh : h ≤ 1) (hl : l < 18446744073709551616) (hA : At w b o (nmCells 0 p m h l)) :
    Calls Tryz.prog 128 #[.pointer (some ⟨b, o, none⟩), .int .u8 x] w fun e w' => e = .returned (.tuple #[]) ∧
      At w' b o (nmCells 0 3 m (h * 10 + l * 10 / 18446744073709551616 + (l * 10 % 18446744073709551616 + d) / 18446744073709551616) ((l * 10 % 18446744073709551616 + d) % 18446744073709551616)) ∧ Sub b o 5 w w' := by
  obtain ⟨_, ⟨hc, hf⟩, _, ⟨hch, hfh⟩, hcl, hfl⟩ := hA.five; obtain ⟨c, hcc⟩ : ∃ c, l * 10 / 18446744073709551616 = c := ⟨_, rfl⟩
  obtain ⟨lo, hlo⟩ : ∃ lo, l * 10 % 18446744073709551616 = lo := ⟨_, rfl⟩
  have hM := mul64 l hl; rw [hcc, hlo] at hM ⊢; have hA2 : ∀ W, (callFunc 135 #[.int .u64 lo, .int .u64 d, .int .u64 0]).run Tryz.prog W = .ok (.value (.tuple #[.int .u64 (((lo + d) % 18446744073709551616 : Nat) : Int), .int .u64 (((lo + d) / 18446744073709551616 : Nat) : Int)])) W := fun W => run_add64 lo d 0 (by decide) W
  obtain ⟨k, hk⟩ : ∃ k, (lo + d) / 18446744073709551616 = k := ⟨_, rfl⟩
  obtain ⟨l2, hl2⟩ : ∃ l2, (lo + d) % 18446744073709551616 = l2 := ⟨_, rfl⟩
  rw [hk, hl2] at hA2 ⊢; have HP := hid (nm_set134 3 (h * 10 + c + k) l2 hA); have hc9 : c ≤ 9 := by omega
  have hk1 : k ≤ 1 := by omega
  have hw1 : IntKind.u64.wrap ((h : Int) * 10) = (h : Int) * 10 := wrap_u64_of _ (by omega) (by omega); have hw2 : IntKind.u64.wrap ((h : Int) * 10 + (c : Int)) = (h : Int) * 10 + (c : Int) := wrap_u64_of _ (by omega) (by omega); have hw3 : IntKind.u64.wrap ((h : Int) * 10 + (c : Int) + (k : Int)) = ((h * 10 + c + k : Nat) : Int) := by rw [wrap_u64_of _ (by omega) (by omega)]; omega
  have hw4 : IntKind.u8.wrap ((x : Int) - 48) = (d : Int) := by rw [wrap_u8_of _ (by omega) (by omega)]; omega
  have hw5 : IntKind.u64.wrap (d : Int) = (d : Int) := wrap_u64_of _ (by omega) (by omega); have hh' : ¬ (1 : Int) < h := by omega
  have HM := hid hM; have HA2 := hid hA2; generalize h * 10 + c + k = h2 at *
  clear hA hM hA2 hcc hlo hk hl2 hc9 hk1 hh hl hd9; by_cases h48 : x = 48
  · subst h48
    have HD := hid (has_at p hp hc true (by simp; omega)); obtain rfl : d = 0 := by omega
    have hA3 : ∀ W, (callFunc 135 #[.int .u64 lo, .int .u64 0, .int .u64 0]).run Tryz.prog W = .ok (.value (.tuple #[.int .u64 l2, .int .u64 k])) W := HA2.out; have HA3 := hid hA3; clear hx hp hd hA3 HA2 hw4 hw5; go_enter Tryz.func128, Tryz.ntmps128; (go_wp2_with fail); refine HD.out.mono ?_; rintro e w' ⟨rfl, rfl⟩
    go_wp2_with (first | (go_at_call 134; refine (HM.out _).mono ?_; rintro e w' ⟨rfl, rfl⟩) | simp only [HA3.out])
    go_end0
    exact ⟨rfl, HP.out⟩
  · have hz : ((x : Int) == 48) = false := by rw [beq_eq_false_iff_ne]; omega
    clear hx hp hd; go_enter Tryz.func128, Tryz.ntmps128
    go_wp2_with (first | (go_at_call 134; refine (HM.out _).mono ?_; rintro e w' ⟨rfl, rfl⟩) | simp only [HA2.out])
    go_end0
    exact ⟨rfl, HP.out⟩
end
section
open Go.RowKit
open Go.Lib
theorem fits_step {h l v d : Nat} (hf : Fits h l v) (hh : h ≤ 1) (hd : d ≤ 9) : Fits (h * 10 + l * 10 / 18446744073709551616 + (l * 10 % 18446744073709551616 + d) / 18446744073709551616) ((l * 10 % 18446744073709551616 + d) % 18446744073709551616) (v * 10 + d) := by
  obtain ⟨h1, h2, h3⟩ := hf; refine ⟨by omega, by omega, .inl ?_⟩; omega
theorem fits_great {h l v d : Nat} (hf : Fits h l v) (hh : 2 ≤ h) : Fits h l (v * 10 + d) := by
  obtain ⟨h1, h2, h3⟩ := hf; exact ⟨h1, h2, .inr ⟨hh, by omega⟩⟩
theorem add_at {w : World} {b o : Nat} {p : Nat} {m : Bool} {v x : Nat} (hp : p ≠ 2) (hx : 48 ≤ x ∧ x ≤ 57) (h : DAt w b o (.num p m v)) :
    Calls Tryz.prog 128 #[.pointer (some ⟨b, o, none⟩), .int .u8 x] w fun e w' => e = .returned (.tuple #[]) ∧ DPost w b o (stepD (.num p m v) x).1 w' := by
  obtain ⟨hw, hi, lo, hA, hf⟩ := h; have hwf := wf_stepD (.num p m v) x hw; obtain ⟨h1, h2, h3, h4, h5⟩ := hw; simp only [stepD] at hwf ⊢; rw [if_neg (by omega), if_pos ⟨hx, hp⟩] at hwf ⊢; by_cases hz : x = 48 ∧ p < 2
  · obtain ⟨rfl, hp2⟩ := hz
    rw [if_pos ⟨by trivial, hp2⟩] at hwf ⊢; refine (add_zero hp2 hA).mono ?_; rintro e w' ⟨rfl, hA', hS⟩; exact ⟨rfl, ⟨hwf, hi, lo, hA', hf⟩, hS⟩
  · rw [if_neg hz] at hwf ⊢
    by_cases hg : 1 < hi
    · refine (add_great (by omega) (by omega) hg hA).mono ?_
      rintro e w' ⟨rfl, hA', hS⟩; exact ⟨rfl, ⟨hwf, hi, lo, hA', fits_great hf (by omega)⟩, hS⟩
    · refine (add_digit (d := x - 48) (by omega) (by omega) (by omega) (by omega) (by omega) hf.2.1 hA).mono ?_
      rintro e w' ⟨rfl, hA', hS⟩; exact ⟨rfl, ⟨hwf, _, _, hA', fits_step hf (by omega) (by omega)⟩, hS⟩
theorem nm_set21 {w : World} {b o : Nat} {e p : Nat} {m : Bool} {h l : Nat} (hA : At w b o (nmCells e p m h l)) :
    At ((w.setCell ⟨b, o + 2, none⟩ (.bool true)).setCell ⟨b, o + 1, none⟩ (.int .i64 1)) b o (nmCells e 1 true h l) ∧
    Sub b o 5 w ((w.setCell ⟨b, o + 2, none⟩ (.bool true)).setCell ⟨b, o + 1, none⟩ (.int .i64 1)) :=
  ⟨(hA.set 2 (by simp [nmCells]) (.bool true)).set 1 (by simp [nmCells]) (.int .i64 1), (sub_setCell w (o + 2) _ (by omega)).setCell (o + 1) _ (by omega)⟩
theorem take_minus {w : World} {b o : Nat} {m : Bool} {v : Nat} (h : DAt w b o (.num 0 m v)) :
    Calls Tryz.prog 121 #[.pointer (some ⟨b, o, none⟩), .int .u8 45] w fun e w' => e = .returned (.tuple #[.bool true, .int .i64 0]) ∧ DPost w b o (.num 1 true v) w' := by
  obtain ⟨hw, hi, lo, hA, hf⟩ := h; have hwf : WfD (.num 1 true v) := ⟨by omega, fun _ => hw.2.1 (by omega), by omega, by omega, fun _ => rfl⟩
  obtain ⟨_, ⟨hc1, hf1⟩, ⟨hc2, hf2⟩, _⟩ := hA.five; obtain ⟨k1, k2⟩ := nm_set21 hA; have HP : Hid (DPost w b o (.num 1 true v) _) := hid ⟨⟨hwf, hi, lo, k1, hf⟩, k2⟩; clear hA hw hwf hf k1 k2; go_enter Tryz.func121, Tryz.ntmps121; go_wp2; go_ret2; exact ⟨rfl, HP.out⟩
theorem dtake_digit {w : World} {b o : Nat} {p : Nat} {m : Bool} {v x : Nat} (hp : p ≠ 2) (hx : 48 ≤ x ∧ x ≤ 57) (h : DAt w b o (.num p m v)) :
    Calls Tryz.prog 121 #[.pointer (some ⟨b, o, none⟩), .int .u8 x] w fun e w' => e = .returned (.tuple #[.bool true, .int .i64 0]) ∧ DPost w b o (stepD (.num p m v) x).1 w' := by
  have HA := hid (add_at hp hx h); have HI := hid (isDigit_any x true (by simp; omega)); obtain ⟨_, hi, lo, hA, _⟩ := h; obtain ⟨_, ⟨hc1, _⟩, _⟩ := hA.five; have hz : ((x : Int) == 45) = false := by rw [beq_eq_false_iff_ne]; omega
  have hz2 : ((p : Int) != 2) = true := by simp; omega
  clear hA hx hp; go_enter Tryz.func121, Tryz.ntmps121; (go_wp2_with fail); refine (HI.out _).mono ?_; rintro e w1 ⟨rfl, rfl⟩; (go_wp2_with fail); refine HA.out.mono ?_; rintro e w1 ⟨rfl, hP⟩; have HP := hid hP; clear hP; go_wp2; go_ret2; exact ⟨rfl, HP.out⟩
theorem take_behind {w : World} {b o : Nat} {x : Nat} (hc1 : w.cell? ⟨b, o + 1, none⟩ = some (.int .i64 2)) (hx : 48 ≤ x ∧ x ≤ 57) :
    Calls Tryz.prog 121 #[.pointer (some ⟨b, o, none⟩), .int .u8 x] w fun r w' => r = .returned (.tuple #[.bool false, .int .i64 2]) ∧ w = w' := by
  have HI := hid (isDigit_any x true (by simp; omega)); have hz : ((x : Int) == 45) = false := by rw [beq_eq_false_iff_ne]; omega
  clear hx; go_enter Tryz.func121, Tryz.ntmps121; (go_wp2_with fail); refine (HI.out _).mono ?_; rintro r w1 ⟨rfl, rfl⟩; (go_wp2_with fail); refine (HI.out _).mono ?_; rintro r w1 ⟨rfl, rfl⟩; go_wp2; go_ret2; exact ⟨rfl, rfl⟩
theorem take_ahead {w : World} {b o : Nat} {p x : Nat} (hc1 : w.cell? ⟨b, o + 1, none⟩ = some (.int .i64 p)) (hp : p < 2) (hx : ¬ (48 ≤ x ∧ x ≤ 57)) (h45 : ¬ (x = 45 ∧ p = 0)) :
    Calls Tryz.prog 121 #[.pointer (some ⟨b, o, none⟩), .int .u8 x] w fun r w' => r = .returned (.tuple #[.bool false, .int .i64 2]) ∧ w = w' := by
  have HI := hid (isDigit_any x false (by simp; omega)); have HH := hid (has_at p (by omega) hc1 false (by simp; omega)); by_cases h : x = 45
  · subst h
    obtain rfl : p = 1 := by omega
    clear hx hp h45; go_enter Tryz.func121, Tryz.ntmps121; (go_wp2_with fail); refine (HI.out _).mono ?_; rintro r w1 ⟨rfl, rfl⟩; (go_wp2_with fail); refine (HI.out _).mono ?_; rintro r w1 ⟨rfl, rfl⟩; (go_wp2_with fail); refine HH.out.mono ?_; rintro r w1 ⟨rfl, rfl⟩; go_wp2; go_ret2; exact ⟨rfl, rfl⟩
  · have hz : ((x : Int) == 45) = false := by rw [beq_eq_false_iff_ne]; omega
    clear hx hp h45 h; go_enter Tryz.func121, Tryz.ntmps121; (go_wp2_with fail); refine (HI.out _).mono ?_; rintro r w1 ⟨rfl, rfl⟩; (go_wp2_with fail); refine (HI.out _).mono ?_; rintro r w1 ⟨rfl, rfl⟩; (go_wp2_with fail); refine HH.out.mono ?_; rintro r w1 ⟨rfl, rfl⟩; go_wp2; go_ret2; exact ⟨rfl, rfl⟩
theorem dtake_end {w : World} {b o : Nat} {p x : Nat} (hc1 : w.cell? ⟨b, o + 1, none⟩ = some (.int .i64 p)) (hp : p = 2 ∨ p = 3) (hx : ¬ (48 ≤ x ∧ x ≤ 57)) (e : Nat) (he : e = if x = 46 ∨ x = 101 ∨ x = 69 then 6 else 0) :
    Calls Tryz.prog 121 #[.pointer (some ⟨b, o, none⟩), .int .u8 x] w fun r w' => r = .returned (.tuple #[.bool false, .int .i64 e]) ∧ w = w' := by
  have HI := hid (isDigit_any x false (by simp; omega)); have HH := hid (has_at p (by omega) hc1 true (by simp; omega)); by_cases a1 : x = 46
  · obtain rfl : e = 6 := by rw [he, if_pos (by omega)]
    clear he hx; subst a1; rcases hp with rfl | rfl
    all_goals
      go_enter Tryz.func121, Tryz.ntmps121; (go_wp2_with fail); refine (HI.out _).mono ?_; rintro r w1 ⟨rfl, rfl⟩; (go_wp2_with fail); refine (HI.out _).mono ?_; rintro r w1 ⟨rfl, rfl⟩; (go_wp2_with fail); refine HH.out.mono ?_; rintro r w1 ⟨rfl, rfl⟩; go_wp2; go_ret2; exact ⟨rfl, rfl⟩
  by_cases a2 : x = 101
  · obtain rfl : e = 6 := by rw [he, if_pos (by omega)]
    clear he hx a1; subst a2; rcases hp with rfl | rfl
    all_goals
      go_enter Tryz.func121, Tryz.ntmps121; (go_wp2_with fail); refine (HI.out _).mono ?_; rintro r w1 ⟨rfl, rfl⟩; (go_wp2_with fail); refine (HI.out _).mono ?_; rintro r w1 ⟨rfl, rfl⟩; (go_wp2_with fail); refine HH.out.mono ?_; rintro r w1 ⟨rfl, rfl⟩; go_wp2; go_ret2; exact ⟨rfl, rfl⟩
  by_cases a3 : x = 69
  · obtain rfl : e = 6 := by rw [he, if_pos (by omega)]
    clear he hx a1 a2; subst a3; rcases hp with rfl | rfl
    all_goals
      go_enter Tryz.func121, Tryz.ntmps121; (go_wp2_with fail); refine (HI.out _).mono ?_; rintro r w1 ⟨rfl, rfl⟩; (go_wp2_with fail); refine (HI.out _).mono ?_; rintro r w1 ⟨rfl, rfl⟩; (go_wp2_with fail); refine HH.out.mono ?_; rintro r w1 ⟨rfl, rfl⟩; go_wp2; go_ret2; exact ⟨rfl, rfl⟩
  obtain rfl : e = 0 := by rw [he, if_neg (by omega)]
  have z1 : ((x : Int) == 46) = false := by rw [beq_eq_false_iff_ne]; omega
  have z2 : ((x : Int) == 101) = false := by rw [beq_eq_false_iff_ne]; omega
  have z3 : ((x : Int) == 69) = false := by rw [beq_eq_false_iff_ne]; omega
  clear he hx a1 a2 a3; by_cases a4 : x = 45
  · subst a4
    clear z1 z2 z3; rcases hp with rfl | rfl
    all_goals
      go_enter Tryz.func121, Tryz.ntmps121; (go_wp2_with fail); refine (HI.out _).mono ?_; rintro r w1 ⟨rfl, rfl⟩; (go_wp2_with fail); refine (HI.out _).mono ?_; rintro r w1 ⟨rfl, rfl⟩; (go_wp2_with fail); refine HH.out.mono ?_; rintro r w1 ⟨rfl, rfl⟩; go_wp2; go_ret2; exact ⟨rfl, rfl⟩
  · have z4 : ((x : Int) == 45) = false := by rw [beq_eq_false_iff_ne]; omega
    clear a4; rcases hp with rfl | rfl
    all_goals
      go_enter Tryz.func121, Tryz.ntmps121; (go_wp2_with fail); refine (HI.out _).mono ?_; rintro r w1 ⟨rfl, rfl⟩; (go_wp2_with fail); refine (HI.out _).mono ?_; rintro r w1 ⟨rfl, rfl⟩; (go_wp2_with fail); refine HH.out.mono ?_; rintro r w1 ⟨rfl, rfl⟩; go_wp2; go_ret2; exact ⟨rfl, rfl⟩
theorem take_none {w : World} {b o : Nat} {p : Nat} {m : Bool} {v x : Nat} (h : DAt w b o (.num p m v)) (h1 : ¬ (x = 45 ∧ p = 0)) (h2 : ¬ ((48 ≤ x ∧ x ≤ 57) ∧ p ≠ 2)) (e : Nat) (he : e = errD (stepD (.num p m v) x).1) :
    Calls Tryz.prog 121 #[.pointer (some ⟨b, o, none⟩), .int .u8 x] w fun r w' => r = .returned (.tuple #[.bool false, .int .i64 e]) ∧ w = w' := by
  obtain ⟨hw, hi, lo, hA, _⟩ := h; obtain ⟨hp3, _⟩ := hw; obtain ⟨_, ⟨hc1, _⟩, _⟩ := hA.five; clear hA; simp only [stepD] at he; rw [if_neg h1, if_neg h2] at he; by_cases hd : 48 ≤ x ∧ x ≤ 57
  · obtain rfl : p = 2 := by omega
    rw [if_pos (.inl hd)] at he; subst he; exact take_behind hc1 hd
  · by_cases hp : p < 2
    · rw [if_pos (.inr hp)] at he
      subst he; exact take_ahead hc1 hp hd h1
    · rw [if_neg (by omega)] at he
      refine dtake_end hc1 (by omega) hd e ?_; rw [he]; split <;> rfl
end
end Go.Proofs.YtkgconbdmnmbnaaGreat
