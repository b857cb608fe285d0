/-
  CONTRACTS of escape.Reader, part D: take within an escape's digits, and behind a high surrogate.
-/
import Derived.Test.YteonbajndghfcaaEscC
namespace Go.Proofs.Yteonbajndghfcaa
open Go.RowKit
open Go.Lib
theorem hex_none {x : UInt8} (h : x.toNat < 48) : hexV x.toNat = none := by
  cases hh : hexV x.toNat with
  | none => rfl
  | some d => have := (hexV_lt hh).2.2; omega
theorem hex_none_hi {x : UInt8} (h : openS x.toNat = none) : hexV x.toNat = none := by
  cases hh : hexV x.toNat with
  | none => rfl
  | some d =>
    rw [open_low (hexV_lt hh).2.1] at h
    cases h
theorem step_hex_none {k v : Nat} {x : UInt8} (h : hexV x.toNat = none) : stepI (.hex k v) x = (.bad (openS x.toNat).isNone, []) := by
  simp only [stepI, h]
theorem step_hex_mid {k v d : Nat} {x : UInt8} (h : hexV x.toNat = some d) (hk : k < 3) : stepI (.hex k v) x = (.hex (k + 1) (v * 16 + d), []) := by
  simp only [stepI, h]
  rw [if_pos hk]
theorem pow_lt {k v d : Nat} (hv : v < 16 ^ k) (hd : d < 16) : v * 16 + d < 16 ^ (k + 1) := by
  rw [Nat.pow_succ]
  omega
/-- The state behind the last digit. -/
def endI (c : Nat) : Ins × List UInt8 := if 56320 ≤ c ∧ c ≤ 57343 then (.bad true, []) else if 55296 ≤ c ∧ c ≤ 56319 then (.high c 0 0, []) else (insT, encL c)
theorem step_hex_end {v d : Nat} {x : UInt8} (h : hexV x.toNat = some d) : stepI (.hex 3 v) x = endI (v * 16 + d) := by
  simp only [stepI, h]
  rw [if_neg (by omega)]
  rfl
set_option maxRecDepth 100000 in
set_option maxHeartbeats 1600000 in
/-- Of a byte that is told ahead of utf.Check: below 32, or a quote. -/
theorem take_early (w : World) (b o n : Nat) (c h : Nat) (hn : 2 ≤ n) (hh : h = 0) (hT : At w b (o + 5) (tail3 n c h)) (x : UInt8) (hx : x.toNat < 32 ∨ x.toNat = 34) :
    Calls Try.prog 35 #[.pointer (some ⟨b, o, none⟩), .int .u8 x.toNat] w fun e w' => e = .returned (.tuple #[.string ⟨#[]⟩, .int .i64 2]) ∧ w = w' := by
  obtain ⟨⟨hc0, hf0⟩, ⟨hc1, hf1⟩, hc2, hf2⟩ := hT.zeros n c 0 rfl rfl (by rw [hh]; rfl)
  have n1 : ((n : Int) == 1) = false := by rw [beq_eq_false_iff_ne]; omega
  clear hT hh hn
  by_cases h32 : x.toNat < 32
  · have g : (((x.toNat : Nat) : Int) < 32) = True := by simp only [eq_iff_iff, iff_true]; omega
    clear hx h32
    go_enter Try.func35, Try.ntmps35
    go_wp2
    go_ret2
    exact ⟨rfl, rfl⟩
  · have g : (((x.toNat : Nat) : Int) < 32) = False := by simp only [eq_iff_iff, iff_false]; omega
    have g2 : (((x.toNat : Nat) : Int) == 34) = true := by rw [beq_iff_eq]; omega
    clear hx h32
    go_enter Try.func35, Try.ntmps35
    go_wp2
    go_ret2
    exact ⟨rfl, rfl⟩
set_option maxRecDepth 100000 in
set_option maxHeartbeats 1600000 in
/-- Of a byte that utf.Check refuses. -/
theorem take_utf (w : World) (b o n c : Nat) (hn : 2 ≤ n) (hC : CAt w b (o + 1) st0) (hT : At w b (o + 5) (tail3 n c 0)) (x : UInt8) (hx : openS x.toNat = none) :
    Calls Try.prog 35 #[.pointer (some ⟨b, o, none⟩), .int .u8 x.toNat] w fun e w' => e = .returned (.tuple #[.string ⟨#[]⟩, .int .i64 9]) ∧ Sub b (o + 1) 4 w w' := by
  obtain ⟨⟨hc0, hf0⟩, ⟨hc1, hf1⟩, hc2, hf2⟩ := hT.zeros n c 0 rfl rfl rfl
  have n1 : ((n : Int) == 1) = false := by rw [beq_eq_false_iff_ne]; omega
  have hlt : ¬ x.toNat < 128 := fun h => by rw [open_low h] at hx; cases hx
  have g : (((x.toNat : Nat) : Int) < 32) = False := by simp only [eq_iff_iff, iff_false]; omega
  have g2 : (((x.toNat : Nat) : Int) == 34) = false := u8z x 34 (by omega)
  have hS := step_at hC x
  rw [step0, hx] at hS
  have HS := Lib.hid hS
  clear hT hn hS hC hx hlt
  go_enter Try.func35, Try.ntmps35
  go_wp2_with fail
  refine HS.out.mono ?_
  rintro e w' ⟨rfl, hp⟩
  have HP := Lib.hid hp.2
  simp only [Option.isSome]
  clear hp
  go_wp2
  go_ret2
  exact ⟨rfl, HP.out⟩
set_option maxRecDepth 100000 in
set_option maxHeartbeats 1600000 in
/-- Of a byte that digit takes: what digit tells. -/
theorem take_digit (w : World) (b o n c : Nat) (hn : 2 ≤ n) (hC : CAt w b (o + 1) st0) (hT : At w b (o + 5) (tail3 n c 0)) (x : UInt8) (p : Nat × Nat × Nat) (hx : openS x.toNat = some p) (h1 : 32 ≤ x.toNat) (h2 : x.toNat ≠ 34)
    (R : Value × Value) (Q : World → World → Prop)
    (hD : ∀ w1 : World, At w1 b (o + 5) (tail3 n c 0) → Calls Try.prog 42 #[.pointer (some ⟨b, o, none⟩), .int .u8 x.toNat] w1 fun e w' => e = .returned (.tuple #[R.1, R.2]) ∧ Q w1 w') :
    Calls Try.prog 35 #[.pointer (some ⟨b, o, none⟩), .int .u8 x.toNat] w fun e w' => e = .returned (.tuple #[R.1, R.2]) ∧ ∃ w1, CPost w b (o + 1) (openS x.toNat) w1 ∧ Q w1 w' := by
  obtain ⟨⟨hc0, hf0⟩, ⟨hc1, hf1⟩, hc2, hf2⟩ := hT.zeros n c 0 rfl rfl rfl
  obtain ⟨R1, R2⟩ := R
  simp only [] at hD ⊢
  have n1 : ((n : Int) == 1) = false := by rw [beq_eq_false_iff_ne]; omega
  have n0 : ((n : Int) == 0) = false := by rw [beq_eq_false_iff_ne]; omega
  have g : (((x.toNat : Nat) : Int) < 32) = False := by simp only [eq_iff_iff, iff_false]; omega
  have g2 : (((x.toNat : Nat) : Int) == 34) = false := u8z x 34 (by omega)
  have hS := step_at hC x
  rw [step0] at hS
  have hq : (openS x.toNat).isSome = true := by rw [hx]; rfl
  rw [hq] at hS
  have HS := Lib.hid hS
  have HT := Lib.hid hT
  have HD := Lib.hid hD
  obtain ⟨S, hSS⟩ : ∃ S, openS x.toNat = S := ⟨_, rfl⟩
  rw [hSS] at HS ⊢
  clear hT hn hS hC hx h1 h2 hD hq hSS
  go_enter Try.func35, Try.ntmps35
  go_wp2_with fail
  refine HS.out.mono ?_
  rintro e w1 ⟨rfl, hp⟩
  have hT' := HT.out.sub hp.2 (.inr (by omega))
  obtain ⟨⟨hd0, he0⟩, ⟨hd1, he1⟩, hd2, he2⟩ := hT'.zeros n c 0 rfl rfl rfl
  have HO := Lib.hid (HD.out w1 hT')
  have HP := Lib.hid hp
  clear hp hT'
  go_wp2_with fail
  refine HO.out.mono ?_
  rintro e w2 ⟨rfl, hq⟩
  have HQ := Lib.hid hq
  clear hq
  go_wp2
  go_ret2
  exact ⟨rfl, w1, HP.out, HQ.out⟩
theorem rune_of {c : Nat} (h : c < 65536) (h1 : ¬ (56320 ≤ c ∧ c ≤ 57343)) (h2 : ¬ (55296 ≤ c ∧ c ≤ 56319)) : IsRune c := by
  unfold IsRune
  omega
theorem take_hex (w : World) (b o k v : Nat) (hW : WfI (.hex k v)) (hC : CAt w b (o + 1) st0) (hT : At w b (o + 5) (tail3 (k + 2) v 0)) (x : UInt8) :
    Calls Try.prog 35 #[.pointer (some ⟨b, o, none⟩), .int .u8 x.toNat] w fun e w' =>
      e = .returned (.tuple #[.string ⟨(stepI (.hex k v) x).2.toArray⟩, .int .i64 (errI (stepI (.hex k v) x).1)]) ∧ TPost w b o (stepI (.hex k v) x).1 w' := by
  by_cases h1 : x.toNat < 32 ∨ x.toNat = 34
  · rw [step_hex_none (hex_none (by omega)), open_low (by omega)]
    refine (take_early w b o (k + 2) v 0 (by omega) rfl hT x h1).mono ?_
    rintro e w' ⟨rfl, rfl⟩
    exact ⟨rfl, tpost_ref⟩
  cases hp : openS x.toNat with
  | none =>
    rw [step_hex_none (hex_none_hi hp), hp]
    refine (take_utf w b o (k + 2) v (by omega) hC hT x hp).mono ?_
    rintro e w' ⟨rfl, hs⟩
    exact ⟨rfl, tpost_bad hs (by omega)⟩
  | some p =>
    have hv4 : v < 4096 := Nat.lt_of_lt_of_le hW.2 (Nat.le_trans (Nat.pow_le_pow_right (by omega) hW.1) (by decide))
    cases hh : hexV x.toNat with
    | none =>
      rw [step_hex_none hh, hp]
      refine (take_digit w b o (k + 2) v (by omega) hC hT x p hp (by omega) (by omega) (.string ⟨#[]⟩, .int .i64 2) (fun a c => a = c) (fun w1 _ => digit_no w1 b o x.toNat hh)).mono ?_
      rintro e w' ⟨rfl, w1, hc, rfl⟩
      exact ⟨rfl, tpost_bad hc.2 (by omega)⟩
    | some d =>
      obtain ⟨hd, hx128, _⟩ := hexV_lt hh
      have ho := open_low hx128
      by_cases hk : k < 3
      · rw [step_hex_mid hh hk]
        refine (take_digit w b o (k + 2) v (by omega) hC hT x p hp (by omega) (by omega) (.string ⟨#[]⟩, .int .i64 0) (fun w1 w' => At w' b (o + 5) (tail3 (k + 2 + 1) (v * 16 + d) 0) ∧ Sub b (o + 5) 3 w1 w')
          (fun w1 ht => digit_mid w1 b o (k + 2) v 0 x.toNat d hh (by omega) (by omega) ht)).mono ?_
        rintro e w' ⟨rfl, w1, hc, ha, hs⟩
        rw [ho] at hc
        exact ⟨rfl, (hc.2.widen (Nat.le_refl _) (by omega)).trans (hs.widen (by omega) (by omega)), fun _ => ⟨⟨by omega, pow_lt hW.2 hd⟩, hc.1.sub hs (.inl (by omega)), ha⟩⟩
      · have hk3 : k = 3 := by have := hW.1; omega
        subst hk3
        rw [step_hex_end hh]
        have go : ∀ (R : Value × Value) (c : Nat), (∀ w1 : World, At w1 b (o + 5) (tail3 6 (v * 16 + d) 0) → Calls Try.prog 49 #[.pointer (some ⟨b, o, none⟩)] w1 fun e w' => e = .returned (.tuple #[R.1, R.2]) ∧ EndPost w1 b o c w') →
            Calls Try.prog 35 #[.pointer (some ⟨b, o, none⟩), .int .u8 x.toNat] w fun e w' => e = .returned (.tuple #[R.1, R.2]) ∧ CAt w' b (o + 1) st0 ∧ At w' b (o + 5) (tail3 0 0 c) ∧ Sub b (o + 1) 7 w w' := by
          intro R c hE
          refine (take_digit w b o (3 + 2) v (by omega) hC hT x p hp (by omega) (by omega) R (fun w1 w' => EndPost w1 b o c w') (fun w1 ht => digit_end w1 b o v 0 x.toNat d c R hh (by omega) ht hE)).mono ?_
          rintro e w' ⟨rfl, w1, hc, ha, hs⟩
          rw [ho] at hc
          exact ⟨rfl, hc.1.sub hs (.inl (by omega)), ha, (hc.2.widen (Nat.le_refl _) (by omega)).trans (hs.widen (by omega) (by omega))⟩
        have hcl : v * 16 + d < 65536 := by omega
        generalize v * 16 + d = c at *
        unfold endI
        by_cases q1 : 56320 ≤ c ∧ c ≤ 57343
        · rw [if_pos q1]
          refine (go (.string ⟨#[]⟩, .int .i64 9) 0 (fun w1 ht => end_low w1 b o 6 c q1 ht)).mono ?_
          rintro e w' ⟨rfl, _, _, hs⟩
          exact ⟨rfl, tpost_bad hs (by omega)⟩
        · rw [if_neg q1]
          by_cases q2 : 55296 ≤ c ∧ c ≤ 56319
          · rw [if_pos q2]
            refine (go (.string ⟨#[]⟩, .int .i64 0) c (fun w1 ht => end_sur w1 b o 6 c (by omega) ht)).mono ?_
            rintro e w' ⟨rfl, hc, ha, hs⟩
            exact ⟨rfl, hs, fun _ => ⟨⟨q2.1, q2.2, .inl ⟨by omega, rfl⟩⟩, hc, ha⟩⟩
          · rw [if_neg q2]
            have hE := fun (w1 : World) ht => end_rune w1 b o 6 c (rune_of hcl q1 q2) ht
            generalize encL c = l at hE ⊢
            refine (go (.string ⟨l.toArray⟩, .int .i64 0) 0 hE).mono ?_
            rintro e w' ⟨rfl, hc, ha, hs⟩
            exact ⟨rfl, hs, fun _ => ⟨⟨by omega, rfl, rfl⟩, hc, ha⟩⟩
theorem lowOk_byte {k x : Nat} (h : lowOk k x = true) : x < 128 ∧ 48 ≤ x ∧ (k = 0 → x = 92) ∧ (k = 1 → x = 117) ∧ (2 ≤ k → ∃ d, hexV x = some d) := by
  match k, h with
  | 0, h =>
    have : x = 92 := by simpa [lowOk] using h
    exact ⟨by omega, by omega, fun _ => this, fun h => by omega, fun h => by omega⟩
  | 1, h =>
    have : x = 117 := by simpa [lowOk] using h
    exact ⟨by omega, by omega, fun h => by omega, fun _ => this, fun h => by omega⟩
  | 2, h =>
    have : x = 100 ∨ x = 68 := by simpa [lowOk] using h
    refine ⟨by omega, by omega, fun h => by omega, fun h => by omega, fun _ => ⟨13, ?_⟩⟩
    rcases this with rfl | rfl <;> decide
  | 3, h =>
    cases hh : hexV x with
    | none => simp [lowOk, hh] at h
    | some d =>
      have := hexV_lt hh
      exact ⟨by omega, by omega, fun h => by omega, fun h => by omega, fun _ => ⟨d, rfl⟩⟩
  | k + 4, h =>
    cases hh : hexV x with
    | none => simp [lowOk, hh] at h
    | some d =>
      have := hexV_lt hh
      exact ⟨by omega, by omega, fun h => by omega, fun h => by omega, fun _ => ⟨d, rfl⟩⟩
theorem low_two {x d : Nat} (h : lowOk 2 x = true) (hd : hexV x = some d) : d = 13 := by
  have : x = 100 ∨ x = 68 := by simpa [lowOk] using h
  rcases this with rfl | rfl
  · have : hexV 100 = some 13 := by decide
    rw [this] at hd
    injection hd with hd
    exact hd.symm
  · have : hexV 68 = some 13 := by decide
    rw [this] at hd
    injection hd with hd
    exact hd.symm
theorem low_three {x d : Nat} (h : lowOk 3 x = true) (hd : hexV x = some d) : 12 ≤ d := by
  rw [lowOk3 hd] at h
  exact of_decide_eq_true h
set_option maxRecDepth 100000 in
set_option maxHeartbeats 1600000 in
/-- Behind a high surrogate: a byte that may not stand there. -/
theorem take_alone (w : World) (b o h k c : Nat) (hh : 55296 ≤ h) (hT : At w b (o + 5) (tail3 k c h)) (x : UInt8) (hx : lowOk k x.toNat = false) :
    Calls Try.prog 35 #[.pointer (some ⟨b, o, none⟩), .int .u8 x.toNat] w fun e w' => e = .returned (.tuple #[.string ⟨#[]⟩, .int .i64 9]) ∧ w = w' := by
  obtain ⟨⟨hc0, hf0⟩, ⟨hc1, hf1⟩, hc2, hf2⟩ := hT.zeros k c h rfl rfl rfl
  have z : ((h : Int) == 0) = false := by rw [beq_eq_false_iff_ne]; omega
  have z2 : ((h : Int) = 0) = False := by simp only [eq_iff_iff, iff_false]; omega
  have hM := mayPair_any k x.toNat
  rw [hx] at hM
  have HM := Lib.hid hM
  clear hT hM hx
  go_enter Try.func35, Try.ntmps35
  go_wp2_with fail
  refine (HM.out _).mono ?_
  rintro e w' ⟨rfl, rfl⟩
  go_wp2
  go_ret2
  exact ⟨rfl, rfl⟩
set_option maxRecDepth 100000 in
set_option maxHeartbeats 1600000 in
/-- Behind a high surrogate: the backslash. -/
theorem take_high0 (w : World) (b o h : Nat) (hh : 55296 ≤ h) (hC : CAt w b (o + 1) st0) (hT : At w b (o + 5) (tail3 0 0 h)) :
    Calls Try.prog 35 #[.pointer (some ⟨b, o, none⟩), .int .u8 92] w fun e w' => e = .returned (.tuple #[.string ⟨#[]⟩, .int .i64 0]) ∧ CAt w' b (o + 1) st0 ∧ At w' b (o + 5) (tail3 1 0 h) ∧ Sub b (o + 1) 7 w w' := by
  obtain ⟨⟨hc0, hf0⟩, ⟨hc1, hf1⟩, hc2, hf2⟩ := hT.zeros 0 0 h rfl rfl rfl
  have z : ((h : Int) == 0) = false := by rw [beq_eq_false_iff_ne]; omega
  have z2 : ((h : Int) = 0) = False := by simp only [eq_iff_iff, iff_false]; omega
  have hM := mayPair_any 0 92
  have HM : Hid (∀ w, Calls Try.prog 39 #[.int .i64 0, .int .u8 92] w fun e w' => e = .returned (.bool true) ∧ w = w') := Lib.hid hM
  have hS : Calls Try.prog 40 #[.pointer (some ⟨b, o + 1, none⟩), .int .u8 92] w fun e w' => e = .returned (.bool true) ∧ CPost w b (o + 1) st0 w' := step_at hC 92
  have HS := Lib.hid hS
  have HT := Lib.hid hT
  clear hT hM hC hS
  go_enter Try.func35, Try.ntmps35
  go_wp2_with fail
  refine (HM.out _).mono ?_
  rintro e w' ⟨rfl, rfl⟩
  go_wp2_with fail
  refine HS.out.mono ?_
  rintro e w' ⟨rfl, hp⟩
  have hT' := HT.out.sub hp.2 (.inr (by omega))
  obtain ⟨⟨hd0, he0⟩, ⟨hd1, he1⟩, hd2, he2⟩ := hT'.zeros 0 0 h rfl rfl rfl
  have HP := Lib.hid (And.intro hp (one_set hT' 1))
  clear hp hT'
  go_wp2
  go_ret2
  obtain ⟨hp, ha, hs⟩ := HP.out
  exact ⟨rfl, hp.1.sub hs (.inl (by omega)), ha, (hp.2.widen (Nat.le_refl _) (by omega)).trans (hs.widen (by omega) (by omega))⟩
set_option maxRecDepth 100000 in
set_option maxHeartbeats 1600000 in
/-- Behind a high surrogate and a backslash: the u. -/
theorem take_high1 (w : World) (b o h : Nat) (hh : 55296 ≤ h) (hC : CAt w b (o + 1) st0) (hT : At w b (o + 5) (tail3 1 0 h)) :
    Calls Try.prog 35 #[.pointer (some ⟨b, o, none⟩), .int .u8 117] w fun e w' => e = .returned (.tuple #[.string ⟨#[]⟩, .int .i64 0]) ∧ CAt w' b (o + 1) st0 ∧ At w' b (o + 5) (tail3 2 0 h) ∧ Sub b (o + 1) 7 w w' := by
  obtain ⟨⟨hc0, hf0⟩, ⟨hc1, hf1⟩, hc2, hf2⟩ := hT.zeros 1 0 h rfl rfl rfl
  have z : ((h : Int) == 0) = false := by rw [beq_eq_false_iff_ne]; omega
  have z2 : ((h : Int) = 0) = False := by simp only [eq_iff_iff, iff_false]; omega
  have hM := mayPair_any 1 117
  have HM : Hid (∀ w, Calls Try.prog 39 #[.int .i64 1, .int .u8 117] w fun e w' => e = .returned (.bool true) ∧ w = w') := Lib.hid hM
  have hS : Calls Try.prog 40 #[.pointer (some ⟨b, o + 1, none⟩), .int .u8 117] w fun e w' => e = .returned (.bool true) ∧ CPost w b (o + 1) st0 w' := step_at hC 117
  have HS := Lib.hid hS
  have HT := Lib.hid hT
  clear hT hM hC hS
  go_enter Try.func35, Try.ntmps35
  go_wp2_with fail
  refine (HM.out _).mono ?_
  rintro e w' ⟨rfl, rfl⟩
  go_wp2_with fail
  refine HS.out.mono ?_
  rintro e w' ⟨rfl, hp⟩
  have hT' := HT.out.sub hp.2 (.inr (by omega))
  obtain ⟨⟨hd0, he0⟩, ⟨hd1, he1⟩, hd2, he2⟩ := hT'.zeros 1 0 h rfl rfl rfl
  have HP := Lib.hid hp
  have HO := Lib.hid (open_u w' b o 1 0 h hT')
  clear hp hT'
  go_wp2_with fail
  refine HO.out.mono ?_
  rintro e w2 ⟨rfl, ha, hs⟩
  have HA := Lib.hid (And.intro ha hs)
  clear ha hs
  go_wp2
  go_ret2
  obtain ⟨ha, hs⟩ := HA.out
  have hp := HP.out
  exact ⟨rfl, hp.1.sub hs (.inl (by omega)), ha, (hp.2.widen (Nat.le_refl _) (by omega)).trans (hs.widen (by omega) (by omega))⟩
set_option maxRecDepth 100000 in
set_option maxHeartbeats 1600000 in
/-- Behind a high surrogate, a backslash and a u: a digit. -/
theorem take_low (w : World) (b o n c h : Nat) (hn : 2 ≤ n) (hh : 55296 ≤ h) (hC : CAt w b (o + 1) st0) (hT : At w b (o + 5) (tail3 n c h)) (x : UInt8) (hx : lowOk n x.toNat = true)
    (R : Value × Value) (Q : World → World → Prop)
    (hD : ∀ w1 : World, At w1 b (o + 5) (tail3 n c h) → Calls Try.prog 42 #[.pointer (some ⟨b, o, none⟩), .int .u8 x.toNat] w1 fun e w' => e = .returned (.tuple #[R.1, R.2]) ∧ Q w1 w') :
    Calls Try.prog 35 #[.pointer (some ⟨b, o, none⟩), .int .u8 x.toNat] w fun e w' => e = .returned (.tuple #[R.1, R.2]) ∧ ∃ w1, CPost w b (o + 1) st0 w1 ∧ Q w1 w' := by
  obtain ⟨⟨hc0, hf0⟩, ⟨hc1, hf1⟩, hc2, hf2⟩ := hT.zeros n c h rfl rfl rfl
  obtain ⟨R1, R2⟩ := R
  simp only [] at hD ⊢
  obtain ⟨hx1, hx2, _, _, _⟩ := lowOk_byte hx
  have z : ((h : Int) == 0) = false := by rw [beq_eq_false_iff_ne]; omega
  have z2 : ((h : Int) = 0) = False := by simp only [eq_iff_iff, iff_false]; omega
  have n1 : ((n : Int) == 1) = false := by rw [beq_eq_false_iff_ne]; omega
  have n0 : ((n : Int) == 0) = false := by rw [beq_eq_false_iff_ne]; omega
  have g : (((x.toNat : Nat) : Int) < 32) = False := by simp only [eq_iff_iff, iff_false]; omega
  have g2 : (((x.toNat : Nat) : Int) == 34) = false := u8z x 34 (by omega)
  have hM := mayPair_any n x.toNat
  rw [hx] at hM
  have HM := Lib.hid hM
  have hS := step_at hC x
  rw [step0, open_low hx1] at hS
  have HS := Lib.hid hS
  have HT := Lib.hid hT
  have HD := Lib.hid hD
  clear hT hn hS hC hx hD hM hx1 hx2
  go_enter Try.func35, Try.ntmps35
  go_wp2_with fail
  refine (HM.out _).mono ?_
  rintro e w' ⟨rfl, rfl⟩
  go_wp2_with fail
  refine HS.out.mono ?_
  rintro e w1 ⟨rfl, hp⟩
  have hT' := HT.out.sub hp.2 (.inr (by omega))
  obtain ⟨⟨hd0, he0⟩, ⟨hd1, he1⟩, hd2, he2⟩ := hT'.zeros n c h rfl rfl rfl
  have HO := Lib.hid (HD.out w1 hT')
  have HP := Lib.hid hp
  simp only [Option.isSome]
  clear hp hT'
  go_wp2_with fail
  refine HO.out.mono ?_
  rintro e w2 ⟨rfl, hq⟩
  have HQ := Lib.hid hq
  clear hq
  go_wp2
  go_ret2
  exact ⟨rfl, w1, HP.out, HQ.out⟩
theorem step_high_no {h k c : Nat} {x : UInt8} (hl : lowOk k x.toNat = false) : stepI (.high h k c) x = (.bad true, []) := by
  simp only [stepI]
  rw [if_neg (by rw [hl]; decide)]
theorem step_high0 (h : Nat) : stepI (.high h 0 0) 92 = (.high h 1 0, []) := step_lt (by decide) (by decide) (by decide)
theorem step_high1 (h : Nat) : stepI (.high h 1 0) 117 = (.high h 2 0, []) := step_lt (by decide) (by decide) (by decide)
theorem take_high (w : World) (b o h k c : Nat) (hW : WfI (.high h k c)) (hC : CAt w b (o + 1) st0) (hT : At w b (o + 5) (tail3 k c h)) (x : UInt8) :
    Calls Try.prog 35 #[.pointer (some ⟨b, o, none⟩), .int .u8 x.toNat] w fun e w' =>
      e = .returned (.tuple #[.string ⟨(stepI (.high h k c) x).2.toArray⟩, .int .i64 (errI (stepI (.high h k c) x).1)]) ∧ TPost w b o (stepI (.high h k c) x).1 w' := by
  obtain ⟨hh1, hh2, hkc⟩ := hW
  by_cases hl : lowOk k x.toNat = false
  · rw [step_high_no hl]
    refine (take_alone w b o h k c hh1 hT x hl).mono ?_
    rintro e w' ⟨rfl, rfl⟩
    exact ⟨rfl, tpost_ref⟩
  have hl' : lowOk k x.toNat = true := by simpa using hl
  obtain ⟨hx1, hx2, e0, e1, e2⟩ := lowOk_byte hl'
  by_cases k0 : k = 0
  · subst k0
    obtain ⟨_, rfl⟩ : 0 ≤ 2 ∧ c = 0 := by omega
    have hx : x = 92 := UInt8.toNat_inj.1 (by rw [e0 rfl]; rfl)
    subst hx
    rw [step_high0]
    refine (take_high0 w b o h hh1 hC hT).mono ?_
    rintro e w' ⟨rfl, hc, ha, hs⟩
    exact ⟨rfl, hs, fun _ => ⟨⟨hh1, hh2, .inl ⟨by omega, rfl⟩⟩, hc, ha⟩⟩
  by_cases k1 : k = 1
  · subst k1
    obtain ⟨_, rfl⟩ : 1 ≤ 2 ∧ c = 0 := by omega
    have hx : x = 117 := UInt8.toNat_inj.1 (by rw [e1 rfl]; rfl)
    subst hx
    rw [step_high1]
    refine (take_high1 w b o h hh1 hC hT).mono ?_
    rintro e w' ⟨rfl, hc, ha, hs⟩
    exact ⟨rfl, hs, fun _ => ⟨⟨hh1, hh2, .inl ⟨by omega, rfl⟩⟩, hc, ha⟩⟩
  obtain ⟨d, hd⟩ := e2 (by omega)
  have hdl := (hexV_lt hd).1
  by_cases k5 : k < 5
  · rw [step_lt hl' k5 (lowW_d (by omega) hd)]
    refine (take_low w b o k c h (by omega) hh1 hC hT x hl' (.string ⟨#[]⟩, .int .i64 0) (fun w1 w' => At w' b (o + 5) (tail3 (k + 1) (c * 16 + d) h) ∧ Sub b (o + 5) 3 w1 w')
      (fun w1 ht => digit_mid w1 b o k c h x.toNat d hd k5 (by omega) ht)).mono ?_
    rintro e w' ⟨rfl, w1, hc, ha, hs⟩
    refine ⟨rfl, (hc.2.widen (Nat.le_refl _) (by omega)).trans (hs.widen (by omega) (by omega)), fun _ => ⟨⟨hh1, hh2, ?_⟩, hc.1.sub hs (.inl (by omega)), ha⟩⟩
    by_cases k2 : k = 2
    · subst k2
      have := low_two hl' hd
      omega
    by_cases k3 : k = 3
    · subst k3
      have := low_three hl' hd
      omega
    · omega
  · have hk : k = 5 := by omega
    subst hk
    rw [step_end hl' (lowW_d (by omega) hd)]
    have hE := fun (w1 : World) ht => end_pair w1 b o 6 (c * 16 + d) h ⟨hh1, hh2⟩ (by omega) ht
    generalize encL (pairN h (c * 16 + d)) = l at hE ⊢
    refine (take_low w b o 5 c h (by omega) hh1 hC hT x hl' (.string ⟨l.toArray⟩, .int .i64 0) (fun w1 w' => EndPost w1 b o 0 w')
      (fun w1 ht => digit_end w1 b o c h x.toNat d 0 (.string ⟨l.toArray⟩, .int .i64 0) hd (by omega) ht hE)).mono ?_
    rintro e w' ⟨rfl, w1, hc, ha, hs⟩
    exact ⟨rfl, (hc.2.widen (Nat.le_refl _) (by omega)).trans (hs.widen (by omega) (by omega)), fun _ => ⟨⟨by omega, rfl, rfl⟩, hc.1.sub hs (.inl (by omega)), ha⟩⟩
end Go.Proofs.Yteonbajndghfcaa
