/-
  GENERAL, NO PROGRAM NEEDED: what the model's encoder makes of a rune, beside the states and the decoder.
-/
import Derived.Test.YtkfidnfnehnhoaaUtfPure
namespace Go.Proofs.Ytkfidnfnehnhoaa
open Go.Lib
def bytesL (x : ByteArray) : List UInt8 := x.data.toList
theorem bytesL_of {x : ByteArray} {l : List UInt8} (h : x = ⟨l.toArray⟩) : bytesL x = l := by subst h; rfl
def encL (n : Nat) : List UInt8 := bytesL (Utf8.encode (n : Int))
theorem bytesL_back (x : ByteArray) : (⟨(bytesL x).toArray⟩ : ByteArray) = x := by cases x; simp [bytesL]
theorem enc_list (n : Nat) : (⟨(encL n).toArray⟩ : ByteArray) = Utf8.encode (n : Int) := bytesL_back _
def IsRune (n : Nat) : Prop := n < 55296 ∨ (57343 < n ∧ n ≤ 1114111)
theorem valid_is {n : Nat} (h : IsRune n) : Utf8.valid (n : Int) = true := by
  rw [validRune_eq]
  unfold validRune IsRune at *
  simp only [decide_eq_true_eq]
  omega
theorem toNat_ofNat (x : Nat) (h : x < 256) : (UInt8.ofNat x).toNat = x := by simp; omega
theorem enc_c {n : Nat} (hr : IsRune n) : Utf8.encode (n : Int) = (if n < 128 then ⟨#[UInt8.ofNat n]⟩ else if n < 2048 then ⟨#[UInt8.ofNat (192 + n / 64), UInt8.ofNat (128 + n % 64)]⟩
    else if n < 65536 then ⟨#[UInt8.ofNat (224 + n / 4096), UInt8.ofNat (128 + n / 64 % 64), UInt8.ofNat (128 + n % 64)]⟩
    else ⟨#[UInt8.ofNat (240 + n / 262144), UInt8.ofNat (128 + n / 4096 % 64), UInt8.ofNat (128 + n / 64 % 64), UInt8.ofNat (128 + n % 64)]⟩) := by
  have e : (if Utf8.valid (n : Int) = true then (n : Int).toNat else Utf8.runeError) = n := by rw [if_pos (valid_is hr)]; exact Int.toNat_natCast n
  unfold Utf8.encode
  rw [e]
theorem enc1 {n : Nat} (h : n < 128) : encL n = [UInt8.ofNat n] := by
  have e := enc_c (n := n) (.inl (by omega))
  rw [if_pos h] at e
  exact bytesL_of e
theorem enc2 {n : Nat} (h0 : 128 ≤ n) (h : n < 2048) : encL n = [UInt8.ofNat (192 + n / 64), UInt8.ofNat (128 + n % 64)] := by
  have e := enc_c (n := n) (.inl (by omega))
  rw [if_neg (by omega), if_pos h] at e
  exact bytesL_of e
theorem enc3 {n : Nat} (hr : IsRune n) (h0 : 2048 ≤ n) (h : n < 65536) : encL n = [UInt8.ofNat (224 + n / 4096), UInt8.ofNat (128 + n / 64 % 64), UInt8.ofNat (128 + n % 64)] := by
  have e := enc_c hr
  rw [if_neg (by omega), if_neg (by omega), if_pos h] at e
  exact bytesL_of e
theorem enc4 {n : Nat} (h0 : 65536 ≤ n) (h : n ≤ 1114111) : encL n = [UInt8.ofNat (240 + n / 262144), UInt8.ofNat (128 + n / 4096 % 64), UInt8.ofNat (128 + n / 64 % 64), UInt8.ofNat (128 + n % 64)] := by
  have e := enc_c (n := n) (.inr (by omega))
  rw [if_neg (by omega), if_neg (by omega), if_neg (by omega)] at e
  exact bytesL_of e
/-- A rune's bytes, in one form: one below 128; or one that opens a state, and as many as it lacks behind it. -/
theorem enc_form {n : Nat} (hr : IsRune n) : ∃ a rest, encL n = a :: rest ∧ (rest = [] ∧ a.toNat = n ∧ n < 128 ∨
    128 ≤ n ∧ ∃ lo hi, 1 ≤ rest.length ∧ rest.length ≤ 3 ∧ openS a.toNat = some (rest.length, lo, hi) ∧ 128 ≤ lo ∧ 194 ≤ a.toNat ∧ (∀ b, rest[0]? = some b → lo ≤ b.toNat ∧ b.toNat ≤ hi) ∧ ∀ b ∈ rest, 128 ≤ b.toNat ∧ b.toNat ≤ 191) := by
  by_cases h1 : n < 128
  · exact ⟨_, _, enc1 h1, .inl ⟨rfl, toNat_ofNat n (by omega), h1⟩⟩
  by_cases h2 : n < 2048
  · refine ⟨_, _, enc2 (by omega) h2, .inr ⟨by omega, 128, 191, by simp, by simp, ?_, by omega, ?_, ?_, ?_⟩⟩
    · rw [toNat_ofNat _ (by omega)]
      simp only [List.length_singleton]
      unfold openS
      rw [if_neg (by omega), if_pos (by omega)]
    · rw [toNat_ofNat _ (by omega)]; omega
    · intro b hb
      simp only [List.getElem?_cons_zero, Option.some.injEq] at hb
      subst hb
      rw [toNat_ofNat _ (by omega)]
      omega
    · intro b hb
      simp only [List.mem_singleton] at hb
      subst hb
      rw [toNat_ofNat _ (by omega)]
      omega
  by_cases h3 : n < 65536
  · have hb1 : (UInt8.ofNat (128 + n / 64 % 64)).toNat = 128 + n / 64 % 64 := toNat_ofNat _ (by omega)
    have hb2 : (UInt8.ofNat (128 + n % 64)).toNat = 128 + n % 64 := toNat_ofNat _ (by omega)
    have ha : (UInt8.ofNat (224 + n / 4096)).toNat = 224 + n / 4096 := toNat_ofNat _ (by omega)
    have key : ∃ lo hi, openS (224 + n / 4096) = some (2, lo, hi) ∧ 128 ≤ lo ∧ lo ≤ 128 + n / 64 % 64 ∧ 128 + n / 64 % 64 ≤ hi := by
      unfold IsRune at hr
      unfold openS
      rw [if_neg (by omega), if_neg (by omega)]
      by_cases c1 : 224 + n / 4096 = 224
      · exact ⟨160, 191, by rw [if_pos c1], by omega, by omega, by omega⟩
      rw [if_neg c1]
      by_cases c2 : 224 + n / 4096 = 237
      · exact ⟨128, 159, by rw [if_pos c2], by omega, by omega, by omega⟩
      rw [if_neg c2, if_pos (by omega)]
      exact ⟨128, 191, rfl, by omega, by omega, by omega⟩
    obtain ⟨lo, hi, ho, hlo, k1, k2⟩ := key
    refine ⟨_, _, enc3 hr (by omega) h3, .inr ⟨by omega, lo, hi, by simp, by simp, by rw [ha]; exact ho, hlo, by omega, ?_, ?_⟩⟩
    · intro b hb
      simp only [List.getElem?_cons_zero, Option.some.injEq] at hb
      subst hb
      rw [hb1]
      exact ⟨k1, k2⟩
    · intro b hb
      simp only [List.mem_cons, List.not_mem_nil, or_false] at hb
      rcases hb with rfl | rfl <;> omega
  · unfold IsRune at hr
    have hb1 : (UInt8.ofNat (128 + n / 4096 % 64)).toNat = 128 + n / 4096 % 64 := toNat_ofNat _ (by omega)
    have hb2 : (UInt8.ofNat (128 + n / 64 % 64)).toNat = 128 + n / 64 % 64 := toNat_ofNat _ (by omega)
    have hb3 : (UInt8.ofNat (128 + n % 64)).toNat = 128 + n % 64 := toNat_ofNat _ (by omega)
    have ha : (UInt8.ofNat (240 + n / 262144)).toNat = 240 + n / 262144 := toNat_ofNat _ (by omega)
    have key : ∃ lo hi, openS (240 + n / 262144) = some (3, lo, hi) ∧ 128 ≤ lo ∧ lo ≤ 128 + n / 4096 % 64 ∧ 128 + n / 4096 % 64 ≤ hi := by
      unfold openS
      rw [if_neg (by omega), if_neg (by omega), if_neg (by omega), if_neg (by omega), if_neg (by omega)]
      by_cases c1 : 240 + n / 262144 = 240
      · exact ⟨144, 191, by rw [if_pos c1], by omega, by omega, by omega⟩
      rw [if_neg c1]
      by_cases c2 : 240 + n / 262144 = 244
      · exact ⟨128, 143, by rw [if_neg (by omega), if_pos c2], by omega, by omega, by omega⟩
      rw [if_pos (by omega)]
      exact ⟨128, 191, rfl, by omega, by omega, by omega⟩
    obtain ⟨lo, hi, ho, hlo, k1, k2⟩ := key
    refine ⟨_, _, enc4 (by omega) (by omega), .inr ⟨by omega, lo, hi, by simp, by simp, by rw [ha]; exact ho, hlo, by omega, ?_, ?_⟩⟩
    · intro b hb
      simp only [List.getElem?_cons_zero, Option.some.injEq] at hb
      subst hb
      rw [hb1]
      exact ⟨k1, k2⟩
    · intro b hb
      simp only [List.mem_cons, List.not_mem_nil, or_false] at hb
      rcases hb with rfl | rfl | rfl <;> omega
theorem enc_len {n : Nat} (hr : IsRune n) : 1 ≤ (encL n).length ∧ (encL n).length ≤ 4 := by
  obtain ⟨a, rest, h, hc⟩ := enc_form hr
  rw [h, List.length_cons]
  rcases hc with ⟨rfl, _⟩ | ⟨_, _, _, h1, h2, _⟩
  · simp
  · omega
def stN (m : Nat) : Nat × Nat × Nat := if m = 0 then (0, 0, 0) else (m, 128, 191)
theorem step_in (m lo hi : Nat) (b : UInt8) (h : lo ≤ b.toNat ∧ b.toNat ≤ hi) : stepS (some (m + 1, lo, hi)) b = some (stN m) := by
  simp only [stepS, stN]
  rw [if_neg (by omega)]
  split <;> rfl
theorem cont_run (rest : List UInt8) (h : ∀ b ∈ rest, 128 ≤ b.toNat ∧ b.toNat ≤ 191) (k : Nat) : runS (some (stN (rest.length + k))) rest = some (stN k) := by
  induction rest with
  | nil => simp [runS]
  | cons b t ih =>
    rw [runS_cons, List.length_cons]
    have e : stN (t.length + 1 + k) = (t.length + k + 1, 128, 191) := by
      unfold stN
      rw [if_neg (by omega)]
      congr 1
      omega
    rw [e, step_in _ _ _ _ (h b (by simp))]
    exact ih (fun c hc => h c (by simp [hc]))
/-- Where a rune stands behind j of its bytes. -/
theorem run_enc_take {n : Nat} (hr : IsRune n) (j : Nat) (h0 : 0 < j) (h1 : j < (encL n).length) : ∃ m lo hi, runS st0 ((encL n).take j) = some (m + 1, lo, hi) ∧ 128 ≤ lo := by
  obtain ⟨a, rest, h, hc⟩ := enc_form hr
  rw [h] at h1 ⊢
  obtain ⟨j, rfl⟩ : ∃ i, j = i + 1 := ⟨j - 1, by omega⟩
  rw [List.take_succ_cons, runS_cons]
  rcases hc with ⟨rfl, _⟩ | ⟨_, lo, hi, g1, g2, ho, hlo, ha, hb0, hb⟩
  · simp at h1
  · have hs : stepS st0 a = openS a.toNat := rfl
    rw [hs, ho]
    cases rest with
    | nil => simp at g1
    | cons b t =>
      cases j with
      | zero => exact ⟨t.length, lo, hi, by simp [runS_nil], hlo⟩
      | succ j =>
        simp only [List.length_cons, Nat.add_lt_add_iff_right] at h1
        rw [List.take_succ_cons, runS_cons, List.length_cons, step_in _ _ _ _ (hb0 b (by simp))]
        have hl : (t.take j).length = j := by rw [List.length_take]; omega
        have := cont_run (t.take j) (fun c hc => hb c (by simp [List.mem_of_mem_take hc])) (t.length - j)
        rw [hl, show j + (t.length - j) = t.length by omega] at this
        rw [this]
        exact ⟨t.length - j - 1, 128, 191, by unfold stN; rw [if_neg (by omega), show t.length - j - 1 + 1 = t.length - j by omega], by omega⟩
theorem run_enc {n : Nat} (hr : IsRune n) : runS st0 (encL n) = st0 := by
  obtain ⟨a, rest, h, hc⟩ := enc_form hr
  rw [h, runS_cons]
  have hs : stepS st0 a = openS a.toNat := rfl
  rw [hs]
  rcases hc with ⟨rfl, ha, hn⟩ | ⟨_, lo, hi, g1, g2, ho, hlo, ha, hb0, hb⟩
  · unfold openS
    rw [if_pos (by omega)]
    rfl
  · rw [ho]
    cases rest with
    | nil => simp at g1
    | cons b t =>
      rw [runS_cons, List.length_cons, step_in _ _ _ _ (hb0 b (by simp))]
      exact cont_run t (fun c hc => hb c (by simp [hc])) 0
theorem cont_none (b : UInt8) (h : 128 ≤ b.toNat ∧ b.toNat ≤ 191) : stepS st0 b = none := by
  have hs : stepS st0 b = openS b.toNat := rfl
  rw [hs]
  unfold openS
  rw [if_neg (by omega), if_neg (by omega), if_neg (by omega), if_neg (by omega), if_neg (by omega), if_neg (by omega), if_neg (by omega), if_neg (by omega)]
/-- From within a rune on nothing is UTF-8. -/
theorem run_enc_drop {n : Nat} (hr : IsRune n) (j : Nat) (h0 : 0 < j) (h1 : j < (encL n).length) (t : List UInt8) : runS st0 ((encL n).drop j ++ t) = none := by
  obtain ⟨a, rest, h, hc⟩ := enc_form hr
  rw [h] at h1 ⊢
  obtain ⟨j, rfl⟩ : ∃ i, j = i + 1 := ⟨j - 1, by omega⟩
  rw [List.drop_succ_cons]
  rcases hc with ⟨rfl, _⟩ | ⟨_, lo, hi, g1, g2, ho, hlo, ha, hb0, hb⟩
  · simp at h1
  · have hj : j < rest.length := by simpa using h1
    rw [List.drop_eq_getElem_cons hj, List.cons_append, runS_cons, cont_none _ (hb _ (by simp)), runS_none]
theorem run_encs (l : List Nat) (h : ∀ n ∈ l, IsRune n) : runS st0 (l.flatMap encL) = st0 := by
  induction l with
  | nil => rfl
  | cons n t ih =>
    rw [List.flatMap_cons, runS_append, run_enc (h n (by simp))]
    exact ih (fun m hm => h m (by simp [hm]))
theorem valid_encs (l : List Nat) (h : ∀ n ∈ l, IsRune n) : validD (l.flatMap encL) = true := by rw [valid_run, run_encs l h]; rfl
/-! ### the decoder -/
set_option maxRecDepth 100000 in
set_option maxHeartbeats 4000000 in
theorem dec1 {n : Nat} (h : n < 128) (k b1 b2 b3 : Nat) : decodeN k n b1 b2 b3 = (n, 1) := by simp [decodeN, h]
set_option maxRecDepth 100000 in
set_option maxHeartbeats 4000000 in
theorem dec2 {n : Nat} (h0 : 128 ≤ n) (h : n < 2048) (k b2 b3 : Nat) (hk : 2 ≤ k) : decodeN k (192 + n / 64) (128 + n % 64) b2 b3 = (n, 2) := by
  unfold decodeN
  rw [if_neg (by omega), if_pos ⟨by omega, by omega, by omega⟩, if_pos (by omega)]
  congr 1
  omega
set_option maxRecDepth 100000 in
set_option maxHeartbeats 4000000 in
theorem dec3 {n : Nat} (hr : IsRune n) (h0 : 2048 ≤ n) (h : n < 65536) (k b3 : Nat) (hk : 3 ≤ k) : decodeN k (224 + n / 4096) (128 + n / 64 % 64) (128 + n % 64) b3 = (n, 3) := by
  unfold IsRune at hr
  have e : (224 + n / 4096) % 16 * 4096 + (128 + n / 64 % 64) % 64 * 64 + (128 + n % 64) % 64 = n := by omega
  unfold decodeN
  rw [if_neg (by omega), if_neg (by omega), if_pos ⟨by omega, ⟨by omega, by omega⟩, by omega, by omega⟩, e, if_pos (by omega)]
set_option maxRecDepth 100000 in
set_option maxHeartbeats 4000000 in
theorem dec4 {n : Nat} (h0 : 65536 ≤ n) (h : n ≤ 1114111) (k : Nat) (hk : 4 ≤ k) : decodeN k (240 + n / 262144) (128 + n / 4096 % 64) (128 + n / 64 % 64) (128 + n % 64) = (n, 4) := by
  have e : (240 + n / 262144) % 8 * 262144 + (128 + n / 4096 % 64) % 64 * 4096 + (128 + n / 64 % 64) % 64 * 64 + (128 + n % 64) % 64 = n := by omega
  unfold decodeN
  rw [if_neg (by omega), if_neg (by omega), if_neg (by omega), if_pos ⟨by omega, ⟨by omega, by omega⟩, ⟨by omega, by omega⟩, by omega, by omega⟩, e, if_pos (by omega)]
theorem dec_enc {n : Nat} (hr : IsRune n) (t : List UInt8) : decodeL (encL n ++ t) = (n, (encL n).length) := by
  rw [decodeL_N]
  by_cases h1 : n < 128
  · rw [enc1 h1]
    simp only [List.singleton_append, List.getD_cons_zero, toNat_ofNat n (by omega), List.length_singleton]
    exact dec1 h1 _ _ _ _
  by_cases h2 : n < 2048
  · rw [enc2 (by omega) h2]
    simp only [List.cons_append, List.nil_append, List.getD_cons_zero, List.getD_cons_succ, toNat_ofNat (192 + n / 64) (by omega), toNat_ofNat (128 + n % 64) (by omega), List.length_cons, List.length_nil]
    exact dec2 (by omega) h2 _ _ _ (by omega)
  by_cases h3 : n < 65536
  · rw [enc3 hr (by omega) h3]
    simp only [List.cons_append, List.nil_append, List.getD_cons_zero, List.getD_cons_succ, toNat_ofNat (224 + n / 4096) (by omega), toNat_ofNat (128 + n / 64 % 64) (by omega), toNat_ofNat (128 + n % 64) (by omega), List.length_cons, List.length_nil]
    exact dec3 hr (by omega) h3 _ _ (by omega)
  · have h4 : n ≤ 1114111 := by unfold IsRune at hr; omega
    rw [enc4 (by omega) h4]
    simp only [List.cons_append, List.nil_append, List.getD_cons_zero, List.getD_cons_succ, toNat_ofNat (240 + n / 262144) (by omega), toNat_ofNat (128 + n / 4096 % 64) (by omega), toNat_ofNat (128 + n / 64 % 64) (by omega), toNat_ofNat (128 + n % 64) (by omega), List.length_cons, List.length_nil]
    exact dec4 (by omega) h4 _ (by omega)
theorem ofNat_eq (b : UInt8) (x : Nat) (h : x = b.toNat) : UInt8.ofNat x = b := by subst h; simp
theorem four_a (x y z u : Nat) (_ : x < 8) (hy : y < 64) (hz : z < 64) (hu : u < 64) : (x * 262144 + y * 4096 + z * 64 + u) / 262144 = x ∧ (x * 262144 + y * 4096 + z * 64 + u) / 4096 % 64 = y ∧ (x * 262144 + y * 4096 + z * 64 + u) / 64 % 64 = z ∧ (x * 262144 + y * 4096 + z * 64 + u) % 64 = u := by
  refine ⟨by omega, by omega, by omega, by omega⟩
theorem three_a (y z u : Nat) (_ : y < 16) (hz : z < 64) (hu : u < 64) : (y * 4096 + z * 64 + u) / 4096 = y ∧ (y * 4096 + z * 64 + u) / 64 % 64 = z ∧ (y * 4096 + z * 64 + u) % 64 = u := by
  refine ⟨by omega, by omega, by omega⟩
theorem two_a (z u : Nat) (hu : u < 64) : (z * 64 + u) / 64 = z ∧ (z * 64 + u) % 64 = u := by
  refine ⟨by omega, by omega⟩
theorem lead_a (b k m : Nat) (h : b / k = m) : b = m * k + b % k := by have := Nat.div_add_mod b k; rw [h] at this; rw [Nat.mul_comm] at this; exact this.symm
theorem dec_cases (k b0 b1 b2 b3 : Nat) : decodeN k b0 b1 b2 b3 = (65533, 1) ∨ (b0 < 128 ∧ decodeN k b0 b1 b2 b3 = (b0, 1)) ∨
    (2 ≤ k ∧ ∃ c, decodeN k b0 b1 b2 b3 = (c, 2) ∧ 128 ≤ c ∧ c < 2048 ∧ 192 + c / 64 = b0 ∧ 128 + c % 64 = b1) ∨
    (3 ≤ k ∧ ∃ c, decodeN k b0 b1 b2 b3 = (c, 3) ∧ IsRune c ∧ 2048 ≤ c ∧ c < 65536 ∧ 224 + c / 4096 = b0 ∧ 128 + c / 64 % 64 = b1 ∧ 128 + c % 64 = b2) ∨
    (4 ≤ k ∧ ∃ c, decodeN k b0 b1 b2 b3 = (c, 4) ∧ 65536 ≤ c ∧ c ≤ 1114111 ∧ 240 + c / 262144 = b0 ∧ 128 + c / 4096 % 64 = b1 ∧ 128 + c / 64 % 64 = b2 ∧ 128 + c % 64 = b3) := by
  unfold decodeN
  by_cases h1 : b0 < 128
  · rw [if_pos h1]; exact .inr (.inl ⟨h1, rfl⟩)
  rw [if_neg h1]
  by_cases h2 : b0 / 32 = 6 ∧ (1 < k ∧ b1 / 64 = 2)
  · rw [if_pos h2]
    have e0 := lead_a _ _ _ h2.1
    have e1 := lead_a _ _ _ h2.2.2
    have l0 : b0 % 32 < 32 := Nat.mod_lt _ (by decide)
    have l1 : b1 % 64 < 64 := Nat.mod_lt _ (by decide)
    have t := two_a (b0 % 32) (b1 % 64) l1
    generalize b0 % 32 = x at *
    generalize b1 % 64 = y at *
    by_cases c : x * 64 + y ≥ 128
    · rw [if_pos c]
      exact .inr (.inr (.inl ⟨h2.2.1, _, rfl, c, by omega, by rw [t.1, e0], by rw [t.2, e1]⟩))
    · rw [if_neg c]; exact .inl rfl
  rw [if_neg h2]
  by_cases h3 : b0 / 16 = 14 ∧ (1 < k ∧ b1 / 64 = 2) ∧ (2 < k ∧ b2 / 64 = 2)
  · rw [if_pos h3]
    have e0 := lead_a _ _ _ h3.1
    have e1 := lead_a _ _ _ h3.2.1.2
    have e2 := lead_a _ _ _ h3.2.2.2
    have l0 : b0 % 16 < 16 := Nat.mod_lt _ (by decide)
    have l1 : b1 % 64 < 64 := Nat.mod_lt _ (by decide)
    have l2 : b2 % 64 < 64 := Nat.mod_lt _ (by decide)
    have t := three_a (b0 % 16) (b1 % 64) (b2 % 64) l0 l1 l2
    generalize b0 % 16 = x at *
    generalize b1 % 64 = y at *
    generalize b2 % 64 = z at *
    have hk := h3.2.2.1
    clear h1 h2 h3
    by_cases c : x * 4096 + y * 64 + z ≥ 2048 ∧ (x * 4096 + y * 64 + z < 55296 ∨ (57344 ≤ x * 4096 + y * 64 + z ∧ x * 4096 + y * 64 + z ≤ 1114111))
    · rw [if_pos c]
      exact .inr (.inr (.inr (.inl ⟨hk, _, rfl, by unfold IsRune; omega, c.1, by omega, by rw [t.1, e0], by rw [t.2.1, e1], by rw [t.2.2, e2]⟩)))
    · rw [if_neg c]; exact .inl rfl
  rw [if_neg h3]
  by_cases h4 : b0 / 8 = 30 ∧ (1 < k ∧ b1 / 64 = 2) ∧ (2 < k ∧ b2 / 64 = 2) ∧ (3 < k ∧ b3 / 64 = 2)
  · rw [if_pos h4]
    have e0 := lead_a _ _ _ h4.1
    have e1 := lead_a _ _ _ h4.2.1.2
    have e2 := lead_a _ _ _ h4.2.2.1.2
    have e3 := lead_a _ _ _ h4.2.2.2.2
    have l0 : b0 % 8 < 8 := Nat.mod_lt _ (by decide)
    have l1 : b1 % 64 < 64 := Nat.mod_lt _ (by decide)
    have l2 : b2 % 64 < 64 := Nat.mod_lt _ (by decide)
    have l3 : b3 % 64 < 64 := Nat.mod_lt _ (by decide)
    have t := four_a (b0 % 8) (b1 % 64) (b2 % 64) (b3 % 64) l0 l1 l2 l3
    generalize b0 % 8 = x at *
    generalize b1 % 64 = y at *
    generalize b2 % 64 = z at *
    generalize b3 % 64 = u at *
    have hk := h4.2.2.2.1
    clear h1 h2 h3 h4
    by_cases c : x * 262144 + y * 4096 + z * 64 + u ≥ 65536 ∧ (x * 262144 + y * 4096 + z * 64 + u < 55296 ∨ (57344 ≤ x * 262144 + y * 4096 + z * 64 + u ∧ x * 262144 + y * 4096 + z * 64 + u ≤ 1114111))
    · rw [if_pos c]
      exact .inr (.inr (.inr (.inr ⟨hk, _, rfl, c.1, by omega, by rw [t.1, e0], by rw [t.2.1, e1], by rw [t.2.2.1, e2], by rw [t.2.2.2, e3]⟩)))
    · rw [if_neg c]; exact .inl rfl
  rw [if_neg h4]; exact .inl rfl
theorem enc_dec (l : List UInt8) (hne : l ≠ []) (hg : ¬ ((decodeL l).1 = 65533 ∧ (decodeL l).2 = 1)) : IsRune (decodeL l).1 ∧ encL (decodeL l).1 = l.take (decodeL l).2 ∧ (decodeL l).2 ≤ l.length := by
  rw [decodeL_N] at hg ⊢
  match l, hne with
  | b0 :: t, _ =>
    simp only [List.getD_cons_zero, List.getD_cons_succ, List.length_cons] at hg ⊢
    rcases dec_cases (t.length + 1) b0.toNat (t.getD 0 0).toNat (t.getD 1 0).toNat (t.getD 2 0).toNat with e | ⟨h1, e⟩ | ⟨hk, c, e, h1, h2, e0, e1⟩ | ⟨hk, c, e, hr, h1, h2, e0, e1, e2⟩ | ⟨hk, c, e, h1, h2, e0, e1, e2, e3⟩
    · rw [e] at hg
      exact absurd ⟨rfl, rfl⟩ hg
    · rw [e]
      clear hg e
      exact ⟨.inl (by show b0.toNat < 55296; omega), by show encL b0.toNat = _; rw [enc1 h1, ofNat_eq b0 _ rfl]; rfl, by show 1 ≤ _; omega⟩
    · rw [e]
      clear hg e
      match t with
      | [] => simp at hk
      | b1 :: t' =>
        simp only [List.getD_cons_zero, List.length_cons] at e1 ⊢
        refine ⟨.inl (by show c < 55296; omega), ?_, by show 2 ≤ _; omega⟩
        show encL c = [b0, b1]
        rw [enc2 h1 h2, ofNat_eq b0 _ e0, ofNat_eq b1 _ e1]
    · rw [e]
      clear hg e
      match t with
      | [] => simp at hk
      | [b1] => simp at hk
      | b1 :: b2 :: t' =>
        simp only [List.getD_cons_zero, List.getD_cons_succ, List.length_cons] at e1 e2 ⊢
        refine ⟨hr, ?_, by show 3 ≤ _; omega⟩
        show encL c = [b0, b1, b2]
        rw [enc3 hr h1 h2, ofNat_eq b0 _ e0, ofNat_eq b1 _ e1, ofNat_eq b2 _ e2]
    · rw [e]
      clear hg e
      match t with
      | [] => simp at hk
      | [b1] => simp at hk
      | [b1, b2] => simp at hk
      | b1 :: b2 :: b3 :: t' =>
        simp only [List.getD_cons_zero, List.getD_cons_succ, List.length_cons] at e1 e2 e3 ⊢
        refine ⟨.inr (by show 57343 < c ∧ c ≤ 1114111; omega), ?_, by show 4 ≤ _; omega⟩
        show encL c = [b0, b1, b2, b3]
        rw [enc4 h1 h2, ofNat_eq b0 _ e0, ofNat_eq b1 _ e1, ofNat_eq b2 _ e2, ofNat_eq b3 _ e3]
/-- A text's runes. -/
def runesD : Nat → List UInt8 → List Nat
  | 0, _ => []
  | f + 1, l => if l = [] then [] else (decodeL l).1 :: runesD f (l.drop (decodeL l).2)
theorem runesD_nil (f : Nat) : runesD f [] = [] := by cases f <;> simp [runesD]
theorem runes_encs (l : List Nat) (h : ∀ n ∈ l, IsRune n) (f : Nat) (hf : l.length ≤ f) : runesD f (l.flatMap encL) = l := by
  induction l generalizing f with
  | nil => exact runesD_nil f
  | cons n t ih =>
    obtain ⟨f, rfl⟩ : ∃ g, f = g + 1 := ⟨f - 1, by simp at hf; omega⟩
    have hn := h n (by simp)
    have hl := enc_len hn
    rw [List.flatMap_cons]
    unfold runesD
    rw [if_neg (by intro e; have := congrArg List.length e; rw [List.length_append] at this; simp at this; rw [this.1] at hl; simp at hl), dec_enc hn]
    simp only [List.drop_left]
    rw [ih (fun m hm => h m (by simp [hm])) f (by simpa using hf)]
theorem encs_runes (f : Nat) (l : List UInt8) (hf : l.length ≤ f) (hv : validD l = true) : (runesD f l).flatMap encL = l ∧ ∀ n ∈ runesD f l, IsRune n := by
  induction f generalizing l with
  | zero =>
    have : l = [] := List.eq_nil_of_length_eq_zero (by omega)
    subst this
    simp [runesD]
  | succ f ih =>
    unfold runesD
    by_cases h0 : l = []
    · subst h0; simp
    · rw [if_neg h0]
      rw [validD_step l h0] at hv
      split at hv
      · cases hv
      · rename_i hg
        obtain ⟨h1, h2, h3⟩ := enc_dec l h0 hg
        have hw := decodeL_width l
        obtain ⟨i1, i2⟩ := ih (l.drop (decodeL l).2) (by rw [List.length_drop]; omega) hv
        constructor
        · rw [List.flatMap_cons, i1, h2, List.take_append_drop]
        · intro n hn
          rcases List.mem_cons.1 hn with rfl | hn
          · exact h1
          · exact i2 n hn
theorem runesD_length (f : Nat) (l : List UInt8) : (runesD f l).length ≤ l.length := by
  induction f generalizing l with
  | zero => simp [runesD]
  | succ f ih =>
    unfold runesD
    by_cases h0 : l = []
    · subst h0; simp
    · rw [if_neg h0, List.length_cons]
      have hw := decodeL_width l
      have hl : 0 < l.length := List.length_pos_iff.2 h0
      have := ih (l.drop (decodeL l).2)
      rw [List.length_drop] at this
      omega
theorem runesD_fuel (f g : Nat) (l : List UInt8) (hf : l.length ≤ f) (hg : l.length ≤ g) : runesD f l = runesD g l := by
  induction f generalizing l g with
  | zero =>
    have : l = [] := List.eq_nil_of_length_eq_zero (by omega)
    subst this
    rw [runesD_nil, runesD_nil]
  | succ f ih =>
    by_cases h0 : l = []
    · subst h0; rw [runesD_nil, runesD_nil]
    · have hl : 0 < l.length := List.length_pos_iff.2 h0
      have hw := decodeL_width l
      obtain ⟨g, rfl⟩ : ∃ k, g = k + 1 := ⟨g - 1, by omega⟩
      unfold runesD
      rw [if_neg h0, if_neg h0, ih g _ (by rw [List.length_drop]; omega) (by rw [List.length_drop]; omega)]
end Go.Proofs.Ytkfidnfnehnhoaa
