/-
  NO PROGRAM NEEDED: base64url without padding: signs of bytes, bytes of signs; how many; of whole threes; what is no Put.
-/
import Derived.Test.YtbnlcacjldnnjaaWin
namespace Go.Proofs.Ytbnlcacjldnnjaa
open Go.Lib
/-- The sign of a number below 64. -/
def sgnN (d : Nat) : Nat := if d < 26 then 65 + d else if d < 52 then 71 + d else if d < 62 then d - 4 else if d = 62 then 45 else 95
def sgn (d : Nat) : UInt8 := UInt8.ofNat (sgnN d)
/-- The number of a sign. -/
def valS (c : Nat) : Option Nat := if 65 ≤ c ∧ c ≤ 90 then some (c - 65) else if 97 ≤ c ∧ c ≤ 122 then some (c - 71) else if 48 ≤ c ∧ c ≤ 57 then some (c + 4) else if c = 45 then some 62 else if c = 95 then some 63 else none
theorem sgnN_lt (d : Nat) (h : d < 64) : 45 ≤ sgnN d ∧ sgnN d < 123 := by
  unfold sgnN
  split
  · omega
  · split
    · omega
    · split
      · omega
      · split <;> omega
theorem sgn_toNat (d : Nat) (h : d < 64) : (sgn d).toNat = sgnN d := by
  have := sgnN_lt d h
  unfold sgn
  simp
  omega
theorem val_sgnN (d : Nat) (h : d < 64) : valS (sgnN d) = some d := by
  unfold sgnN
  split
  · unfold valS
    rw [if_pos (by omega)]
    congr 1
    omega
  · split
    · unfold valS
      rw [if_neg (by omega), if_pos (by omega)]
      congr 1
      omega
    · split
      · unfold valS
        rw [if_neg (by omega), if_neg (by omega), if_pos (by omega)]
        congr 1
        omega
      · split
        · rename_i h1
          subst h1
          rfl
        · obtain rfl : d = 63 := by omega
          rfl
theorem val_sgn (d : Nat) (h : d < 64) : valS (sgn d).toNat = some d := by rw [sgn_toNat d h, val_sgnN d h]
theorem sgn_val (c d : Nat) (h : valS c = some d) : d < 64 ∧ sgnN d = c := by
  unfold valS at h
  split at h
  · injection h with h
    subst h
    unfold sgnN
    exact ⟨by omega, by rw [if_pos (by omega)]; omega⟩
  · split at h
    · injection h with h
      subst h
      unfold sgnN
      exact ⟨by omega, by rw [if_neg (by omega), if_pos (by omega)]; omega⟩
    · split at h
      · injection h with h
        subst h
        unfold sgnN
        exact ⟨by omega, by rw [if_neg (by omega), if_neg (by omega), if_pos (by omega)]; omega⟩
      · split at h
        · injection h with h
          subst h
          rename_i h1
          exact ⟨by omega, by rw [h1]; rfl⟩
        · split at h
          · injection h with h
            subst h
            rename_i h1
            exact ⟨by omega, by rw [h1]; rfl⟩
          · cases h
theorem sgn_of (c : UInt8) (d : Nat) (h : valS c.toNat = some d) : sgn d = c := by
  obtain ⟨h1, h2⟩ := sgn_val _ _ h
  apply UInt8.toNat_inj.1
  rw [sgn_toNat d h1, h2]
/-- Signs of bytes. -/
def putS : List UInt8 → List UInt8
  | [] => []
  | [a] => [sgn (a.toNat / 4), sgn (a.toNat % 4 * 16)]
  | [a, b] => [sgn (a.toNat / 4), sgn (a.toNat % 4 * 16 + b.toNat / 16), sgn (b.toNat % 16 * 4)]
  | a :: b :: c :: r => sgn (a.toNat / 4) :: sgn (a.toNat % 4 * 16 + b.toNat / 16) :: sgn (b.toNat % 16 * 4 + c.toNat / 64) :: sgn (c.toNat % 64) :: putS r
theorem u8_lt (b : UInt8) : b.toNat < 256 := b.toNat_lt
/-- Three by three. -/
theorem three_ind {P : List UInt8 → Prop} (h0 : P []) (h1 : ∀ a, P [a]) (h2 : ∀ a b, P [a, b]) (h3 : ∀ a b c r, P r → P (a :: b :: c :: r)) : ∀ l, P l
  | [] => h0
  | [a] => h1 a
  | [a, b] => h2 a b
  | a :: b :: c :: r => h3 a b c r (three_ind h0 h1 h2 h3 r)
theorem putS_length (l : List UInt8) : (putS l).length = (4 * l.length + 2) / 3 := by
  refine three_ind (P := fun l => (putS l).length = (4 * l.length + 2) / 3) rfl (fun _ => by simp [putS]) (fun _ _ => by simp [putS]) ?_ l
  intro a b c r ih
  simp only [putS, List.length_cons, ih]
  omega
theorem putS_append (b : List UInt8) : ∀ a : List UInt8, a.length % 3 = 0 → putS (a ++ b) = putS a ++ putS b
  | [], _ => rfl
  | [_], h => by simp at h
  | [_, _], h => by simp at h
  | x :: y :: z :: r, h => by
    have ih := putS_append b r (by simp only [List.length_cons] at h; omega)
    simp only [List.cons_append, putS, ih]
/-- Each is a sign. -/
theorem putS_signs (l : List UInt8) : ∀ c ∈ putS l, ∃ d, d < 64 ∧ c = sgn d := by
  refine three_ind (P := fun l => ∀ c ∈ putS l, ∃ d, d < 64 ∧ c = sgn d) ?_ ?_ ?_ ?_ l
  · intro c h
    cases h
  · intro a c h
    have ha := u8_lt a
    simp only [putS, List.mem_cons, List.not_mem_nil, or_false] at h
    rcases h with rfl | rfl
    · exact ⟨_, by omega, rfl⟩
    · exact ⟨_, by omega, rfl⟩
  · intro a b c h
    have ha := u8_lt a
    have hb := u8_lt b
    simp only [putS, List.mem_cons, List.not_mem_nil, or_false] at h
    rcases h with rfl | rfl | rfl
    · exact ⟨_, by omega, rfl⟩
    · exact ⟨_, by omega, rfl⟩
    · exact ⟨_, by omega, rfl⟩
  · intro a b e r ih c h
    have ha := u8_lt a
    have hb := u8_lt b
    have he := u8_lt e
    simp only [putS, List.mem_cons] at h
    rcases h with rfl | rfl | rfl | rfl | h
    · exact ⟨_, by omega, rfl⟩
    · exact ⟨_, by omega, rfl⟩
    · exact ⟨_, by omega, rfl⟩
    · exact ⟨_, by omega, rfl⟩
    · exact ih c h
/-- One sign of a text: bits, how many they are, the bytes so far. -/
def stepU (s : Nat × Nat × List UInt8) (d : Nat) : Nat × Nat × List UInt8 :=
  if s.2.1 + 6 < 8 then (s.1 * 64 + d, s.2.1 + 6, s.2.2) else ((s.1 * 64 + d) % 2 ^ (s.2.1 - 2), s.2.1 - 2, s.2.2 ++ [UInt8.ofNat ((s.1 * 64 + d) / 2 ^ (s.2.1 - 2))])
/-- All signs; nothing: one is none. -/
def runU (s : Nat × Nat × List UInt8) : List UInt8 → Option (Nat × Nat × List UInt8)
  | [] => some s
  | c :: t => match valS c.toNat with
    | none => none
    | some d => runU (stepU s d) t
theorem runU_sgn (s : Nat × Nat × List UInt8) (d : Nat) (h : d < 64) (t : List UInt8) : runU s (sgn d :: t) = runU (stepU s d) t := by
  rw [runU, val_sgn d h]
theorem runU_append (s : Nat × Nat × List UInt8) (l t : List UInt8) : runU s (l ++ t) = (runU s l).bind fun s' => runU s' t := by
  induction l generalizing s with
  | nil => rfl
  | cons c l ih =>
    rw [List.cons_append, runU, runU]
    cases valS c.toNat with
    | none => rfl
    | some d => exact ih _
theorem u8_self (b : UInt8) (n : Nat) (h : n = b.toNat) : UInt8.ofNat n = b := by
  subst h
  simp
theorem step0 (x : Nat) (out : List UInt8) (d : Nat) : stepU (x, 0, out) d = (x * 64 + d, 6, out) := rfl
theorem step6 (x : Nat) (out : List UInt8) (d : Nat) : stepU (x, 6, out) d = ((x * 64 + d) % 16, 4, out ++ [UInt8.ofNat ((x * 64 + d) / 16)]) := rfl
theorem step4 (x : Nat) (out : List UInt8) (d : Nat) : stepU (x, 4, out) d = ((x * 64 + d) % 4, 2, out ++ [UInt8.ofNat ((x * 64 + d) / 4)]) := rfl
theorem step2 (x : Nat) (out : List UInt8) (d : Nat) : stepU (x, 2, out) d = (0, 0, out ++ [UInt8.ofNat (x * 64 + d)]) := by
  have h : stepU (x, 2, out) d = ((x * 64 + d) % 1, 0, out ++ [UInt8.ofNat ((x * 64 + d) / 1)]) := rfl
  rw [h, Nat.mod_one, Nat.div_one]
theorem runU_put (l : List UInt8) : ∀ out, ∃ x n, runU (0, 0, out) (putS l) = some (x, n, out ++ l) := by
  refine three_ind (P := fun l => ∀ out, ∃ x n, runU (0, 0, out) (putS l) = some (x, n, out ++ l)) ?_ ?_ ?_ ?_ l
  · intro out
    exact ⟨0, 0, by simp [putS, runU]⟩
  · intro a out
    have ha := u8_lt a
    refine ⟨(0 * 64 + a.toNat / 4) * 64 % 16 + a.toNat % 4 * 16 % 16, 4, ?_⟩
    rw [putS, runU_sgn _ _ (by omega), runU_sgn _ _ (by omega), runU, step0, step6, u8_self a _ (by omega)]
    congr 2
    omega
  · intro a b out
    have ha := u8_lt a
    have hb := u8_lt b
    refine ⟨((((0 * 64 + a.toNat / 4) * 64 + (a.toNat % 4 * 16 + b.toNat / 16)) % 16) * 64 + b.toNat % 16 * 4) % 4, 2, ?_⟩
    rw [putS, runU_sgn _ _ (by omega), runU_sgn _ _ (by omega), runU_sgn _ _ (by omega), runU, step0, step6, step4, u8_self a _ (by omega), u8_self b _ (by omega), List.append_assoc]
    rfl
  · intro a b c r ih out
    have ha := u8_lt a
    have hb := u8_lt b
    have hc := u8_lt c
    obtain ⟨x, n, h⟩ := ih (out ++ [a] ++ [b] ++ [c])
    refine ⟨x, n, ?_⟩
    rw [putS, runU_sgn _ _ (by omega), runU_sgn _ _ (by omega), runU_sgn _ _ (by omega), runU_sgn _ _ (by omega), step0, step6, step4, step2, u8_self a _ (by omega), u8_self b _ (by omega), u8_self c _ (by omega), h]
    simp
theorem putS_inj (a b : List UInt8) (h : putS a = putS b) : a = b := by
  obtain ⟨x, n, h1⟩ := runU_put a []
  obtain ⟨y, m, h2⟩ := runU_put b []
  rw [h, h2] at h1
  simp at h1
  exact h1.2.2.symm
/-- Bytes of signs: those whose Put they are; nothing, if they are no Put. -/
def getS (s : List UInt8) : Option (List UInt8) :=
  match runU (0, 0, []) s with
  | none => none
  | some (_, _, out) => if putS out = s then some out else none
theorem getS_put (b : List UInt8) : getS (putS b) = some b := by
  obtain ⟨x, n, h⟩ := runU_put b []
  unfold getS
  rw [h]
  simp
theorem getS_some (s b : List UInt8) : getS s = some b ↔ putS b = s := by
  constructor
  · intro h
    unfold getS at h
    split at h
    · cases h
    · split at h
      · rename_i hp
        injection h with h
        rw [← h]
        exact hp
      · cases h
  · rintro rfl
    exact getS_put b
theorem getS_none (s : List UInt8) (h : ∀ b, putS b ≠ s) : getS s = none := by
  cases hg : getS s with
  | none => rfl
  | some b => exact absurd ((getS_some s b).1 hg) (h b)
/-- A number of signs that there cannot be. -/
theorem getS_one (s : List UInt8) (h : s.length % 4 = 1) : getS s = none := getS_none s fun b hb => by
  have := putS_length b
  rw [hb] at this
  omega
/-- With what is no sign there is none. -/
theorem getS_other (s : List UInt8) (c : UInt8) (hc : c ∈ s) (h : valS c.toNat = none) : getS s = none := getS_none s fun b hb => by
  subst hb
  obtain ⟨d, hd, rfl⟩ := putS_signs b c hc
  rw [val_sgn d hd] at h
  cases h
/-- With another sign it is not the same. -/
theorem getS_turned (b : List UInt8) (s : List UInt8) (h : s ≠ putS b) : getS s ≠ some b := fun hg => h ((getS_some s b).1 hg).symm
/-- The sixty-four signs. -/
def signs64 : ByteArray := ⟨#[65, 66, 67, 68, 69, 70, 71, 72, 73, 74, 75, 76, 77, 78, 79, 80, 81, 82, 83, 84, 85, 86, 87, 88, 89, 90, 97, 98, 99, 100, 101, 102, 103, 104, 105, 106, 107, 108, 109, 110, 111, 112, 113, 114, 115, 116, 117, 118, 119, 120, 121, 122, 48, 49, 50, 51, 52, 53, 54, 55, 56, 57, 45, 95]⟩
theorem signs64_at : ∀ d : Fin 64, signs64.data.toList[d.val]? = some (sgn d.val) := by decide +kernel
end Go.Proofs.Ytbnlcacjldnnjaa
