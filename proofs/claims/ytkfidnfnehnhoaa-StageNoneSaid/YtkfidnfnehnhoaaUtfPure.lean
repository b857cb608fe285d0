/-
  GENERAL, NO PROGRAM NEEDED: UTF-8 AS STATES: which byte may follow, beside the shelf's 'validD' (no step of the model's decoder fails), the model's encoder, its decoder.
-/
import Derived.Lib.ValidLaws
import Derived.Lib.RuneBytes
import Derived.Laws.Runes
namespace Go.Proofs.Ytkfidnfnehnhoaa
open Go.Lib
/-- none: a byte could not follow; (n, lo, hi): n bytes lack, the next of them between lo and hi. -/
def openS (b : Nat) : Option (Nat × Nat × Nat) :=
  if b < 128 then some (0, 0, 0) else if 194 ≤ b ∧ b ≤ 223 then some (1, 128, 191) else if b = 224 then some (2, 160, 191) else if b = 237 then some (2, 128, 159)
  else if 225 ≤ b ∧ b ≤ 239 then some (2, 128, 191) else if b = 240 then some (3, 144, 191) else if 241 ≤ b ∧ b ≤ 243 then some (3, 128, 191) else if b = 244 then some (3, 128, 143) else none
def st0 : Option (Nat × Nat × Nat) := some (0, 0, 0)
def stepS : Option (Nat × Nat × Nat) → UInt8 → Option (Nat × Nat × Nat)
  | none, _ => none
  | some (0, _, _), b => openS b.toNat
  | some (n + 1, lo, hi), b => if b.toNat < lo ∨ hi < b.toNat then none else if n = 0 then some (0, 0, 0) else some (n, 128, 191)
def runS (s : Option (Nat × Nat × Nat)) (l : List UInt8) : Option (Nat × Nat × Nat) := l.foldl stepS s
def wholeS : Option (Nat × Nat × Nat) → Bool
  | some (0, _, _) => true
  | _ => false
theorem runS_nil (s : Option (Nat × Nat × Nat)) : runS s [] = s := rfl
theorem runS_cons (s : Option (Nat × Nat × Nat)) (b : UInt8) (t : List UInt8) : runS s (b :: t) = runS (stepS s b) t := rfl
theorem runS_append (s : Option (Nat × Nat × Nat)) (a b : List UInt8) : runS s (a ++ b) = runS (runS s a) b := by simp [runS]
theorem runS_none (l : List UInt8) : runS none l = none := by
  induction l with
  | nil => rfl
  | cons b t ih => rw [runS_cons]; exact ih
theorem runS_snoc (s : Option (Nat × Nat × Nat)) (l : List UInt8) (i : Nat) (h : i < l.length) : runS s (l.take (i + 1)) = stepS (runS s (l.take i)) l[i] := by
  rw [List.take_add_one, List.getElem?_eq_getElem h, runS_append]
  rfl
def leadOk (b : Nat) : Bool := match openS b with
    | none => decide (firstT b % 8 = 1)
    | some (n, lo, hi) => decide (firstT b % 8 = n + 1 ∧ accLo (firstT b / 16) = lo ∧ accHi (firstT b / 16) = hi ∧ 1 ≤ n ∧ n ≤ 3)
set_option maxRecDepth 100000 in
theorem lead_ok : ∀ b : Fin 256, 128 ≤ b.val → leadOk b.val = true := by decide +kernel
theorem lead_none {b : Nat} (h0 : 128 ≤ b) (h1 : b < 256) (h : openS b = none) : firstT b % 8 = 1 := by
  have := lead_ok ⟨b, h1⟩ h0
  simpa [leadOk, h] using this
theorem lead_some {b n lo hi : Nat} (h0 : 128 ≤ b) (h1 : b < 256) (h : openS b = some (n, lo, hi)) : firstT b % 8 = n + 1 ∧ accLo (firstT b / 16) = lo ∧ accHi (firstT b / 16) = hi ∧ 1 ≤ n ∧ n ≤ 3 := by
  have := lead_ok ⟨b, h1⟩ h0
  simpa [leadOk, h] using this
theorem check2 (n b1 b2 b3 lo hi : Nat) : checkN n b1 b2 b3 2 lo hi = if n < 2 ∨ b1 < lo ∨ hi < b1 then none else some 2 := by simp [checkN]
theorem check3 (n b1 b2 b3 lo hi : Nat) : checkN n b1 b2 b3 3 lo hi = if n < 3 ∨ b1 < lo ∨ hi < b1 ∨ b2 < 128 ∨ 191 < b2 then none else some 3 := by simp [checkN]
theorem check4 (n b1 b2 b3 lo hi : Nat) : checkN n b1 b2 b3 4 lo hi = if n < 4 ∨ b1 < lo ∨ hi < b1 ∨ b2 < 128 ∨ 191 < b2 ∨ b3 < 128 ∨ 191 < b3 then none else some 4 := by simp [checkN]
theorem openS_pos (b n lo hi : Nat) (h : openS b = some (n, lo, hi)) (hb : 128 ≤ b) : (n = 1 ∨ n = 2 ∨ n = 3) ∧ 128 ≤ lo ∧ lo ≤ hi ∧ hi ≤ 191 := by
  unfold openS at h
  rw [if_neg (by omega)] at h
  repeat' split at h
  all_goals first | (simp only [Option.some.injEq, Prod.mk.injEq] at h; omega) | (cases h)
/-- THE STATES TELL WHAT 'validD' TELLS. -/
theorem valid_run (l : List UInt8) : validD l = wholeS (runS st0 l) := by
  generalize hn : l.length = m
  induction m using Nat.strongRecOn generalizing l with
  | ind m ih =>
    match l with
    | [] => rfl
    | b0 :: t =>
      have hlt := b0.toNat_lt
      by_cases hb : b0.toNat < 128
      · rw [validD_cons _ _ hb, runS_cons]
        have : stepS st0 b0 = st0 := by simp [stepS, st0, openS, hb]
        rw [this]
        exact ih t.length (by simp at hn; omega) t rfl
      · rw [validD_lead _ (by simp) (by simpa using hb), runS_cons]
        have hs : stepS st0 b0 = openS b0.toNat := rfl
        rw [hs]
        simp only [List.getD_cons_zero, List.length_cons]
        cases ho : openS b0.toNat with
        | none =>
          rw [lead_none (by omega) hlt ho, runS_none]
          simp [checkN, wholeS]
        | some p =>
          obtain ⟨n, lo, hi⟩ := p
          obtain ⟨h1, h2, h3, h4, h5⟩ := lead_some (by omega) hlt ho
          rw [h1, h2, h3]
          rcases (show n = 1 ∨ n = 2 ∨ n = 3 by omega) with rfl | rfl | rfl
          · rw [check2]
            match t with
            | [] => rw [if_pos (by simp)]; rfl
            | c1 :: t' =>
              have := ih t'.length (by simp at hn; omega) t' rfl
              simp only [runS_cons, stepS, List.getD_cons_succ, List.getD_cons_zero, List.length_cons]
              by_cases q1 : c1.toNat < lo ∨ hi < c1.toNat
              · rw [if_pos (by omega), if_pos q1, runS_none]; rfl
              · rw [if_neg (by omega), if_neg q1]; exact this
          · rw [check3]
            match t with
            | [] => rw [if_pos (by simp)]; rfl
            | [c1] => rw [if_pos (by simp)]; by_cases q1 : c1.toNat < lo ∨ hi < c1.toNat <;> simp [wholeS, runS, stepS, q1]
            | c1 :: c2 :: t' =>
              have := ih t'.length (by simp at hn; omega) t' rfl
              simp only [runS_cons, stepS, List.getD_cons_succ, List.getD_cons_zero, List.length_cons]
              by_cases q1 : c1.toNat < lo ∨ hi < c1.toNat
              · rw [if_pos (by omega), if_pos q1]; simp only []; rw [runS_none]; rfl
              · rw [if_neg q1, if_neg (show ¬ (1 = 0) by decide)]
                simp only []
                by_cases q2 : c2.toNat < 128 ∨ 191 < c2.toNat
                · rw [if_pos (by omega), if_pos q2, runS_none]; rfl
                · rw [if_neg (by omega), if_neg q2]; exact this
          · rw [check4]
            match t with
            | [] => rw [if_pos (by simp)]; rfl
            | [c1] => rw [if_pos (by simp)]; by_cases q1 : c1.toNat < lo ∨ hi < c1.toNat <;> simp [wholeS, runS, stepS, q1]
            | [c1, c2] => rw [if_pos (by simp)]; by_cases q1 : c1.toNat < lo ∨ hi < c1.toNat <;> by_cases q2 : c2.toNat < 128 ∨ 191 < c2.toNat <;> simp [wholeS, runS, stepS, q1, q2]
            | c1 :: c2 :: c3 :: t' =>
              have := ih t'.length (by simp at hn; omega) t' rfl
              simp only [runS_cons, stepS, List.getD_cons_succ, List.getD_cons_zero, List.length_cons]
              by_cases q1 : c1.toNat < lo ∨ hi < c1.toNat
              · rw [if_pos (by omega), if_pos q1]; simp only []; rw [runS_none]; rfl
              · rw [if_neg q1, if_neg (show ¬ (2 = 0) by decide)]
                simp only []
                by_cases q2 : c2.toNat < 128 ∨ 191 < c2.toNat
                · rw [if_pos (by omega), if_pos q2]; simp only []; rw [runS_none]; rfl
                · rw [if_neg q2, if_neg (show ¬ (1 = 0) by decide)]
                  simp only []
                  by_cases q3 : c3.toNat < 128 ∨ 191 < c3.toNat
                  · rw [if_pos (by omega), if_pos q3, runS_none]; rfl
                  · rw [if_neg (by omega), if_neg q3]; exact this
/-- How many bytes may be, from the front. -/
def goodN : Option (Nat × Nat × Nat) → List UInt8 → Nat
  | _, [] => 0
  | s, b :: t => match stepS s b with
    | none => 0
    | some p => goodN (some p) t + 1
theorem goodN_le (s : Option (Nat × Nat × Nat)) (l : List UInt8) : goodN s l ≤ l.length := by
  induction l generalizing s with
  | nil => simp [goodN]
  | cons b t ih =>
    unfold goodN
    cases h : stepS s b with
    | none => simp
    | some p => simpa using ih (some p)
theorem good_iff (s : Option (Nat × Nat × Nat)) (l : List UInt8) (i : Nat) (hi : i < l.length) : i < goodN s l ↔ runS s (l.take (i + 1)) ≠ none := by
  induction l generalizing s i with
  | nil => simp at hi
  | cons b t ih =>
    unfold goodN
    rw [List.take_succ_cons, runS_cons]
    cases h : stepS s b with
    | none => simp [runS_none]
    | some p =>
      cases i with
      | zero => simp [runS_nil]
      | succ i =>
        have := ih (some p) i (by simpa using hi)
        simp only [Nat.add_lt_add_iff_right]
        exact this
theorem good_all (s : Option (Nat × Nat × Nat)) (l : List UInt8) (h : runS s l ≠ none) : goodN s l = l.length := by
  by_cases h0 : l = []
  · subst h0; rfl
  · have hl : 0 < l.length := List.length_pos_iff.2 h0
    have := (good_iff s l (l.length - 1) (by omega)).2 (by rw [List.take_of_length_le (by omega)]; exact h)
    have := goodN_le s l
    omega
theorem good_at (s : Option (Nat × Nat × Nat)) (l : List UInt8) (i : Nat) (hi : i < l.length) (h : runS s (l.take i) ≠ none) (hb : stepS (runS s (l.take i)) l[i] = none) : goodN s l = i := by
  have h1 : ¬ i < goodN s l := by
    rw [good_iff s l i hi, runS_snoc s l i hi, hb]
    simp
  by_cases h0 : i = 0
  · omega
  · have h2 := (good_iff s l (i - 1) (by omega)).2 (by rw [show i - 1 + 1 = i by omega]; exact h)
    omega
theorem good_none (l : List UInt8) (h : runS st0 l = none) : goodN st0 l < l.length := by
  have := goodN_le st0 l
  by_cases he : goodN st0 l = l.length
  · by_cases h0 : l = []
    · subst h0; simp [runS, st0] at h
    · have hl : 0 < l.length := List.length_pos_iff.2 h0
      have := (good_iff st0 l (l.length - 1) (by omega)).1 (by omega)
      rw [List.take_of_length_le (by omega)] at this
      exact absurd h this
  · omega
end Go.Proofs.Ytkfidnfnehnhoaa
