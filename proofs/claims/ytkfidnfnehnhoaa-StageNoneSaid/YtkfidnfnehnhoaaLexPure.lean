/-
  NO PROGRAM NEEDED: JSON cut into tokens, as a machine over bytes (on the machines of EscPure and DecPure); strings that were written so, numbers, words, blanks.
-/
import Derived.Test.YtkfidnfnehnhoaaEscPure
import Derived.Test.YtkfidnfnehnhoaaDecPure
namespace Go.Proofs.Ytkfidnfnehnhoaa
open Go.Lib
/-- A token: its kind (a byte), its text, its number. -/
structure Tk where
  k : Nat
  t : List UInt8
  n : Bool × Nat
deriving DecidableEq
/-- Between tokens; within a string (its Reader, its text so far), a number, a word (its kind, the bytes that it lacks); behind an error. -/
inductive Lx
  | idle
  | str (s : Ins) (t : List UInt8)
  | num (d : Dec)
  | word (k : Nat) (r : List Nat)
  | bad (e : Nat)
def sgnT (k : Nat) : Tk := ⟨k, [], (false, 0)⟩
def isSgn (b : Nat) : Bool := b == 123 || b == 125 || b == 91 || b == 93 || b == 58 || b == 44
def isBlank (b : Nat) : Bool := b == 32 || b == 9 || b == 10 || b == 13
/-- A byte between tokens. -/
def startX (b : Nat) : Lx × List Tk :=
  if isBlank b = true then (.idle, []) else if isSgn b = true then (.idle, [sgnT b]) else if b = 34 then (.str insT [], [])
  else if b = 45 ∨ 48 ≤ b ∧ b ≤ 57 then (.num (stepD d0 b).1, [])
  else if b = 116 then (.word 116 [114, 117, 101], []) else if b = 102 then (.word 102 [97, 108, 115, 101], []) else if b = 110 then (.word 48 [117, 108, 108], []) else (.bad 2, [])
def insE : Ins → Nat
  | .bad true => 9
  | .bad false => 2
  | _ => 0
/-- What is told behind a byte: with an error no tokens. -/
def tellX (pre_ : List Tk) : Lx × List Tk → Lx × List Tk
  | (.bad e, _) => (.bad e, [])
  | (s, l) => (s, pre_ ++ l)
def stepX : Lx → UInt8 → Lx × List Tk
  | .bad e, _ => (.bad e, [])
  | .idle, b => startX b.toNat
  | .str s t, b =>
    if b.toNat = 34 ∧ wholeI s = true then (.idle, [⟨115, t, (false, 0)⟩])
    else if insE (stepI s b).1 ≠ 0 then (.bad (insE (stepI s b).1), [])
    else if 200 < (t ++ (stepI s b).2).length then (.bad 5, []) else (.str (stepI s b).1 (t ++ (stepI s b).2), [])
  | .num d, b =>
    if errD (stepD d b.toNat).1 ≠ 0 then (.bad (errD (stepD d b.toNat).1), [])
    else if (stepD d b.toNat).2 = true then (.num (stepD d b.toNat).1, [])
    else if (endD d).2 ≠ 0 then (.bad (endD d).2, []) else tellX [⟨110, [], (endD d).1⟩] (startX b.toNat)
  | .word k r, b =>
    match r with
    | [] => (.bad 2, [])
    | x :: q => if b.toNat = x then (if q = [] then (.idle, [sgnT k]) else (.word k q, [])) else (.bad 2, [])
def runX : Lx → List UInt8 → Lx × List Tk
  | s, [] => (s, [])
  | s, b :: t => ((runX (stepX s b).1 t).1, (stepX s b).2 ++ (runX (stepX s b).1 t).2)
/-- At the end: the tokens, the error. -/
def endX : Lx → List Tk × Nat
  | .idle => ([], 0)
  | .num d => if (endD d).2 ≠ 0 then ([], (endD d).2) else ([⟨110, [], (endD d).1⟩], 0)
  | .str _ _ => ([], 3)
  | .word _ _ => ([], 3)
  | .bad e => ([], e)
def heldX : Lx → Nat
  | .str _ t => t.length
  | _ => 0
theorem runX_cons (s : Lx) (b : UInt8) (t : List UInt8) : runX s (b :: t) = ((runX (stepX s b).1 t).1, (stepX s b).2 ++ (runX (stepX s b).1 t).2) := rfl
theorem runX_append (s : Lx) (a b : List UInt8) : runX s (a ++ b) = ((runX (runX s a).1 b).1, (runX s a).2 ++ (runX (runX s a).1 b).2) := by
  induction a generalizing s with
  | nil => simp [runX]
  | cons x t ih => simp only [List.cons_append, runX_cons, ih, List.append_assoc]
theorem runX_snoc (s : Lx) (l : List UInt8) (i : Nat) (h : i < l.length) : runX s (l.take (i + 1)) = ((stepX (runX s (l.take i)).1 l[i]).1, (runX s (l.take i)).2 ++ (stepX (runX s (l.take i)).1 l[i]).2) := by
  rw [List.take_add_one, List.getElem?_eq_getElem h, runX_append]
  simp [runX]
theorem runX_bad (e : Nat) (l : List UInt8) : runX (.bad e) l = (.bad e, []) := by
  induction l with
  | nil => rfl
  | cons b t ih => rw [runX_cons]; simp only [stepX, ih, List.append_nil]
/-! ### A string that was written so -/
/-- A Reader that comes to its end without an error had none on its way, and what it told on its way is a beginning of all. -/
theorem mid_ok (l k : List UInt8) (r : List UInt8) (h : runI insT (l ++ k) = (insT, r)) : insE (runI insT l).1 = 0 ∧ ∃ q, r = (runI insT l).2 ++ q := by
  rw [runI_append] at h
  simp only [Prod.mk.injEq] at h
  refine ⟨?_, _, h.2.symm⟩
  cases hs : (runI insT l).1 with
  | bad u =>
    rw [hs, runI_bad] at h
    cases h.1
  | text _ _ _ => rfl
  | back => rfl
  | hex _ _ => rfl
  | high _ _ _ => rfl
theorem whole_quote (s : Ins) (b : UInt8) (hw : wholeI s = true) (hb : b.toNat = 34) : insE (stepI s b).1 ≠ 0 := by
  cases s with
  | text n lo hi =>
    cases n with
    | zero => simp only [stepI]; rw [if_pos (.inl hb)]; decide
    | succ n => cases hw
  | back => cases hw
  | hex _ _ => cases hw
  | high _ _ _ => cases hw
  | bad _ => cases hw
/-- The state behind a beginning of a string's inside. -/
def strX (p : Ins × List UInt8) : Lx := if 200 < p.2.length then .bad 5 else .str p.1 p.2
theorem str_step (l k r : List UInt8) (b : UInt8) (h : runI insT (l ++ b :: k) = (insT, r)) : stepX (.str (runI insT l).1 (runI insT l).2) b = (strX (runI insT (l ++ [b])), []) := by
  have h1 : l ++ b :: k = (l ++ [b]) ++ k := by simp
  have hm := (mid_ok (l ++ [b]) k r (by rw [← h1]; exact h)).1
  have hs : runI insT (l ++ [b]) = ((stepI (runI insT l).1 b).1, (runI insT l).2 ++ (stepI (runI insT l).1 b).2) := by rw [runI_append, runI_one]
  rw [hs] at hm ⊢
  simp only at hm
  simp only [stepX, strX]
  rw [if_neg (fun hq => whole_quote _ _ hq.2 hq.1 hm), if_neg (fun hq => hq hm)]
  split <;> rfl
/-- Within a string that was written so: no token, no error but that it is too long. -/
theorem str_run (w r : List UInt8) (h : runI insT w = (insT, r)) : ∀ i, i ≤ w.length → runX (.str insT []) (w.take i) = (strX (runI insT (w.take i)), []) := by
  intro i
  induction i with
  | zero => intro _; rfl
  | succ i ih =>
    intro hi
    have ih := ih (by omega)
    rw [runX_snoc _ _ _ hi, ih]
    have hw : w = w.take i ++ w[i] :: w.drop (i + 1) := by rw [List.getElem_cons_drop, List.take_append_drop]
    have ht : w.take (i + 1) = w.take i ++ [w[i]] := by rw [List.take_add_one, List.getElem?_eq_getElem hi]; rfl
    rw [ht]
    unfold strX
    by_cases hl : 200 < (runI insT (w.take i)).2.length
    · rw [if_pos hl]
      have : 200 < (runI insT (w.take i ++ [w[i]])).2.length := by
        rw [runI_append]
        simp only [List.length_append]
        omega
      rw [if_pos this]
      rfl
    · rw [if_neg hl]
      have := str_step (w.take i) (w.drop (i + 1)) r w[i] (by rw [← hw]; exact h)
      simp only [this]
      rfl
theorem str_part (w r : List UInt8) (h : runI insT w = (insT, r)) (i : Nat) : (runI insT (w.take i)).2.length ≤ r.length := by
  obtain ⟨_, q, hq⟩ := mid_ok (w.take i) (w.drop i) r (by rw [List.take_append_drop]; exact h)
  rw [hq, List.length_append]
  omega
/-- A string of a text that is UTF-8, as it is written: within it no token. -/
theorem quote_in (l : List UInt8) (hv : validD l = true) (i : Nat) (hi : i ≤ (escW l).length) : runX .idle ((34 :: escW l).take (i + 1)) = (strX (runI insT ((escW l).take i)), []) := by
  have h := str_run (escW l) l (read_write l hv) i hi
  rw [List.take_succ_cons, runX_cons, show stepX .idle 34 = (.str insT [], []) from rfl, h]
  rfl
/-- At its last quote the token, unless it is too long. -/
theorem quote_end (l : List UInt8) (hv : validD l = true) (hl : l.length ≤ 200) : runX .idle (34 :: escW l ++ [34]) = (.idle, [⟨115, l, (false, 0)⟩]) := by
  have h := quote_in l hv (escW l).length (Nat.le_refl _)
  rw [List.take_of_length_le (by simp), List.take_of_length_le (Nat.le_refl _), read_write l hv] at h
  rw [runX_append, h]
  unfold strX
  rw [if_neg (by simp only; omega)]
  rfl
theorem quote_long (l : List UInt8) (hv : validD l = true) (hl : 200 < l.length) : (runX .idle (34 :: escW l)).1 = .bad 5 := by
  have h := quote_in l hv (escW l).length (Nat.le_refl _)
  rw [List.take_of_length_le (by simp), List.take_of_length_le (Nat.le_refl _), read_write l hv] at h
  rw [h]
  unfold strX
  rw [if_pos hl]
/-! ### Numbers -/
theorem num_runs {s r : Dec} {l : List UInt8} (h : Runs s l r) : runX (.num s) l = (.num r, []) := by
  induction h with
  | nil => rfl
  | cons hs he _ ih =>
    rw [runX_cons]
    simp only [stepX, hs, he]
    simp only [ne_eq, not_true_eq_false, if_false, if_true, ih, List.append_nil]
theorem start_num {b : Nat} {s : Dec} (h : stepD d0 b = (s, true)) : startX b = (.num s, []) := by
  have hb : b = 45 ∨ 48 ≤ b ∧ b ≤ 57 := by
    simp only [d0, stepD] at h
    split at h
    · omega
    · split at h
      · omega
      · split at h
        · simp at h
        · split at h <;> simp at h
  unfold startX
  rw [if_neg (by simp only [isBlank, Bool.or_eq_true, beq_iff_eq]; omega), if_neg (by simp only [isSgn, Bool.or_eq_true, beq_iff_eq]; omega), if_neg (by omega), if_pos hb, h]
def numT (w : Bool × Nat) : Tk := ⟨110, [], w⟩
/-- A number that is printed: no token of it so far. -/
theorem num_in {l : List UInt8} {r : Dec} (h : Runs d0 l r) (hl : l ≠ []) : runX .idle l = (.num r, []) := by
  cases h with
  | nil => exact absurd rfl hl
  | cons hs he hk =>
    rw [runX_cons, show stepX .idle _ = startX _ from rfl, start_num hs]
    simp only
    rw [num_runs hk]
    rfl
theorem runs_take {s r : Dec} {l : List UInt8} (h : Runs s l r) : ∀ i, ∃ q, Runs s (l.take i) q := by
  induction h with
  | nil s => intro i; exact ⟨s, by simp; exact .nil s⟩
  | cons hs he _ ih =>
    intro i
    cases i with
    | zero => exact ⟨_, .nil _⟩
    | succ i =>
      obtain ⟨q, hq⟩ := ih i
      exact ⟨q, .cons hs he hq⟩
/-- A byte that is no digit, no point, no exponent, behind a number that is printed. -/
theorem step_off (w : Bool × Nat) {c : Nat} (h1 : c < 48 ∨ 57 < c) (h2 : c ≠ 45) (h3 : c ≠ 46) (h4 : c ≠ 101) (h5 : c ≠ 69) : stepD (prD w) c = (prD w, false) := by
  obtain ⟨p, m, v, hp, h0⟩ := prD_digit w
  rw [hp]
  simp only [stepD]
  rw [if_neg (by omega), if_neg (by omega), if_neg (by omega), if_neg (by omega)]
theorem num_blank (w : Bool × Nat) (hw : w.2 < 18446744073709551616) (c : UInt8) (hc : isBlank c.toNat = true) : stepX (.num (prD w)) c = (.idle, [numT w]) := by
  simp only [isBlank, Bool.or_eq_true, beq_iff_eq] at hc
  have hs := step_off w (c := c.toNat) (by omega) (by omega) (by omega) (by omega) (by omega)
  obtain ⟨p, m, v, hp, h0⟩ := prD_digit w
  simp only [stepX, hs]
  rw [if_neg (by rw [hp]; exact fun h => h rfl), if_neg (by decide), if_neg (by rw [end_print w hw]; exact fun h => h rfl), end_print w hw]
  unfold startX
  rw [if_pos (by simp only [isBlank, Bool.or_eq_true, beq_iff_eq]; omega)]
  rfl
theorem num_sign (w : Bool × Nat) (hw : w.2 < 18446744073709551616) (c : UInt8) (hc : isSgn c.toNat = true) : stepX (.num (prD w)) c = (.idle, [numT w, sgnT c.toNat]) := by
  simp only [isSgn, Bool.or_eq_true, beq_iff_eq] at hc
  have hs := step_off w (c := c.toNat) (by omega) (by omega) (by omega) (by omega) (by omega)
  obtain ⟨p, m, v, hp, h0⟩ := prD_digit w
  simp only [stepX, hs]
  rw [if_neg (by rw [hp]; exact fun h => h rfl), if_neg (by decide), if_neg (by rw [end_print w hw]; exact fun h => h rfl), end_print w hw]
  unfold startX
  rw [if_neg (by simp only [isBlank, Bool.or_eq_true, beq_iff_eq]; omega), if_pos (by simp only [isSgn, Bool.or_eq_true, beq_iff_eq]; omega)]
  rfl
theorem num_end (w : Bool × Nat) (hw : w.2 < 18446744073709551616) : endX (.num (prD w)) = ([numT w], 0) := by
  simp only [endX]
  rw [if_neg (by rw [end_print w hw]; exact fun h => h rfl), end_print w hw]
  rfl
/-! ### Words -/
/-- The eleven of LexerBlanks: each is one token, at its last byte. -/
def blankW : List (List UInt8 × Tk) := [([123], sgnT 123), ([125], sgnT 125), ([91], sgnT 91), ([93], sgnT 93), ([58], sgnT 58), ([44], sgnT 44), ([34, 97, 32, 98, 34], ⟨115, [97, 32, 98], (false, 0)⟩),
  ([116, 114, 117, 101], sgnT 116), ([102, 97, 108, 115, 101], sgnT 102), ([110, 117, 108, 108], sgnT 48), ([34, 34], ⟨115, [], (false, 0)⟩)]
theorem blank_one : ∀ i : Fin 11, runX .idle (blankW[i.val]'(by simp [blankW])).1 = (.idle, [(blankW[i.val]'(by simp [blankW])).2]) := by
  intro i
  match i with
  | ⟨0, _⟩ => rfl
  | ⟨1, _⟩ => rfl
  | ⟨2, _⟩ => rfl
  | ⟨3, _⟩ => rfl
  | ⟨4, _⟩ => rfl
  | ⟨5, _⟩ => rfl
  | ⟨6, _⟩ => rfl
  | ⟨7, _⟩ => rfl
  | ⟨8, _⟩ => rfl
  | ⟨9, _⟩ => rfl
  | ⟨10, _⟩ => rfl
theorem blank_none (b : UInt8) (h : isBlank b.toNat = true) : stepX .idle b = (.idle, []) := by
  simp only [stepX, startX]
  rw [if_pos h]
theorem blanks_run (l : List UInt8) (h : ∀ b ∈ l, isBlank b.toNat = true) : runX .idle l = (.idle, []) := by
  induction l with
  | nil => rfl
  | cons b l ih =>
    rw [runX_cons, blank_none b (h b (by simp))]
    simp only
    rw [ih (fun x hx => h x (by simp [hx]))]
    rfl
def wordX (i : Nat) : List UInt8 := (blankW[i]?.getD ([], sgnT 0)).1
def tokX (i : Nat) : Tk := (blankW[i]?.getD ([], sgnT 0)).2
theorem word_one (i : Nat) (h : i < 11) : runX .idle (wordX i) = (.idle, [tokX i]) := by
  have := blank_one ⟨i, h⟩
  have hl : i < blankW.length := by simp [blankW]; exact h
  unfold wordX tokX
  rw [List.getElem?_eq_getElem hl]
  exact this
/-- Words, with whatever blanks behind each. -/
theorem words_run (l : List (Nat × List UInt8)) (h : ∀ p ∈ l, p.1 < 11 ∧ ∀ b ∈ p.2, isBlank b.toNat = true) : runX .idle (l.flatMap fun p => wordX p.1 ++ p.2) = (.idle, l.map fun p => tokX p.1) := by
  induction l with
  | nil => rfl
  | cons p l ih =>
    have hp := h p (by simp)
    rw [List.flatMap_cons, runX_append, runX_append, word_one p.1 hp.1]
    simp only
    rw [blanks_run p.2 hp.2]
    simp only
    rw [ih (fun q hq => h q (by simp [hq]))]
    rfl
/-- Where no error is at the end none was on the way. -/
theorem mid_good (s : Lx) (l : List UInt8) (h : ∀ e, (runX s l).1 ≠ .bad e) (i : Nat) : ∀ e, (runX s (l.take i)).1 ≠ .bad e := by
  intro e he
  have h1 : l = l.take i ++ l.drop i := (List.take_append_drop i l).symm
  apply h e
  rw [h1, runX_append, he, runX_bad]
/-- A word with a byte turned. -/
theorem word_off (k x : Nat) (q : List Nat) (b : UInt8) (h : b.toNat ≠ x) : stepX (.word k (x :: q)) b = (.bad 2, []) := by
  simp only [stepX]
  rw [if_neg h]
theorem bad_stays (e : Nat) (b : UInt8) : stepX (.bad e) b = (.bad e, []) := rfl
end Go.Proofs.Ytkfidnfnehnhoaa
