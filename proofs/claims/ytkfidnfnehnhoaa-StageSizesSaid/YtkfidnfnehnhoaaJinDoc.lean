/-
  NO PROGRAM NEEDED: documents written part by part, as far as they are written; blanks ahead of all.
-/
import Derived.Test.YtkfidnfnehnhoaaJinPure
import Derived.Test.YtkfidnfnehnhoaaDocQ
namespace Go.Proofs.Ytkfidnfnehnhoaa
open Go.Lib
theorem writeAll_snoc (p q : List UInt8) : ∀ (l : List Ev) (s s' : List Bx) (e : Ev), runC (.live s) l = .live s' → writeAll p q s (l ++ [e]) = writeAll p q s l ++ (p ++ (writeW s' e ++ q))
  | [], s, s', e, h => by
    have : Ck.live s = Ck.live s' := h
    obtain rfl : s = s' := by cases this; rfl
    simp only [List.nil_append, writeAll]
    cases stepC (.live s) e <;> simp
  | x :: l, s, s', e, h => by
    rw [runC_cons] at h
    simp only [List.cons_append, writeAll]
    cases hx : stepC (.live s) x with
    | bad f => rw [hx, runC_bad] at h; cases h
    | done =>
      rw [hx] at h
      cases l with
      | nil => cases h
      | cons y l => rw [runC_cons] at h; simp only [stepC] at h; rw [runC_bad] at h; cases h
    | live s1 =>
      rw [hx] at h
      simp only [writeAll_snoc p q l s1 s' e h, List.append_assoc]
/-- Ahead of its end a document goes on. -/
theorem live_at {l : List Ev} (h : runC (.live []) l = .done) {j : Nat} (hj : j < l.length) : ∃ s, runC (.live []) (l.take j) = .live s ∧ ∀ f, stepC (.live s) l[j] ≠ .bad f := by
  have h1 : runC (runC (.live []) (l.take j)) (l.drop j) = .done := by rw [← runC_append, List.take_append_drop]; exact h
  have hd : l.drop j = l[j] :: l.drop (j + 1) := List.drop_eq_getElem_cons hj
  rw [hd, runC_cons] at h1
  cases hc : runC (.live []) (l.take j) with
  | bad f => rw [hc] at h1; simp only [stepC] at h1; rw [runC_bad] at h1; cases h1
  | done => rw [hc] at h1; simp only [stepC] at h1; rw [runC_bad] at h1; cases h1
  | live s =>
    rw [hc] at h1
    exact ⟨s, rfl, fun f hf => by rw [hf, runC_bad] at h1; cases h1⟩
theorem runC_take {l : List Ev} {j : Nat} (hj : j < l.length) (c : Ck) : runC c (l.take (j + 1)) = stepC (runC c (l.take j)) l[j] := by
  rw [List.take_add_one, List.getElem?_eq_getElem hj, runC_append]
  rfl
theorem write_take (p q : List UInt8) {l : List Ev} {j : Nat} (hj : j < l.length) {s : List Bx} (h : runC (.live []) (l.take j) = .live s) :
    writeAll p q [] (l.take (j + 1)) = writeAll p q [] (l.take j) ++ (p ++ (writeW s l[j] ++ q)) := by
  rw [List.take_add_one, List.getElem?_eq_getElem hj]
  exact writeAll_snoc p q _ _ _ _ h
/-- A document behind a blank. -/
theorem back_blank (D : Nat) (b : UInt8) (hb : isBlank b.toNat = true) (l : List UInt8) : allJ D (b :: l) = allJ D l := by
  have h : stepJ D ⟨.idle, .at_ [] false⟩ b = (⟨.idle, .at_ [] false⟩, []) := by
    rw [step_tells D [] false .idle b [] (blank_none b hb)]
    rfl
  unfold allJ
  simp only [runJ, h, List.nil_append]
end Go.Proofs.Ytkfidnfnehnhoaa
