/-
  NO PROGRAM NEEDED: the book's documents as Check lets them by.
-/
import Derived.Test.YtkfidnfnehnhoaaDocP
import Derived.Test.YtkfidnfnehnhoaaDocQ
import Derived.Test.YtkfidnfnehnhoaaJinDoc
namespace Go.Proofs.Ytkfidnfnehnhoaa
open Go.RowKit
open Go.Lib
theorem doc_run (n : Nat) (L : Nat → Int) (D : Nat) (hD : D ≤ 16) : runC (.live []) (itemD n L D 0).1 = .done := by
  have h := (doc_one false D n L hD).1
  rw [gE_false, List.map_id] at h
  exact check_zero h
theorem doc_e (n : Nat) (L : Nat → Int) (D : Nat) : ∀ e ∈ (itemD n L D 0).1, DocE e := docE_item n L D 0
theorem docE_may {e : Ev} (h : DocE e) : mayE e := by
  have h1 := h.kind
  have h2 := h.cnt
  exact ⟨by omega, by omega, fun _ => h2.1⟩
theorem docE_small {e : Ev} (h : DocE e) : EvOk e ∧ e.t.size ≤ 1000 := by
  refine ⟨h.ok, ?_⟩
  have := h.text.2
  rw [size_list] at this
  omega
theorem run_ended {l : List Ev} (h : runC .done l = .done) : l = [] := by
  cases l with
  | nil => rfl
  | cons e l =>
    have : runC .done (e :: l) = runC (.bad 2) l := rfl
    rw [this, runC_bad] at h
    cases h
theorem stepC_may {s : List Bx} {e : Ev} (h : ∀ f, stepC (.live s) e ≠ .bad f) : mayE e := by
  by_cases hm : mayE e
  · exact hm
  · exact absurd (by simp only [stepC]; rw [if_pos hm]) (h 2)
/-- All counts are known. -/
theorem doc_pos (n : Nat) (L : Nat → Int) : ∀ f a, ∀ e ∈ (itemD n L f a).1, 0 ≤ e.c := by
  have hpl : ∀ x, 0 ≤ (plainD x).c := by
    intro x
    unfold plainD
    repeat' split
    all_goals simp
  have hlw : ∀ x, 0 ≤ (lowD x).c := by
    intro x
    unfold lowD
    split <;> simp
  have hls : ∀ (it : Nat → List Ev × Nat), (∀ a, ∀ e ∈ (it a).1, 0 ≤ e.c) → ∀ k a, ∀ e ∈ (listD it k a).1, 0 ≤ e.c := by
    intro it hit k
    induction k with
    | zero => intro a e he; simp [listD] at he
    | succ k ih =>
      intro a e he
      simp only [listD, List.mem_append] at he
      rcases he with he | he
      · exact hit a e he
      · exact ih _ e he
  have hmp : ∀ (it : Nat → List Ev × Nat), (∀ a, ∀ e ∈ (it a).1, 0 ≤ e.c) → ∀ k a, ∀ e ∈ (mapD n L it k a).1, 0 ≤ e.c := by
    intro it hit k
    induction k with
    | zero => intro a e he; simp [mapD] at he
    | succ k ih =>
      intro a e he
      simp only [mapD, List.mem_cons, List.mem_append] at he
      rcases he with rfl | he | he
      · simp
      · exact hit (a + 1) e he
      · exact ih _ e he
  intro f
  induction f with
  | zero =>
    intro a e he
    simp only [itemD] at he
    split at he
    · obtain rfl : e = _ := by simpa using he
      exact hpl _
    · obtain rfl : e = _ := by simpa using he
      exact hlw _
  | succ f ih =>
    intro a e he
    simp only [itemD] at he
    by_cases h1 : nxD n L a % 8 ≤ 4
    · rw [if_pos h1] at he
      obtain rfl : e = _ := by simpa using he
      exact hpl _
    · rw [if_neg h1] at he
      by_cases h2 : nxD n L a % 8 = 5
      · rw [if_pos h2] at he
        generalize nxD n L a / 8 % 4 = k at he
        simp only [List.cons_append, List.mem_cons, List.mem_append, List.not_mem_nil, or_false] at he
        rcases he with rfl | he | rfl
        · simp
        · exact hls _ ih _ _ e he
        · simp
      · rw [if_neg h2] at he
        generalize nxD n L a / 8 % 3 = k at he
        simp only [List.cons_append, List.mem_cons, List.mem_append, List.not_mem_nil, or_false] at he
        rcases he with rfl | he | rfl
        · simp
        · exact hmp _ ih _ _ e he
        · simp
end Go.Proofs.Ytkfidnfnehnhoaa
