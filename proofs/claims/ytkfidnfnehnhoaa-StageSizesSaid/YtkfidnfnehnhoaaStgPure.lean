/-
  NO PROGRAM NEEDED: what holds containers back (stage.Stage) as a machine: the parts held, the containers that are open, the innermost first.
-/
import Derived.Test.YtkfidnfnehnhoaaEvPure
namespace Go.Proofs.Ytkfidnfnehnhoaa
open Go.Lib
/-- How large a part is. -/
def sizG (e : Ev) : Nat := 1 + (tidyE e).t.size
/-- An open container: a map or not, its count as it said, where its begin is held, how many parts came. -/
structure Cn where
  m : Bool
  c : Int
  at_ : Nat
  n : Nat
deriving DecidableEq
/-- Its begin with its count. -/
def cntE (x : Cn) : Ev := ⟨if x.m = true then 6 else 5, false, 0, ⟨#[]⟩, if x.c ≠ -1 then x.c else if x.m = true then ((x.n / 2 : Nat) : Int) else (x.n : Int)⟩
inductive Gs
  | bad
  | live (z : Nat) (H : List Ev) (op : List Cn)
def gs0 : Gs := .live 0 [] []
/-- One that begins without a count. -/
def opnE (e : Ev) : Prop := (e.k = 5 ∨ e.k = 6) ∧ e.c = -1
instance (e : Ev) : Decidable (opnE e) := by unfold opnE; infer_instance
def incN : List Cn → List Cn
  | [] => []
  | x :: r => ⟨x.m, x.c, x.at_, x.n + 1⟩ :: r
/-- The innermost one ends. -/
def endH (H : List Ev) : List Cn → List Ev
  | [] => H
  | x :: _ => H.set x.at_ (cntE x)
/-- A part is held: the containers ahead of it. -/
def openN (e : Ev) (n : Nat) (op : List Cn) : List Cn := if e.k = 7 then op.tail else if e.k = 5 ∨ e.k = 6 then ⟨decide (e.k = 6), e.c, n, 0⟩ :: incN op else incN op
def heldN (e : Ev) (H : List Ev) (op : List Cn) : List Ev := (if e.k = 7 then endH H op else H) ++ [e]
structure Gr where
  s : Gs
  l : List Ev
  e : Nat
def stepG (lim : Nat) : Gs → Ev → Gr
  | .bad, _ => ⟨.bad, [], 10⟩
  | .live z H op, e =>
    if op = [] ∧ ¬ opnE e then ⟨.live z H op, [e], 0⟩
    else if e.k = 7 ∧ op.length = 1 then ⟨gs0, endH H op ++ [e], 0⟩
    else if lim < z + sizG e then ⟨.bad, [], 10⟩
    else ⟨.live (z + sizG e) (heldN e H op) (openN e H.length op), [], 0⟩
def heldG : Gs → Nat
  | .bad => 0
  | .live z _ _ => z
def emptyG : Gs → Bool
  | .bad => false
  | .live _ H _ => decide (H.length = 0)
/-- What it may be. -/
def WfG (lim : Nat) : Gs → Prop
  | .bad => True
  | .live z H op => z ≤ lim ∧ H.length ≤ z ∧ op.length ≤ H.length ∧ ∀ x ∈ op, x.at_ < H.length ∧ x.n ≤ H.length
theorem endH_length (H : List Ev) (op : List Cn) : (endH H op).length = H.length := by
  cases op <;> simp [endH]
theorem heldN_length (e : Ev) (H : List Ev) (op : List Cn) : (heldN e H op).length = H.length + 1 := by
  unfold heldN
  split <;> simp [endH_length]
theorem sizG_pos (e : Ev) : 1 ≤ sizG e := by unfold sizG; omega
theorem incN_length (op : List Cn) : (incN op).length = op.length := by cases op <;> rfl
theorem incN_mem {op : List Cn} {N : Nat} (h : ∀ x ∈ op, x.at_ < N ∧ x.n ≤ N) : ∀ x ∈ incN op, x.at_ < N + 1 ∧ x.n ≤ N + 1 := by
  cases op with
  | nil => intro x hx; simp [incN] at hx
  | cons y r =>
    intro x hx
    simp only [incN, List.mem_cons] at hx
    rcases hx with rfl | hx
    · have := h y (by simp); simp only; omega
    · have := h x (by simp [hx]); omega
theorem wf_stepG {lim : Nat} {s : Gs} (h : WfG lim s) (e : Ev) : WfG lim (stepG lim s e).s := by
  cases s with
  | bad => trivial
  | live z H op =>
    obtain ⟨h1, h2, h3, h4⟩ := h
    simp only [stepG]
    split
    · exact ⟨h1, h2, h3, h4⟩
    · split
      · exact ⟨Nat.zero_le _, Nat.le_refl _, Nat.le_refl _, fun x hx => by simp at hx⟩
      · split
        · trivial
        · have := sizG_pos e
          refine ⟨by omega, by rw [heldN_length]; omega, ?_, ?_⟩
          · rw [heldN_length]
            unfold openN
            split
            · simp; omega
            · split
              · simp [incN_length]; omega
              · rw [incN_length]; omega
          · rw [heldN_length]
            unfold openN
            split
            · intro x hx
              have := h4 x (List.mem_of_mem_tail hx)
              omega
            · split
              · intro x hx
                rcases List.mem_cons.1 hx with rfl | hx
                · simp
                · exact incN_mem h4 x hx
              · exact incN_mem h4
theorem wf_gs0 (lim : Nat) : WfG lim gs0 := ⟨Nat.zero_le _, Nat.le_refl _, Nat.le_refl _, fun x hx => by simp at hx⟩
/-- No more parts are told than came. -/
theorem stepG_len {lim : Nat} {s : Gs} (h : WfG lim s) (e : Ev) : (stepG lim s e).l.length ≤ lim + 1 := by
  cases s with
  | bad => simp [stepG]
  | live z H op =>
    obtain ⟨h1, h2, h3, h4⟩ := h
    simp only [stepG]
    repeat' split
    all_goals simp [endH_length]
    omega
end Go.Proofs.Ytkfidnfnehnhoaa
