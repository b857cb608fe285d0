/-
  NO PROGRAM. What a way gives at an array of n fives, where n + 1 or n may be held back.
-/
import Derived.Test.YtkgconbdmnmbnaaGreatPipLq
namespace Go.Proofs.YtkgconbdmnmbnaaGreat
open Go.RowKit
open Go.Lib
def bodyS : Nat → List UInt8
  | 0 => []
  | i + 1 => bodyS i ++ ((if 0 < i then [44] else []) ++ [53])
def docS (n : Nat) : List UInt8 := 91 :: (bodyS n ++ [93])
def stg12 (pr : Bool → Nat → List UInt8) (t n : Nat) : Bool := (batchPp 1 (n + 1) (pp0 (smallPr pr) 1 t) (docS n)).2 == 0 && ((batchPp 1 n (pp0 (smallPr pr) 1 t) (docS n)).2 == 0 && (batchPp 1 (n + 1) (pp0 (smallPr pr) 1 t) (docS n)).1 == (batchPp 1 n (pp0 (smallPr pr) 1 t) (docS n)).1)
def stg3 (pr : Bool → Nat → List UInt8) (n : Nat) : Bool := (batchPp 1 (n + 1) (pp0 (smallPr pr) 1 3) (docS n)).2 == 0 && (batchPp 1 n (pp0 (smallPr pr) 1 3) (docS n) == ([], 10) && n < (batchPp 1 (n + 1) (pp0 (smallPr pr) 1 3) (docS n)).1.length)
set_option maxRecDepth 100000 in
theorem stgs_1 (pr : Bool → Nat → List UInt8) : ((List.range 100).all fun n => stg12 pr 1 (n + 1)) = true := by kernel_rfl
set_option maxRecDepth 100000 in
theorem stgs_2 (pr : Bool → Nat → List UInt8) : ((List.range 100).all fun n => stg12 pr 2 (n + 1)) = true := by kernel_rfl
set_option maxRecDepth 100000 in
theorem stgs_3 (pr : Bool → Nat → List UInt8) : ((List.range 100).all fun n => stg3 pr (n + 1)) = true := by kernel_rfl
theorem stages12 (pr : Bool → Nat → List UInt8) (t n : Nat) (ht : t = 1 ∨ t = 2) (hn : 1 ≤ n ∧ n ≤ 100) : ∃ X, batchPp 1 (n + 1) (pp0 (smallPr pr) 1 t) (docS n) = (X, 0) ∧ batchPp 1 n (pp0 (smallPr pr) 1 t) (docS n) = (X, 0) := by
  have h : stg12 pr t n = true := by
    rcases ht with rfl | rfl
    · have := List.all_eq_true.1 (stgs_1 pr) (n - 1) (by simp; omega)
      rw [show n - 1 + 1 = n by omega] at this
      exact this
    · have := List.all_eq_true.1 (stgs_2 pr) (n - 1) (by simp; omega)
      rw [show n - 1 + 1 = n by omega] at this
      exact this
  unfold stg12 at h
  simp only [Bool.and_eq_true, beq_iff_eq] at h
  obtain ⟨h1, h2, h3⟩ := h
  generalize batchPp 1 (n + 1) (pp0 (smallPr pr) 1 t) (docS n) = A at *
  generalize batchPp 1 n (pp0 (smallPr pr) 1 t) (docS n) = B at *
  obtain ⟨a, x⟩ := A
  obtain ⟨b, y⟩ := B
  simp only at h1 h2 h3
  subst h1 h2 h3
  exact ⟨_, rfl, rfl⟩
theorem stages3 (pr : Bool → Nat → List UInt8) (n : Nat) (hn : 1 ≤ n ∧ n ≤ 100) : ∃ X, batchPp 1 (n + 1) (pp0 (smallPr pr) 1 3) (docS n) = (X, 0) ∧ n < X.length ∧ batchPp 1 n (pp0 (smallPr pr) 1 3) (docS n) = ([], 10) := by
  have h : stg3 pr n = true := by
    have := List.all_eq_true.1 (stgs_3 pr) (n - 1) (by simp; omega)
    rw [show n - 1 + 1 = n by omega] at this
    exact this
  unfold stg3 at h
  simp only [Bool.and_eq_true, beq_iff_eq, decide_eq_true_eq] at h
  obtain ⟨h1, h2, h3⟩ := h
  generalize batchPp 1 (n + 1) (pp0 (smallPr pr) 1 3) (docS n) = A at *
  obtain ⟨a, x⟩ := A
  simp only at h1 h3
  subst h1
  exact ⟨_, rfl, h3, h2⟩
theorem bodyS_len : ∀ n, (bodyS n).length ≤ 2 * n
  | 0 => Nat.le_refl _
  | n + 1 => by
    have := bodyS_len n
    simp only [bodyS, List.length_append]
    split <;> simp <;> omega
/-- What stands in the loop behind i fives. -/
def rowS (i : Nat) : ByteArray := ⟨(91 :: bodyS i).toArray⟩
theorem rowS_size (i : Nat) : (rowS i).size ≤ 2 * i + 1 := by
  have := bodyS_len i
  unfold rowS
  rw [size_of, List.length_cons]
  omega
theorem rowS_first : rowS 0 ++ ⟨#[53]⟩ = rowS 1 := by decide
theorem rowS_next (i : Nat) (h : 0 < i) : rowS i ++ ⟨#[44]⟩ ++ ⟨#[53]⟩ = rowS (i + 1) := by
  unfold rowS
  rw [show (⟨#[44]⟩ : ByteArray) = ⟨[44].toArray⟩ from rfl, show (⟨#[53]⟩ : ByteArray) = ⟨[53].toArray⟩ from rfl, cat_of, cat_of]
  simp [bodyS, h]
theorem rowS_end (n : Nat) : rowS n ++ ⟨#[93]⟩ = ⟨(docS n).toArray⟩ := by
  unfold rowS docS
  rw [show (⟨#[93]⟩ : ByteArray) = ⟨[93].toArray⟩ from rfl, cat_of]
  rfl
theorem docS_len (n : Nat) : (docS n).length ≤ 2 * n + 2 := by
  have := bodyS_len n
  simp only [docS, List.length_cons, List.length_append, List.length_nil]
  omega
end Go.Proofs.YtkgconbdmnmbnaaGreat
