/-
  NO PROGRAM. What a way gives at documents that are fixed: kinds that the other side has not; containers in one another.
-/
import Derived.Test.YtkgconbdmnmbnaaGreatG2c
import Derived.Test.YtkgconbdmnmbnaaGreatG1g
namespace Go.Proofs.YtkgconbdmnmbnaaGreat
open Go.RowKit
open Go.Lib
/-- Numbers below 100 as they are, the others as pr has them. -/
def smallPr (pr : Bool → Nat → List UInt8) : Bool → Nat → List UInt8 := fun y m => if y = false ∧ m < 100 then printD (false, m) else pr y m
theorem smallPr_eq {pr : Bool → Nat → List UInt8} (h : ∀ m, m < 100 → pr false m = printD (false, m)) : smallPr pr = pr := by
  funext y m
  unfold smallPr
  split
  · rename_i hh
    obtain ⟨rfl, hm⟩ := hh
    exact (h m hm).symm
  · rfl
theorem PrintX.small {w : World} (h : PrintX w) : ∃ pr, PrintC w (smallPr pr) := by
  obtain ⟨pr, hp, hs⟩ := h
  exact ⟨pr, by rw [smallPr_eq hs]; exact hp⟩
def oneB (f : Nat) : UInt8 := if f = 1 then 91 else if f = 2 then 129 else 145
def deepChk (pr : Bool → Nat → List UInt8) (f t : Nat) : Bool := (List.range 16).all fun d => (List.range 20).all fun n => (batchPp (d + 1) 100 (pp0 pr f t) (List.replicate (n + 1) (oneB f))).2 == (if d < n then 4 else 3)
set_option maxRecDepth 100000 in
theorem deep_11 (pr : Bool → Nat → List UInt8) : deepChk pr 1 1 = true := by kernel_rfl
set_option maxRecDepth 100000 in
theorem deep_12 (pr : Bool → Nat → List UInt8) : deepChk pr 1 2 = true := by kernel_rfl
set_option maxRecDepth 100000 in
theorem deep_13 (pr : Bool → Nat → List UInt8) : deepChk pr 1 3 = true := by kernel_rfl
set_option maxRecDepth 100000 in
theorem deep_21 (pr : Bool → Nat → List UInt8) : deepChk pr 2 1 = true := by kernel_rfl
set_option maxRecDepth 100000 in
theorem deep_22 (pr : Bool → Nat → List UInt8) : deepChk pr 2 2 = true := by kernel_rfl
set_option maxRecDepth 100000 in
theorem deep_23 (pr : Bool → Nat → List UInt8) : deepChk pr 2 3 = true := by kernel_rfl
set_option maxRecDepth 100000 in
theorem deep_31 (pr : Bool → Nat → List UInt8) : deepChk pr 3 1 = true := by kernel_rfl
set_option maxRecDepth 100000 in
theorem deep_32 (pr : Bool → Nat → List UInt8) : deepChk pr 3 2 = true := by kernel_rfl
set_option maxRecDepth 100000 in
theorem deep_33 (pr : Bool → Nat → List UInt8) : deepChk pr 3 3 = true := by kernel_rfl
theorem deep_pure (pr : Bool → Nat → List UInt8) (f t n d : Nat) (hf : 1 ≤ f ∧ f ≤ 3) (ht : 1 ≤ t ∧ t ≤ 3) (hn : 1 ≤ n ∧ n ≤ 20) (hd : 1 ≤ d ∧ d ≤ 16) :
    (batchPp d 100 (pp0 pr f t) (List.replicate n (oneB f))).2 = if d < n then 4 else 3 := by
  have h : deepChk pr f t = true := by
    obtain ⟨f1, f2⟩ := hf
    obtain ⟨t1, t2⟩ := ht
    have hf : f = 1 ∨ f = 2 ∨ f = 3 := by omega
    have ht : t = 1 ∨ t = 2 ∨ t = 3 := by omega
    rcases hf with rfl | rfl | rfl <;> rcases ht with rfl | rfl | rfl
    · exact deep_11 pr
    · exact deep_12 pr
    · exact deep_13 pr
    · exact deep_21 pr
    · exact deep_22 pr
    · exact deep_23 pr
    · exact deep_31 pr
    · exact deep_32 pr
    · exact deep_33 pr
  unfold deepChk at h
  have h1 := List.all_eq_true.1 h (d - 1) (by simp; omega)
  have h2 := List.all_eq_true.1 h1 (n - 1) (by simp; omega)
  rw [show d - 1 + 1 = d by omega, show n - 1 + 1 = n by omega] at h2
  rw [eq_of_beq h2]
  by_cases h3 : d < n
  · rw [if_pos h3, if_pos (by omega)]
  · rw [if_neg h3, if_neg (by omega)]
end Go.Proofs.YtkgconbdmnmbnaaGreat
