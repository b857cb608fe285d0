/-
  CONTRACTS of the book's documents out of numbers: every item, to the depth asked.
-/
import Derived.Test.YtkfidnfnehnhoaaDocG
namespace Go.Proofs.Ytkfidnfnehnhoaa
open Go.RowKit
open Go.Lib
theorem plain_ok {D n cp at_ m bl bd bo ba bn bi : Nat} (d : Nat) {A : Option Addr} {L : Nat → Int} {W w : World} {v : Value} {out : List Ev} (h : DS W A n cp L D bl bd bo ba bn bi w v m out at_) (h1 : at_ ≤ 900000000) (h2 : n ≤ 900000000) (h3 : m ≤ 900000000) (hx : nxD n L at_ % 8 ≤ 4) :
    Calls Try.prog 32 #[.int .i64 ((d : Nat) : Int), .pointer (some ⟨bn, 0, none⟩), .pointer (some ⟨bo, 0, none⟩), .pointer (some ⟨bd, 0, none⟩), .pointer (some ⟨bi, 0, none⟩)] w fun r w' => ∃ v', r = .returned (.tuple #[]) ∧ DS W A n cp L D bl bd bo ba bn bi w' v' (m + 1) (out ++ [plainD (nxD n L at_)]) (at_ + 1) := by
  by_cases k0 : nxD n L at_ % 8 = 0
  · exact plain0 d h h1 h2 h3 k0
  by_cases k1 : nxD n L at_ % 8 = 1
  · exact plain1 d h h1 h2 h3 k1
  by_cases k2 : nxD n L at_ % 8 = 2
  · exact plain2 d h h1 h2 h3 k2
  by_cases k3 : nxD n L at_ % 8 = 3
  · exact plain3 d h h1 h2 h3 k3
  exact plain4 d h h1 h2 h3 (by omega)
theorem cap_pos (f : Nat) : 1 ≤ capD f := by
  cases f
  · exact Nat.le_refl _
  · simp only [capD]; omega
/-- Every item tells its parts. -/
theorem item_any {D n cp bl bd bo ba bn bi : Nat} {A : Option Addr} {L : Nat → Int} {W : World} (h2 : n ≤ 900000000) (hD : D ≤ 1000) : ∀ f d, d + f = D → ItemOk W A n cp L D bl bd bo ba bn bi d f
  | 0, d, hd => by
    intro m a w v out h ha hm
    simp only [capD] at ha hm
    simp only [itemD]
    by_cases k : nxD n L a % 8 ≤ 4
    · rw [if_pos k]
      exact plain_ok d h (by omega) h2 (by omega) k
    · rw [if_neg k]
      by_cases k5 : nxD n L a % 8 = 5
      · exact low5 d h (by omega) h2 (by omega) k5 (by omega)
      by_cases k6 : nxD n L a % 8 = 6
      · exact low6 d h (by omega) h2 (by omega) k6 (by omega)
      exact low7 d h (by omega) h2 (by omega) (by omega) (by omega)
  | f + 1, d, hd => by
    intro m a w v out h ha hm
    have hp := cap_pos (f + 1)
    by_cases k : nxD n L a % 8 ≤ 4
    · simp only [itemD]
      rw [if_pos k]
      exact plain_ok d h (by omega) h2 (by omega) k
    · have ih := item_any (W := W) (A := A) (cp := cp) (L := L) (bl := bl) (bd := bd) (bo := bo) (ba := ba) (bn := bn) (bi := bi) h2 hD f (d + 1) (by omega)
      by_cases k5 : nxD n L a % 8 = 5
      · exact item_arr h ha h2 hm k5 hd hD ih
      · exact item_map h ha h2 hm (by omega) hd hD ih
end Go.Proofs.Ytkfidnfnehnhoaa
