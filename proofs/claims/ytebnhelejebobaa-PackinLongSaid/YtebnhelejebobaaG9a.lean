/-
  What PackinLong wants (chapter 15).
-/
import Derived.Test.YtebnhelejebobaaG0c
import Derived.Test.YtebnhelejebobaaHHeadRh
import Derived.Test.YtebnhelejebobaaHUtfRef
import Derived.Test.YtebnhelejebobaaG1a
import Derived.Test.YtebnhelejebobaaG0b
/-
  What PackinLong wants (chapter 15): texts, bytes, lists told in longer forms, as the law joins them.
-/
namespace Go.Proofs.Ytebnhelejebobaa
open Go.RowKit
open Go.Lib
theorem long_join (f : Nat) (b : List UInt8) (s : ByteArray) : (⟨(UInt8.ofNat f :: b ++ s.data.toList).toArray⟩ : ByteArray) = (⟨#[UInt8.ofNat f]⟩ : ByteArray) ++ ⟨b.toArray⟩ ++ s := by
  apply ByteArray.ext
  simp
theorem long_tx (m : Bool) (f : Nat) (s : ByteArray) (hf : f < 3) (hs : s.size ≤ 100) (hv : validD s.data.toList = true) :
    allPm 1 (UInt8.ofNat ((if m = true then 217 else 196) + f) :: bigB (2 ^ f) s.size ++ s.data.toList) = ([⟨if m = true then 3 else 4, false, 0, s, 0⟩], 0) := by
  have hl : s.data.toList.length = s.size := Array.length_toList
  have := longP_text m f s.data.toList hf (by omega) (fun _ => hv)
  rw [hl] at this
  rw [this]
  simp [evTxC]
theorem mod3_ref (a : Int) : (wrap64 (a.tmod 3 + 3)).tmod 3 = ((a % 3).toNat : Int) := by
  have h1 := Int.tmod_lt_of_pos a (show (0 : Int) < 3 by omega)
  have h2 : -(3 : Int) < a.tmod 3 := Int.lt_tmod_of_pos a (show (0 : Int) < 3 by omega)
  have h0 : a.tmod 3 = a % 3 ∨ a.tmod 3 = a % 3 - 3 := by
    rw [Int.tmod_eq_emod]
    split
    · exact .inl (by omega)
    · exact .inr rfl
  have hw : wrap64 (a.tmod 3 + 3) = a.tmod 3 + 3 := by unfold wrap64; omega
  rw [hw, Int.tmod_eq_emod_of_nonneg (by omega)]
  omega
/-- A list's bytes behind j of its items. -/
def lonL (B m n j : Nat) : ByteArray := ⟨(UInt8.ofNat B :: bigB m n ++ List.replicate j 192).toArray⟩
theorem lonL_all (B m n : Nat) : (⟨(UInt8.ofNat B :: bigB m n ++ List.replicate n 192).toArray⟩ : ByteArray) = lonL B m n n := rfl
theorem lonL_0 (B m n : Nat) : (⟨#[UInt8.ofNat B]⟩ : ByteArray) ++ ⟨(bigB m n).toArray⟩ = lonL B m n 0 := by
  unfold lonL
  rw [← num_join]
  simp
theorem lonL_more (B m n j : Nat) : lonL B m n j ++ ⟨#[192]⟩ = lonL B m n (j + 1) := by
  unfold lonL
  rw [List.replicate_succ', ← List.append_assoc]
  exact cat_of _ [192]
theorem lonL_size (B m n j : Nat) : (lonL B m n j).size = 1 + m + j := by
  unfold lonL
  rw [size_of]
  simp [bigB_length]
  omega
/-- The first part of a list, at an end behind it. -/
theorem lonFirst {w w3 : World} {u : Value} {k : Nat} {e : Ev} {L : List Ev} (hM : Win w 39 5 u (k + 1) (evsC (e :: L))) (hB : Below w.heap.size w w3) : ∃ g off cap, u = .slice (some ⟨g, off, none⟩) (k + 1) cap ∧
    w3.cell? ⟨g, off, none⟩ = some (.int .i64 e.k) ∧ w3.cell? ⟨g, off + 1, none⟩ = some (.bool e.y) ∧ w3.cell? ⟨g, off + 2, none⟩ = some (.int .u64 e.m) ∧ w3.cell? ⟨g, off + 3, none⟩ = some (.string e.t) ∧ w3.cell? ⟨g, off + 4, none⟩ = some (.int .i64 e.c) := by
  have h2 := hM.keep fun k hk => hB.block k (hM.lt k hk)
  obtain ⟨g, off, cap, h, hl, _, _, _, hc⟩ := h2.form (by omega)
  have e1 : evsC (e :: L) = evsC [e] ++ evsC L := evsC_append [e] L
  have e2 : evsC [e] = [.int .i64 e.k, .bool e.y, .int .u64 e.m, .string e.t, .int .i64 e.c] := by simp [evs_one, evCells]
  rw [e1, e2] at hc
  exact ⟨g, off, cap, h, (hc 0 _ rfl).1, (hc 1 _ rfl).1, (hc 2 _ rfl).1, (hc 3 _ rfl).1, (hc 4 _ rfl).1⟩
end Go.Proofs.Ytebnhelejebobaa
