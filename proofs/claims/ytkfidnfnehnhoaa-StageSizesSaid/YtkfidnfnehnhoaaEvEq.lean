/-
  TWO PLAIN PARTS held against each other, by == and !=.
-/
import Derived.Test.YtkfidnfnehnhoaaVal
import Derived.Test.YtkfidnfnehnhoaaBlk
import Derived.Defers
import Derived.Recover
namespace Go.Proofs.Ytkfidnfnehnhoaa
open Go.RowKit
open Go.Lib
/-- Two plain parts, cell by cell. -/
def sameE (X Y : Ev) : Bool := (X.k == Y.k) && (X.y == Y.y) && (X.m == Y.m) && (X.t.toList == Y.t.toList) && (X.c == Y.c)
theorem bytes_eq {a b : ByteArray} (h : a.toList = b.toList) : a = b := by
  apply ByteArray.ext
  simp only [ByteArray.toList_eq] at h
  exact Array.ext' h
theorem sameE_iff (X Y : Ev) : sameE X Y = true ↔ X = Y := by
  obtain ⟨k, y, m, t, c⟩ := X
  obtain ⟨k', y', m', t', c'⟩ := Y
  simp only [sameE, Bool.and_eq_true, beq_iff_eq, Ev.mk.injEq]
  constructor
  · rintro ⟨⟨⟨⟨h1, h2⟩, h3⟩, h4⟩, h5⟩
    exact ⟨h1, h2, h3, bytes_eq h4, h5⟩
  · rintro ⟨h1, h2, h3, h4, h5⟩
    exact ⟨⟨⟨⟨h1, h2⟩, h3⟩, by rw [h4]⟩, h5⟩
theorem sameE_refl (X : Ev) : sameE X X = true := (sameE_iff X X).2 rfl
theorem sameE_comm (X Y : Ev) : sameE X Y = sameE Y X := by
  rw [Bool.eq_iff_iff, sameE_iff, sameE_iff]
  exact eq_comm
theorem sameE_ne {X Y : Ev} (h : X ≠ Y) : sameE X Y = false := by
  cases hs : sameE X Y with
  | false => rfl
  | true => exact absurd ((sameE_iff X Y).1 hs) h
theorem natb (a b : Nat) : (((a : Int)) == (b : Int)) = (a == b) := by
  rw [Bool.eq_iff_iff, beq_iff_eq, beq_iff_eq]
  omega
theorem ev_eql (X Y : Ev) (W : World) : (binOp .eql 34 (evV X) (evV Y)).run Try.prog W = .ok (.bool (sameE X Y)) W := by
  have hp : Try.prog.stoodInHeld 34 = false := by kernel_rfl
  have hs : Try.prog.underlying 34 = some (.struct (Try.prog.fieldsOf 34)) := by kernel_rfl
  simp only [run_eql_struct, evV]
  rw [run_equalIn_agg _ _ _ _ _ hs hp]
  simp [go_sem]
  have h3' : ((X.m : Int) = (Y.m : Int)) ↔ X.m = Y.m := by omega
  simp only [h3']
  by_cases h1 : X.k = Y.k <;> by_cases h2 : X.y = Y.y <;> by_cases h3 : X.m = Y.m <;> by_cases h4 : X.t.toList = Y.t.toList <;> by_cases h5 : X.c = Y.c <;> simp [sameE, h1, h2, h3, h4, h5]
theorem ev_neq (X Y : Ev) (W : World) : (binOp .neq 34 (evV X) (evV Y)).run Try.prog W = .ok (.bool (!sameE X Y)) W := by
  have hp : Try.prog.stoodInHeld 34 = false := by kernel_rfl
  have hs : Try.prog.underlying 34 = some (.struct (Try.prog.fieldsOf 34)) := by kernel_rfl
  simp only [run_neq_struct, evV]
  rw [run_equalIn_agg _ _ _ _ _ hs hp]
  simp [go_sem]
  have h3' : ((X.m : Int) = (Y.m : Int)) ↔ X.m = Y.m := by omega
  simp only [h3']
  by_cases h1 : X.k = Y.k <;> by_cases h2 : X.y = Y.y <;> by_cases h3 : X.m = Y.m <;> by_cases h4 : X.t.toList = Y.t.toList <;> by_cases h5 : X.c = Y.c <;> simp [sameE, h1, h2, h3, h4, h5]
end Go.Proofs.Ytkfidnfnehnhoaa
