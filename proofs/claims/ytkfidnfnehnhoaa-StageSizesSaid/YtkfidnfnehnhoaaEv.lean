/-
  CONTRACTS of package event's Of, Plain, Same, Size, MustWord; of the document's own May, Tidy, Size: a part as a value, and back.
-/
import Derived.Test.YtkfidnfnehnhoaaEvOf
namespace Go.Proofs.Ytkfidnfnehnhoaa
open Go.RowKit
open Go.Lib
set_option maxHeartbeats 1000000 in
theorem plain_begin (b : Bool) (c : Int) (w : World) : Calls Try.prog 51 #[.agg #[.bool b, .int .i64 c]] w fun r w' => r = .returned (.tuple #[if -1 ≤ c then evV ⟨if b then 6 else 5, false, 0, ⟨#[]⟩, c⟩ else evV evZ, .bool (decide (-1 ≤ c))]) ∧ Below w.heap.size w w' := by
  by_cases h : -1 ≤ c
  · have h1 : (-1 ≤ c) = True := by simp [h]
    cases b
    all_goals
      go_enter Try.func51, Try.ntmps51
      go_wp2
      all_goals simp [bodyPost, results, Try.results51, go_sem, evV]
      all_goals exact ((Below.refl _ _).alloc (Nat.le_refl _) _).alloc (by simp) _
  · have h1 : (-1 ≤ c) = False := by simp; omega
    go_enter Try.func51, Try.ntmps51
    go_wp2
    all_goals simp [bodyPost, results, Try.results51, go_sem, evV, evZ]
    all_goals exact ((Below.refl _ _).alloc (Nat.le_refl _) _).alloc (by simp) _
set_option maxHeartbeats 2000000 in
theorem plain_in_begin (b : Bool) (c : Int) (w : World) : Calls Try.prog 42 #[.iface 50 (.agg #[.bool b, .int .i64 c])] w fun r w' => r = .returned (.tuple #[if -1 ≤ c then evV ⟨if b then 6 else 5, false, 0, ⟨#[]⟩, c⟩ else evV evZ, .bool (decide (-1 ≤ c))]) ∧ Below w.heap.size w w' := by
  have n0 := nil_not
  have n1 := nil_is
  have a1 := is_bool
  have a2 := is_whole
  have a3 := is_word
  have a4 := is_blob
  have a5 := is_begin
  have a6 := is_close
  have b1 := fun d h => not_bool d h
  have b2 := fun d h => not_whole d h
  have b3 := fun d h => not_word d h
  have b4 := fun d h => not_blob d h
  have b5 := fun d h => not_begin d h
  obtain ⟨X, hX⟩ : ∃ X : Ev, X = if -1 ≤ c then ⟨if b then 6 else 5, false, 0, ⟨#[]⟩, c⟩ else evZ := ⟨_, rfl⟩
  have hV : (if -1 ≤ c then evV ⟨if b then 6 else 5, false, 0, ⟨#[]⟩, c⟩ else evV evZ) = evV X := by rw [hX]; split <;> rfl
  have hP : ∀ w, Calls Try.prog 51 #[.agg #[.bool b, .int .i64 c]] w fun r w' => r = .returned (.tuple #[evV X, .bool (decide (-1 ≤ c))]) ∧ Below w.heap.size w w' := fun w => by
    have := plain_begin b c w
    rw [hV] at this
    exact this
  rw [hV]
  clear hX hV
  generalize decide (-1 ≤ c) = D at *
  obtain ⟨k, y, m, t, c'⟩ := X
  have HP := Lib.hid hP
  clear hP
  go_enter Try.func42, Try.ntmps42
  go_wp2_with fail
  refine (HP.out _).mono ?_
  rintro e w1 ⟨rfl, hb⟩
  obtain ⟨⟨z0, z1, z2, z3, z4⟩, ⟨y0, y1, y2, y3, y4⟩⟩ := ((((blk_new w _ _).alloc _).alloc _).go hb).ev
  have h1 := Lib.hid hb
  clear hb
  simp only [evV]
  go_wp2
  simp [bodyPost, results, Try.results42, go_sem, z0, z1, z2, z3, z4]
  refine ⟨rfl, up_set5 ?_ _ _ _ _ _⟩
  exact up_trans (up_alloc (up_alloc (up_alloc (Below.refl _ _) _) _) _) h1.out
set_option maxHeartbeats 2000000 in
theorem plain_in (e : Ev) (he : mayE e) (w : World) : Calls Try.prog 42 #[valE e] w fun r w' => r = .returned (.tuple #[evV (tidyE e), .bool true]) ∧ Below w.heap.size w w' := by
  have n0 := nil_not
  have n1 := nil_is
  have a1 := is_bool
  have a2 := is_whole
  have a3 := is_word
  have a4 := is_blob
  have a5 := is_begin
  have a6 := is_close
  have b1 := fun d h => not_bool d h
  have b2 := fun d h => not_whole d h
  have b3 := fun d h => not_word d h
  have b4 := fun d h => not_blob d h
  have b5 := fun d h => not_begin d h
  obtain ⟨k, y, m, t, c⟩ := e
  have hk : k = 5 ∨ k = 6 ∨ k = 0 ∨ k = 1 ∨ k = 2 ∨ k = 3 ∨ k = 4 ∨ k = 7 := by
    have h1 : 0 ≤ k := he.1
    have h2 : k ≤ 7 := he.2.1
    omega
  have hc : k = 5 ∨ k = 6 → -1 ≤ c := he.2.2
  clear he
  rcases hk with rfl | rfl | hk
  · have h := plain_in_begin false c w
    rw [if_pos (hc (by decide)), decide_eq_true (hc (by decide))] at h
    exact h
  · have h := plain_in_begin true c w
    rw [if_pos (hc (by decide)), decide_eq_true (hc (by decide))] at h
    exact h
  clear hc
  rcases hk with rfl | rfl | rfl | rfl | rfl | rfl
  all_goals simp only [valE, tidyE]
  all_goals
    go_enter Try.func42, Try.ntmps42
    go_wp2
  all_goals try simp [bodyPost, results, Try.results42, go_sem, evV]
  all_goals repeat (first | exact Below.refl _ _ | assumption | refine up_alloc ?_ _)
set_option maxHeartbeats 2000000 in
theorem plain_in_other (d : TypeId) (h1 : d ≠ 4) (h2 : d ≠ 59) (h3 : d ≠ 66) (h4 : d ≠ 67) (h5 : d ≠ 50) (h6 : d ≠ 52) (v : Value) (w : World) :
    Calls Try.prog 42 #[.iface d v] w fun r w' => r = .returned (.tuple #[evV evZ, .bool false]) ∧ Below w.heap.size w w' := by
  have n0 := nil_not
  have b1 := not_bool d h1
  have b2 := not_whole d h2
  have b3 := not_word d h3
  have b4 := not_blob d h4
  have b5 := not_begin d h5
  have b6 := not_close d h6
  clear h1 h2 h3 h4 h5 h6
  go_enter Try.func42, Try.ntmps42
  go_wp2
  all_goals try simp [bodyPost, results, Try.results42, go_sem, evV, evZ]
  all_goals repeat (first | exact Below.refl _ _ | assumption | refine up_alloc ?_ _)
/-- event.Plain, by what plainIn makes of a value. -/
theorem plain_by (v : Value) (X : Ev) (D : Bool) (hP : ∀ w, Calls Try.prog 42 #[v] w fun r w' => r = .returned (.tuple #[evV X, .bool D]) ∧ Below w.heap.size w w') (w : World) :
    Calls Try.prog 29 #[v] w fun r w' => r = .returned (.tuple #[evV X, .bool D]) ∧ Below w.heap.size w w' := by
  obtain ⟨k, y, m, t, c'⟩ := X
  have HP := Lib.hid hP
  clear hP
  go_enter Try.func29, Try.ntmps29
  go_wp2_with fail
  refine (HP.out _).mono ?_
  rintro e w1 ⟨rfl, hb⟩
  obtain ⟨⟨z0, z1, z2, z3, z4⟩, ⟨y0, y1, y2, y3, y4⟩⟩ := ((blk_new w _ _).go hb).ev
  have h1 := Lib.hid hb
  clear hb
  simp only [evV]
  go_wp2
  simp [bodyPost, results, Try.results29, go_sem, z0, z1, z2, z3, z4]
  refine ⟨rfl, up_set5 ?_ _ _ _ _ _⟩
  exact up_trans (up_alloc (Below.refl _ _) _) h1.out
theorem plain_any (e : Ev) (he : mayE e) (w : World) : Calls Try.prog 29 #[valE e] w fun r w' => r = .returned (.tuple #[evV (tidyE e), .bool true]) ∧ Below w.heap.size w w' :=
  plain_by _ _ _ (plain_in e he) w
theorem plain_other (d : TypeId) (h1 : d ≠ 4) (h2 : d ≠ 59) (h3 : d ≠ 66) (h4 : d ≠ 67) (h5 : d ≠ 50) (h6 : d ≠ 52) (v : Value) (w : World) :
    Calls Try.prog 29 #[.iface d v] w fun r w' => r = .returned (.tuple #[evV evZ, .bool false]) ∧ Below w.heap.size w w' :=
  plain_by _ _ _ (plain_in_other d h1 h2 h3 h4 h5 h6 v) w
end Go.Proofs.Ytkfidnfnehnhoaa
