/-
  CONTRACTS of package event: parts as values.
-/
import Derived.Test.YtgknpheefbfnlaaGa
/-
  CONTRACT of event.Of; type assertions.
-/
namespace Go.Proofs.Ytgknpheefbfnlaa
open Go.RowKit
open Go.Lib
theorem assert_yes (T u : TypeId) (h : (Try.prog.underlying T).map (fun x => match x with | .interface _ => false | _ => true) = some true) (v : Value) (W : World) : (Instr.typeAssert (.iface T v) u T true).run Try.prog W = .ok (.tuple #[v, .bool true]) W := by
  cases hu : Try.prog.underlying T with
  | none => simp [hu] at h
  | some x => cases x <;> simp [hu] at h <;> simp [Instr.typeAssert, run_underlying hu]
theorem assert_no (T u d : TypeId) (z : Value) (h : (Try.prog.underlying T).map (fun x => match x with | .interface _ => false | _ => true) = some true) (hd : d ≠ T) (hz : (Try.prog.info? T).map (·.zero) = some (some z)) (v : Value) (W : World) :
    (Instr.typeAssert (.iface d v) u T true).run Try.prog W = .ok (.tuple #[z, .bool false]) W := by
  obtain ⟨j, hj, hz'⟩ := Option.map_eq_some_iff.1 hz
  cases hu : Try.prog.underlying T with
  | none => simp [hu] at h
  | some x => cases x <;> simp [hu] at h <;> simp [Instr.typeAssert, run_underlying hu, hd, zeroValue, typeInfo, hj, hz']
theorem not_bool (d : TypeId) (hd : d ≠ 4) (v : Value) (W : World) : (Instr.typeAssert (.iface d v) 20 4 true).run Try.prog W = .ok (.tuple #[.bool false, .bool false]) W := assert_no _ _ d _ (by kernel_rfl) hd (by kernel_rfl) v W
theorem not_whole (d : TypeId) (hd : d ≠ 61) (v : Value) (W : World) : (Instr.typeAssert (.iface d v) 20 61 true).run Try.prog W = .ok (.tuple #[.agg #[.bool false, .int .u64 0], .bool false]) W := assert_no _ _ d _ (by kernel_rfl) hd (by kernel_rfl) v W
theorem not_word (d : TypeId) (hd : d ≠ 100) (v : Value) (W : World) : (Instr.typeAssert (.iface d v) 20 100 true).run Try.prog W = .ok (.tuple #[.string ⟨#[]⟩, .bool false]) W := assert_no _ _ d _ (by kernel_rfl) hd (by kernel_rfl) v W
theorem not_blob (d : TypeId) (hd : d ≠ 101) (v : Value) (W : World) : (Instr.typeAssert (.iface d v) 20 101 true).run Try.prog W = .ok (.tuple #[.string ⟨#[]⟩, .bool false]) W := assert_no _ _ d _ (by kernel_rfl) hd (by kernel_rfl) v W
theorem not_begin (d : TypeId) (hd : d ≠ 104) (v : Value) (W : World) : (Instr.typeAssert (.iface d v) 20 104 true).run Try.prog W = .ok (.tuple #[.agg #[.bool false, .int .i64 0], .bool false]) W := assert_no _ _ d _ (by kernel_rfl) hd (by kernel_rfl) v W
theorem not_close (d : TypeId) (hd : d ≠ 106) (v : Value) (W : World) : (Instr.typeAssert (.iface d v) 20 106 true).run Try.prog W = .ok (.tuple #[.agg #[], .bool false]) W := assert_no _ _ d _ (by kernel_rfl) hd (by kernel_rfl) v W
theorem is_bool (v : Value) (W : World) : (Instr.typeAssert (.iface 4 v) 20 4 true).run Try.prog W = .ok (.tuple #[v, .bool true]) W := assert_yes _ _ (by kernel_rfl) v W
theorem is_whole (v : Value) (W : World) : (Instr.typeAssert (.iface 61 v) 20 61 true).run Try.prog W = .ok (.tuple #[v, .bool true]) W := assert_yes _ _ (by kernel_rfl) v W
theorem is_word (v : Value) (W : World) : (Instr.typeAssert (.iface 100 v) 20 100 true).run Try.prog W = .ok (.tuple #[v, .bool true]) W := assert_yes _ _ (by kernel_rfl) v W
theorem is_blob (v : Value) (W : World) : (Instr.typeAssert (.iface 101 v) 20 101 true).run Try.prog W = .ok (.tuple #[v, .bool true]) W := assert_yes _ _ (by kernel_rfl) v W
theorem is_begin (v : Value) (W : World) : (Instr.typeAssert (.iface 104 v) 20 104 true).run Try.prog W = .ok (.tuple #[v, .bool true]) W := assert_yes _ _ (by kernel_rfl) v W
theorem is_close (v : Value) (W : World) : (Instr.typeAssert (.iface 106 v) 20 106 true).run Try.prog W = .ok (.tuple #[v, .bool true]) W := assert_yes _ _ (by kernel_rfl) v W
theorem nil_not (d : TypeId) (v : Value) (W : World) : (binOp .eql 20 (.iface d v) .nilIface).run Try.prog W = .ok (.bool false) W := by kernel_rfl
theorem nil_is (W : World) : (binOp .eql 20 .nilIface .nilIface).run Try.prog W = .ok (.bool true) W := by kernel_rfl
theorem may_count (n : Int) (w : World) : Calls Try.prog 51 #[.int .i64 n] w fun e w' => e = .returned (.bool (decide (-1 ≤ n))) ∧ w' = w := by
  go_enter Try.func51, Try.ntmps51
  go_wp2
  go_ret
  exact ⟨rfl, rfl⟩
set_option maxHeartbeats 1000000 in
theorem of_any (e : Ev) (w : World) : Calls Try.prog 40 #[evV e] w fun r w' => r = .returned (.tuple #[if mayE e then valE e else .nilIface, .bool (decide (mayE e))]) ∧ Below w.heap.size w w' := by
  obtain ⟨k, y, m, t, c⟩ := e
  have hb := Lib.hid ((Below.refl w.heap.size w).alloc (Nat.le_refl _) (.cells #[.int .i64 k, .bool y, .int .u64 m, .string t, .int .i64 c] 40))
  have q : ∀ n : Int, k ≠ n → (k == n) = false := fun n h => by simpa using h
  rcases kinds k with (rfl | rfl | rfl | rfl | rfl | rfl | rfl | rfl) | h
  all_goals simp only [evV, valE, mayE]
  case inr =>
    have q0 := q 0 (by omega)
    have q1 := q 1 (by omega)
    have q2 := q 2 (by omega)
    have q3 := q 3 (by omega)
    have q4 := q 4 (by omega)
    have q5 := q 5 (by omega)
    have q6 := q 6 (by omega)
    have q7 := q 7 (by omega)
    have hn : ¬ (0 ≤ k ∧ k ≤ 7 ∧ (k = 5 ∨ k = 6 → -1 ≤ c)) := fun hh => h ⟨hh.1, hh.2.1⟩
    have HN := Lib.hid hn
    clear h q hn
    go_enter Try.func40, Try.ntmps40
    go_wp2
    go_ret2
    first
    | exact ⟨rfl, hb.out⟩
    | exact ⟨by rw [if_neg HN.out, decide_eq_false HN.out]; rfl, hb.out⟩
  all_goals clear q
  all_goals
    go_enter Try.func40, Try.ntmps40
    go_wp2
    all_goals go_ret2
    all_goals first
    | exact ⟨rfl, hb.out⟩
    | exact ⟨by simp, hb.out⟩
    | exact ⟨by simp; omega, hb.out⟩
end Go.Proofs.Ytgknpheefbfnlaa
/-
  CONTRACTS of package event's Of, Plain, Same, Size, MustWord; of the document's own May, Tidy, Size: a part as a value, and back.
-/
namespace Go.Proofs.Ytgknpheefbfnlaa
open Go.RowKit
open Go.Lib
set_option maxHeartbeats 1000000 in
theorem plain_begin (b : Bool) (c : Int) (w : World) : Calls Try.prog 61 #[.agg #[.bool b, .int .i64 c]] w fun r w' => r = .returned (.tuple #[if -1 ≤ c then evV ⟨if b then 6 else 5, false, 0, ⟨#[]⟩, c⟩ else evV evZ, .bool (decide (-1 ≤ c))]) ∧ Below w.heap.size w w' := by
  by_cases h : -1 ≤ c
  · have h1 : (-1 ≤ c) = True := by simp [h]
    cases b
    all_goals
      go_enter Try.func61, Try.ntmps61
      go_wp2
      all_goals simp [bodyPost, results, Try.results61, go_sem, evV]
      all_goals exact ((Below.refl _ _).alloc (Nat.le_refl _) _).alloc (by simp) _
  · have h1 : (-1 ≤ c) = False := by simp; omega
    go_enter Try.func61, Try.ntmps61
    go_wp2
    all_goals simp [bodyPost, results, Try.results61, go_sem, evV, evZ]
    all_goals exact ((Below.refl _ _).alloc (Nat.le_refl _) _).alloc (by simp) _
set_option maxHeartbeats 2000000 in
theorem plain_in_begin (b : Bool) (c : Int) (w : World) : Calls Try.prog 50 #[.iface 104 (.agg #[.bool b, .int .i64 c])] w fun r w' => r = .returned (.tuple #[if -1 ≤ c then evV ⟨if b then 6 else 5, false, 0, ⟨#[]⟩, c⟩ else evV evZ, .bool (decide (-1 ≤ c))]) ∧ Below w.heap.size w w' := by
  have n0 := nil_not
  have n1 := nil_is
  have a1 := is_bool
  have a2 := is_whole
  have a3 := is_word
  have a4 := is_blob
  have a5 := is_begin
  have a6 := is_close
  have b1 := fun d h => not_bool d h
  have b2 := fun d h => not_whole d h
  have b3 := fun d h => not_word d h
  have b4 := fun d h => not_blob d h
  have b5 := fun d h => not_begin d h
  obtain ⟨X, hX⟩ : ∃ X : Ev, X = if -1 ≤ c then ⟨if b then 6 else 5, false, 0, ⟨#[]⟩, c⟩ else evZ := ⟨_, rfl⟩
  have hV : (if -1 ≤ c then evV ⟨if b then 6 else 5, false, 0, ⟨#[]⟩, c⟩ else evV evZ) = evV X := by rw [hX]; split <;> rfl
  have hP : ∀ w, Calls Try.prog 61 #[.agg #[.bool b, .int .i64 c]] w fun r w' => r = .returned (.tuple #[evV X, .bool (decide (-1 ≤ c))]) ∧ Below w.heap.size w w' := fun w => by
    have := plain_begin b c w
    rw [hV] at this
    exact this
  rw [hV]
  clear hX hV
  generalize decide (-1 ≤ c) = D at *
  obtain ⟨k, y, m, t, c'⟩ := X
  have HP := Lib.hid hP
  clear hP
  go_enter Try.func50, Try.ntmps50
  go_wp2_with fail
  refine (HP.out _).mono ?_
  rintro e w1 ⟨rfl, hb⟩
  obtain ⟨⟨z0, z1, z2, z3, z4⟩, ⟨y0, y1, y2, y3, y4⟩⟩ := ((((blk_new w _ _).alloc _).alloc _).go hb).ev
  have h1 := Lib.hid hb
  clear hb
  simp only [evV]
  go_wp2
  simp [bodyPost, results, Try.results50, go_sem, z0, z1, z2, z3, z4]
  refine ⟨rfl, up_set5 ?_ _ _ _ _ _⟩
  exact up_trans (up_alloc (up_alloc (up_alloc (Below.refl _ _) _) _) _) h1.out
set_option maxHeartbeats 2000000 in
theorem plain_in (e : Ev) (he : mayE e) (w : World) : Calls Try.prog 50 #[valE e] w fun r w' => r = .returned (.tuple #[evV (tidyE e), .bool true]) ∧ Below w.heap.size w w' := by
  have n0 := nil_not
  have n1 := nil_is
  have a1 := is_bool
  have a2 := is_whole
  have a3 := is_word
  have a4 := is_blob
  have a5 := is_begin
  have a6 := is_close
  have b1 := fun d h => not_bool d h
  have b2 := fun d h => not_whole d h
  have b3 := fun d h => not_word d h
  have b4 := fun d h => not_blob d h
  have b5 := fun d h => not_begin d h
  obtain ⟨k, y, m, t, c⟩ := e
  have hk : k = 5 ∨ k = 6 ∨ k = 0 ∨ k = 1 ∨ k = 2 ∨ k = 3 ∨ k = 4 ∨ k = 7 := by
    have h1 : 0 ≤ k := he.1
    have h2 : k ≤ 7 := he.2.1
    omega
  have hc : k = 5 ∨ k = 6 → -1 ≤ c := he.2.2
  clear he
  rcases hk with rfl | rfl | hk
  · have h := plain_in_begin false c w
    rw [if_pos (hc (by decide)), decide_eq_true (hc (by decide))] at h
    exact h
  · have h := plain_in_begin true c w
    rw [if_pos (hc (by decide)), decide_eq_true (hc (by decide))] at h
    exact h
  clear hc
  rcases hk with rfl | rfl | rfl | rfl | rfl | rfl
  all_goals simp only [valE, tidyE]
  all_goals
    go_enter Try.func50, Try.ntmps50
    go_wp2
  all_goals try simp [bodyPost, results, Try.results50, go_sem, evV]
  all_goals repeat (first | exact Below.refl _ _ | assumption | refine up_alloc ?_ _)
set_option maxHeartbeats 2000000 in
theorem plain_in_other (d : TypeId) (h1 : d ≠ 4) (h2 : d ≠ 61) (h3 : d ≠ 100) (h4 : d ≠ 101) (h5 : d ≠ 104) (h6 : d ≠ 106) (v : Value) (w : World) :
    Calls Try.prog 50 #[.iface d v] w fun r w' => r = .returned (.tuple #[evV evZ, .bool false]) ∧ Below w.heap.size w w' := by
  have n0 := nil_not
  have b1 := not_bool d h1
  have b2 := not_whole d h2
  have b3 := not_word d h3
  have b4 := not_blob d h4
  have b5 := not_begin d h5
  have b6 := not_close d h6
  clear h1 h2 h3 h4 h5 h6
  go_enter Try.func50, Try.ntmps50
  go_wp2
  all_goals try simp [bodyPost, results, Try.results50, go_sem, evV, evZ]
  all_goals repeat (first | exact Below.refl _ _ | assumption | refine up_alloc ?_ _)
/-- event.Plain, by what plainIn makes of a value. -/
theorem plain_by (v : Value) (X : Ev) (D : Bool) (hP : ∀ w, Calls Try.prog 50 #[v] w fun r w' => r = .returned (.tuple #[evV X, .bool D]) ∧ Below w.heap.size w w') (w : World) :
    Calls Try.prog 39 #[v] w fun r w' => r = .returned (.tuple #[evV X, .bool D]) ∧ Below w.heap.size w w' := by
  obtain ⟨k, y, m, t, c'⟩ := X
  have HP := Lib.hid hP
  clear hP
  go_enter Try.func39, Try.ntmps39
  go_wp2_with fail
  refine (HP.out _).mono ?_
  rintro e w1 ⟨rfl, hb⟩
  obtain ⟨⟨z0, z1, z2, z3, z4⟩, ⟨y0, y1, y2, y3, y4⟩⟩ := ((blk_new w _ _).go hb).ev
  have h1 := Lib.hid hb
  clear hb
  simp only [evV]
  go_wp2
  simp [bodyPost, results, Try.results39, go_sem, z0, z1, z2, z3, z4]
  refine ⟨rfl, up_set5 ?_ _ _ _ _ _⟩
  exact up_trans (up_alloc (Below.refl _ _) _) h1.out
theorem plain_any (e : Ev) (he : mayE e) (w : World) : Calls Try.prog 39 #[valE e] w fun r w' => r = .returned (.tuple #[evV (tidyE e), .bool true]) ∧ Below w.heap.size w w' :=
  plain_by _ _ _ (plain_in e he) w
theorem plain_other (d : TypeId) (h1 : d ≠ 4) (h2 : d ≠ 61) (h3 : d ≠ 100) (h4 : d ≠ 101) (h5 : d ≠ 104) (h6 : d ≠ 106) (v : Value) (w : World) :
    Calls Try.prog 39 #[.iface d v] w fun r w' => r = .returned (.tuple #[evV evZ, .bool false]) ∧ Below w.heap.size w w' :=
  plain_by _ _ _ (plain_in_other d h1 h2 h3 h4 h5 h6 v) w
end Go.Proofs.Ytgknpheefbfnlaa
