/-
  CONTRACT of event.Of; type assertions.
-/
import Derived.Test.YtkfidnfnehnhoaaVal
namespace Go.Proofs.Ytkfidnfnehnhoaa
open Go.RowKit
open Go.Lib
theorem assert_yes (T u : TypeId) (h : (Try.prog.underlying T).map (fun x => match x with | .interface _ => false | _ => true) = some true) (v : Value) (W : World) : (Instr.typeAssert (.iface T v) u T true).run Try.prog W = .ok (.tuple #[v, .bool true]) W := by
  cases hu : Try.prog.underlying T with
  | none => simp [hu] at h
  | some x => cases x <;> simp [hu] at h <;> simp [Instr.typeAssert, run_underlying hu]
theorem assert_no (T u d : TypeId) (z : Value) (h : (Try.prog.underlying T).map (fun x => match x with | .interface _ => false | _ => true) = some true) (hd : d ≠ T) (hz : (Try.prog.info? T).map (·.zero) = some (some z)) (v : Value) (W : World) :
    (Instr.typeAssert (.iface d v) u T true).run Try.prog W = .ok (.tuple #[z, .bool false]) W := by
  obtain ⟨j, hj, hz'⟩ := Option.map_eq_some_iff.1 hz
  cases hu : Try.prog.underlying T with
  | none => simp [hu] at h
  | some x => cases x <;> simp [hu] at h <;> simp [Instr.typeAssert, run_underlying hu, hd, zeroValue, typeInfo, hj, hz']
theorem not_bool (d : TypeId) (hd : d ≠ 4) (v : Value) (W : World) : (Instr.typeAssert (.iface d v) 20 4 true).run Try.prog W = .ok (.tuple #[.bool false, .bool false]) W := assert_no _ _ d _ (by kernel_rfl) hd (by kernel_rfl) v W
theorem not_whole (d : TypeId) (hd : d ≠ 59) (v : Value) (W : World) : (Instr.typeAssert (.iface d v) 20 59 true).run Try.prog W = .ok (.tuple #[.agg #[.bool false, .int .u64 0], .bool false]) W := assert_no _ _ d _ (by kernel_rfl) hd (by kernel_rfl) v W
theorem not_word (d : TypeId) (hd : d ≠ 66) (v : Value) (W : World) : (Instr.typeAssert (.iface d v) 20 66 true).run Try.prog W = .ok (.tuple #[.string ⟨#[]⟩, .bool false]) W := assert_no _ _ d _ (by kernel_rfl) hd (by kernel_rfl) v W
theorem not_blob (d : TypeId) (hd : d ≠ 67) (v : Value) (W : World) : (Instr.typeAssert (.iface d v) 20 67 true).run Try.prog W = .ok (.tuple #[.string ⟨#[]⟩, .bool false]) W := assert_no _ _ d _ (by kernel_rfl) hd (by kernel_rfl) v W
theorem not_begin (d : TypeId) (hd : d ≠ 50) (v : Value) (W : World) : (Instr.typeAssert (.iface d v) 20 50 true).run Try.prog W = .ok (.tuple #[.agg #[.bool false, .int .i64 0], .bool false]) W := assert_no _ _ d _ (by kernel_rfl) hd (by kernel_rfl) v W
theorem not_close (d : TypeId) (hd : d ≠ 52) (v : Value) (W : World) : (Instr.typeAssert (.iface d v) 20 52 true).run Try.prog W = .ok (.tuple #[.agg #[], .bool false]) W := assert_no _ _ d _ (by kernel_rfl) hd (by kernel_rfl) v W
theorem is_bool (v : Value) (W : World) : (Instr.typeAssert (.iface 4 v) 20 4 true).run Try.prog W = .ok (.tuple #[v, .bool true]) W := assert_yes _ _ (by kernel_rfl) v W
theorem is_whole (v : Value) (W : World) : (Instr.typeAssert (.iface 59 v) 20 59 true).run Try.prog W = .ok (.tuple #[v, .bool true]) W := assert_yes _ _ (by kernel_rfl) v W
theorem is_word (v : Value) (W : World) : (Instr.typeAssert (.iface 66 v) 20 66 true).run Try.prog W = .ok (.tuple #[v, .bool true]) W := assert_yes _ _ (by kernel_rfl) v W
theorem is_blob (v : Value) (W : World) : (Instr.typeAssert (.iface 67 v) 20 67 true).run Try.prog W = .ok (.tuple #[v, .bool true]) W := assert_yes _ _ (by kernel_rfl) v W
theorem is_begin (v : Value) (W : World) : (Instr.typeAssert (.iface 50 v) 20 50 true).run Try.prog W = .ok (.tuple #[v, .bool true]) W := assert_yes _ _ (by kernel_rfl) v W
theorem is_close (v : Value) (W : World) : (Instr.typeAssert (.iface 52 v) 20 52 true).run Try.prog W = .ok (.tuple #[v, .bool true]) W := assert_yes _ _ (by kernel_rfl) v W
theorem nil_not (d : TypeId) (v : Value) (W : World) : (binOp .eql 20 (.iface d v) .nilIface).run Try.prog W = .ok (.bool false) W := by kernel_rfl
theorem nil_is (W : World) : (binOp .eql 20 .nilIface .nilIface).run Try.prog W = .ok (.bool true) W := by kernel_rfl
theorem may_count (n : Int) (w : World) : Calls Try.prog 23 #[.int .i64 n] w fun e w' => e = .returned (.bool (decide (-1 ≤ n))) ∧ w' = w := by
  go_enter Try.func23, Try.ntmps23
  go_wp2
  go_ret
  exact ⟨rfl, rfl⟩
set_option maxHeartbeats 1000000 in
theorem of_any (e : Ev) (w : World) : Calls Try.prog 12 #[evV e] w fun r w' => r = .returned (.tuple #[if mayE e then valE e else .nilIface, .bool (decide (mayE e))]) ∧ Below w.heap.size w w' := by
  obtain ⟨k, y, m, t, c⟩ := e
  have hb := Lib.hid ((Below.refl w.heap.size w).alloc (Nat.le_refl _) (.cells #[.int .i64 k, .bool y, .int .u64 m, .string t, .int .i64 c] 34))
  have q : ∀ n : Int, k ≠ n → (k == n) = false := fun n h => by simpa using h
  rcases kinds k with (rfl | rfl | rfl | rfl | rfl | rfl | rfl | rfl) | h
  all_goals simp only [evV, valE, mayE]
  case inr =>
    have q0 := q 0 (by omega)
    have q1 := q 1 (by omega)
    have q2 := q 2 (by omega)
    have q3 := q 3 (by omega)
    have q4 := q 4 (by omega)
    have q5 := q 5 (by omega)
    have q6 := q 6 (by omega)
    have q7 := q 7 (by omega)
    have hn : ¬ (0 ≤ k ∧ k ≤ 7 ∧ (k = 5 ∨ k = 6 → -1 ≤ c)) := fun hh => h ⟨hh.1, hh.2.1⟩
    have HN := Lib.hid hn
    clear h q hn
    go_enter Try.func12, Try.ntmps12
    go_wp2
    go_ret2
    first
    | exact ⟨rfl, hb.out⟩
    | exact ⟨by rw [if_neg HN.out, decide_eq_false HN.out]; rfl, hb.out⟩
  all_goals clear q
  all_goals
    go_enter Try.func12, Try.ntmps12
    go_wp2
    all_goals go_ret2
    all_goals first
    | exact ⟨rfl, hb.out⟩
    | exact ⟨by simp, hb.out⟩
    | exact ⟨by simp; omega, hb.out⟩
end Go.Proofs.Ytkfidnfnehnhoaa
