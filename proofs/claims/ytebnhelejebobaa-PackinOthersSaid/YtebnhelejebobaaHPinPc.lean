/-
  CONTRACTS of package packin, part F: the part that an item is: wholeOf, part.
-/
import Derived.Test.YtebnhelejebobaaG2a
/-
  CONTRACTS of package packin, part F: the part that an item is: wholeOf, part.
-/
namespace Go.Proofs.Ytebnhelejebobaa
open Go.RowKit
open Go.Lib
theorem xor_neg (m : Nat) (hm : m < 9223372036854775808) : bits BinOp.xor IntKind.i64 (-1) (-1 - (m : Int)) = (m : Int) := by
  have e1 : BitVec.ofInt 64 (-1) = BitVec.allOnes 64 := by decide
  have e2 : (BitVec.ofInt 64 (-1 - (m : Int))).toNat = 18446744073709551615 - m := by rw [BitVec.toNat_ofInt]; omega
  show IntKind.i64.wrap ((BitVec.ofInt 64 (-1) ^^^ BitVec.ofInt 64 (-1 - (m : Int))).toNat : Nat) = _
  rw [e1, BitVec.allOnes_xor, BitVec.toNat_not, e2, IntKind.wrap_i64]
  omega
def sgY (w v : Nat) : Bool := decide (256 ^ w ≤ 2 * v)
def sgM (w v : Nat) : Nat := if 256 ^ w ≤ 2 * v then 256 ^ w - 1 - v else v
theorem sgnP_eq (w v : Nat) : sgnP w v = evIntC (sgY w v) (sgM w v) := by
  unfold sgnP sgY sgM
  split
  · rename_i h; simp [h]
  · rename_i h; simp [h]
set_option maxHeartbeats 1000000 in
theorem wholeOf_1 (v : Nat) (hv : v < 256) (w : World) : Calls Try.prog 77 #[.int .u64 (v : Nat), .int .i64 8] w fun r w' => r = .returned (.agg #[.bool (sgY 1 v), .int .u64 (sgM 1 v : Nat)]) ∧ Below w.heap.size w w' := by
  by_cases h : 256 ≤ 2 * v
  · obtain ⟨m, hm⟩ : ∃ m, 256 - 1 - v = m := ⟨_, rfl⟩
    have hY : sgY 1 v = true := by unfold sgY; rw [decide_eq_true_eq]; exact h
    have hM : sgM 1 v = m := by unfold sgM; rw [if_pos (by exact h)]; exact hm
    rw [hY, hM]
    have hx : wrap64 ((v : Int) * 72057594037927936) / 72057594037927936 = -1 - (m : Int) := by unfold wrap64; omega
    have hn : (-1 - (m : Int) < 0) = True := by simp; omega
    have hxo := xor_neg m (by omega)
    have hwu : IntKind.u64.wrap (m : Int) = (m : Int) := wrapI_u64 _ (by omega) (by omega)
    have hwv : IntKind.u64.wrap ((v : Int) * 72057594037927936) = (v : Int) * 72057594037927936 := wrapI_u64 _ (by omega) (by omega)
    clear h hm hY hM
    go_enter Try.func77, Try.ntmps77
    go_wp2
    simp [bodyPost, results, Try.results77, go_sem]
    exact up_alloc (Below.refl _ _) _
  · have hY : sgY 1 v = false := by unfold sgY; rw [decide_eq_false_iff_not]; exact h
    have hM : sgM 1 v = v := by unfold sgM; rw [if_neg (by exact h)]
    rw [hY, hM]
    have hx : wrap64 ((v : Int) * 72057594037927936) / 72057594037927936 = (v : Int) := by unfold wrap64; omega
    have hn : ((v : Int) < 0) = False := by simp
    have hwu : IntKind.u64.wrap (v : Int) = (v : Int) := wrapI_u64 _ (by omega) (by omega)
    have hwv : IntKind.u64.wrap ((v : Int) * 72057594037927936) = (v : Int) * 72057594037927936 := wrapI_u64 _ (by omega) (by omega)
    clear h hY hM
    go_enter Try.func77, Try.ntmps77
    go_wp2
    simp [bodyPost, results, Try.results77, go_sem]
    exact up_alloc (Below.refl _ _) _
set_option maxHeartbeats 1000000 in
theorem wholeOf_2 (v : Nat) (hv : v < 65536) (w : World) : Calls Try.prog 77 #[.int .u64 (v : Nat), .int .i64 16] w fun r w' => r = .returned (.agg #[.bool (sgY 2 v), .int .u64 (sgM 2 v : Nat)]) ∧ Below w.heap.size w w' := by
  by_cases h : 65536 ≤ 2 * v
  · obtain ⟨m, hm⟩ : ∃ m, 65536 - 1 - v = m := ⟨_, rfl⟩
    have hY : sgY 2 v = true := by unfold sgY; rw [decide_eq_true_eq]; exact h
    have hM : sgM 2 v = m := by unfold sgM; rw [if_pos (by exact h)]; exact hm
    rw [hY, hM]
    have hx : wrap64 ((v : Int) * 281474976710656) / 281474976710656 = -1 - (m : Int) := by unfold wrap64; omega
    have hn : (-1 - (m : Int) < 0) = True := by simp; omega
    have hxo := xor_neg m (by omega)
    have hwu : IntKind.u64.wrap (m : Int) = (m : Int) := wrapI_u64 _ (by omega) (by omega)
    have hwv : IntKind.u64.wrap ((v : Int) * 281474976710656) = (v : Int) * 281474976710656 := wrapI_u64 _ (by omega) (by omega)
    clear h hm hY hM
    go_enter Try.func77, Try.ntmps77
    go_wp2
    simp [bodyPost, results, Try.results77, go_sem]
    exact up_alloc (Below.refl _ _) _
  · have hY : sgY 2 v = false := by unfold sgY; rw [decide_eq_false_iff_not]; exact h
    have hM : sgM 2 v = v := by unfold sgM; rw [if_neg (by exact h)]
    rw [hY, hM]
    have hx : wrap64 ((v : Int) * 281474976710656) / 281474976710656 = (v : Int) := by unfold wrap64; omega
    have hn : ((v : Int) < 0) = False := by simp
    have hwu : IntKind.u64.wrap (v : Int) = (v : Int) := wrapI_u64 _ (by omega) (by omega)
    have hwv : IntKind.u64.wrap ((v : Int) * 281474976710656) = (v : Int) * 281474976710656 := wrapI_u64 _ (by omega) (by omega)
    clear h hY hM
    go_enter Try.func77, Try.ntmps77
    go_wp2
    simp [bodyPost, results, Try.results77, go_sem]
    exact up_alloc (Below.refl _ _) _
set_option maxHeartbeats 1000000 in
theorem wholeOf_4 (v : Nat) (hv : v < 4294967296) (w : World) : Calls Try.prog 77 #[.int .u64 (v : Nat), .int .i64 32] w fun r w' => r = .returned (.agg #[.bool (sgY 4 v), .int .u64 (sgM 4 v : Nat)]) ∧ Below w.heap.size w w' := by
  by_cases h : 4294967296 ≤ 2 * v
  · obtain ⟨m, hm⟩ : ∃ m, 4294967296 - 1 - v = m := ⟨_, rfl⟩
    have hY : sgY 4 v = true := by unfold sgY; rw [decide_eq_true_eq]; exact h
    have hM : sgM 4 v = m := by unfold sgM; rw [if_pos (by exact h)]; exact hm
    rw [hY, hM]
    have hx : wrap64 ((v : Int) * 4294967296) / 4294967296 = -1 - (m : Int) := by unfold wrap64; omega
    have hn : (-1 - (m : Int) < 0) = True := by simp; omega
    have hxo := xor_neg m (by omega)
    have hwu : IntKind.u64.wrap (m : Int) = (m : Int) := wrapI_u64 _ (by omega) (by omega)
    have hwv : IntKind.u64.wrap ((v : Int) * 4294967296) = (v : Int) * 4294967296 := wrapI_u64 _ (by omega) (by omega)
    clear h hm hY hM
    go_enter Try.func77, Try.ntmps77
    go_wp2
    simp [bodyPost, results, Try.results77, go_sem]
    exact up_alloc (Below.refl _ _) _
  · have hY : sgY 4 v = false := by unfold sgY; rw [decide_eq_false_iff_not]; exact h
    have hM : sgM 4 v = v := by unfold sgM; rw [if_neg (by exact h)]
    rw [hY, hM]
    have hx : wrap64 ((v : Int) * 4294967296) / 4294967296 = (v : Int) := by unfold wrap64; omega
    have hn : ((v : Int) < 0) = False := by simp
    have hwu : IntKind.u64.wrap (v : Int) = (v : Int) := wrapI_u64 _ (by omega) (by omega)
    have hwv : IntKind.u64.wrap ((v : Int) * 4294967296) = (v : Int) * 4294967296 := wrapI_u64 _ (by omega) (by omega)
    clear h hY hM
    go_enter Try.func77, Try.ntmps77
    go_wp2
    simp [bodyPost, results, Try.results77, go_sem]
    exact up_alloc (Below.refl _ _) _
set_option maxHeartbeats 1000000 in
theorem wholeOf_8 (v : Nat) (hv : v < 18446744073709551616) (w : World) : Calls Try.prog 77 #[.int .u64 (v : Nat), .int .i64 64] w fun r w' => r = .returned (.agg #[.bool (sgY 8 v), .int .u64 (sgM 8 v : Nat)]) ∧ Below w.heap.size w w' := by
  by_cases h : 18446744073709551616 ≤ 2 * v
  · obtain ⟨m, hm⟩ : ∃ m, 18446744073709551616 - 1 - v = m := ⟨_, rfl⟩
    have hY : sgY 8 v = true := by unfold sgY; rw [decide_eq_true_eq]; exact h
    have hM : sgM 8 v = m := by unfold sgM; rw [if_pos (by exact h)]; exact hm
    rw [hY, hM]
    have hx : wrap64 (v : Int) = -1 - (m : Int) := by unfold wrap64; omega
    have hn : (-1 - (m : Int) < 0) = True := by simp; omega
    have hxo := xor_neg m (by omega)
    have hwu : IntKind.u64.wrap (m : Int) = (m : Int) := wrapI_u64 _ (by omega) (by omega)
    have hwv : IntKind.u64.wrap ((v : Int)) = (v : Int) := wrapI_u64 _ (by omega) (by omega)
    clear h hm hY hM
    go_enter Try.func77, Try.ntmps77
    go_wp2
    simp [bodyPost, results, Try.results77, go_sem]
    exact up_alloc (Below.refl _ _) _
  · have hY : sgY 8 v = false := by unfold sgY; rw [decide_eq_false_iff_not]; exact h
    have hM : sgM 8 v = v := by unfold sgM; rw [if_neg (by exact h)]
    rw [hY, hM]
    have hx : wrap64 (v : Int) = (v : Int) := by unfold wrap64; omega
    have hn : ((v : Int) < 0) = False := by simp
    have hwu : IntKind.u64.wrap (v : Int) = (v : Int) := wrapI_u64 _ (by omega) (by omega)
    have hwv : IntKind.u64.wrap ((v : Int)) = (v : Int) := wrapI_u64 _ (by omega) (by omega)
    clear h hY hM
    go_enter Try.func77, Try.ntmps77
    go_wp2
    simp [bodyPost, results, Try.results77, go_sem]
    exact up_alloc (Below.refl _ _) _
/-! ### The part that an item is -/
def partP (kd nm fm : Nat) : Ev := if kd = 2 then evIntC true nm else if kd = 3 then sgnP (2 ^ (fm - 24)) nm else if kd = 1 then evIntC false nm else if nm = 192 then evNull else evBoolC (decide (nm = 195))
set_option maxHeartbeats 1000000 in
theorem part_neg (nm fm : Nat) (w : World) : Calls Try.prog 67 #[.agg #[.int .i64 2, .int .u64 (nm : Nat), .int .u8 (fm : Nat)]] w fun r w' => r = .returned (valE (evIntC true nm)) ∧ Below w.heap.size w w' := by
  rw [show valE (evIntC true nm) = .iface 99 (.agg #[.bool true, .int .u64 (nm : Nat)]) from rfl]
  go_enter Try.func67, Try.ntmps67
  go_wp2
  go_ret
  exact ⟨rfl, up_alloc (Below.refl _ _) _⟩
set_option maxHeartbeats 1000000 in
theorem part_whole (nm fm : Nat) (w : World) : Calls Try.prog 67 #[.agg #[.int .i64 1, .int .u64 (nm : Nat), .int .u8 (fm : Nat)]] w fun r w' => r = .returned (valE (evIntC false nm)) ∧ Below w.heap.size w w' := by
  rw [show valE (evIntC false nm) = .iface 99 (.agg #[.bool false, .int .u64 (nm : Nat)]) from rfl]
  go_enter Try.func67, Try.ntmps67
  go_wp2
  go_ret
  exact ⟨rfl, up_alloc (Below.refl _ _) _⟩
set_option maxHeartbeats 1000000 in
theorem part_sgn1 (nm : Nat) (hn : nm < 256) (w : World) : Calls Try.prog 67 #[.agg #[.int .i64 3, .int .u64 (nm : Nat), .int .u8 24]] w fun r w' => r = .returned (valE (evIntC (sgY 1 nm) (sgM 1 nm))) ∧ Below w.heap.size w w' := by
  have HW := Lib.hid (fun W => wholeOf_1 nm hn W)
  clear hn
  rw [show valE (evIntC (sgY 1 nm) (sgM 1 nm)) = .iface 99 (.agg #[.bool (sgY 1 nm), .int .u64 (sgM 1 nm : Nat)]) from rfl]
  go_enter Try.func67, Try.ntmps67
  generalize sgY 1 nm = y at *
  generalize sgM 1 nm = g at *
  go_wp2_with fail
  refine (HW.out _).mono ?_
  rintro r w1 ⟨rfl, b1⟩
  have B1 := Lib.hid (up_trans (up_alloc (Below.refl _ _) _) b1)
  clear b1
  go_wp2
  go_ret
  exact ⟨rfl, B1.out⟩
set_option maxHeartbeats 1000000 in
theorem part_sgn2 (nm : Nat) (hn : nm < 65536) (w : World) : Calls Try.prog 67 #[.agg #[.int .i64 3, .int .u64 (nm : Nat), .int .u8 25]] w fun r w' => r = .returned (valE (evIntC (sgY 2 nm) (sgM 2 nm))) ∧ Below w.heap.size w w' := by
  have HW := Lib.hid (fun W => wholeOf_2 nm hn W)
  clear hn
  rw [show valE (evIntC (sgY 2 nm) (sgM 2 nm)) = .iface 99 (.agg #[.bool (sgY 2 nm), .int .u64 (sgM 2 nm : Nat)]) from rfl]
  go_enter Try.func67, Try.ntmps67
  generalize sgY 2 nm = y at *
  generalize sgM 2 nm = g at *
  go_wp2_with fail
  refine (HW.out _).mono ?_
  rintro r w1 ⟨rfl, b1⟩
  have B1 := Lib.hid (up_trans (up_alloc (Below.refl _ _) _) b1)
  clear b1
  go_wp2
  go_ret
  exact ⟨rfl, B1.out⟩
set_option maxHeartbeats 1000000 in
theorem part_sgn4 (nm : Nat) (hn : nm < 4294967296) (w : World) : Calls Try.prog 67 #[.agg #[.int .i64 3, .int .u64 (nm : Nat), .int .u8 26]] w fun r w' => r = .returned (valE (evIntC (sgY 4 nm) (sgM 4 nm))) ∧ Below w.heap.size w w' := by
  have HW := Lib.hid (fun W => wholeOf_4 nm hn W)
  clear hn
  rw [show valE (evIntC (sgY 4 nm) (sgM 4 nm)) = .iface 99 (.agg #[.bool (sgY 4 nm), .int .u64 (sgM 4 nm : Nat)]) from rfl]
  go_enter Try.func67, Try.ntmps67
  generalize sgY 4 nm = y at *
  generalize sgM 4 nm = g at *
  go_wp2_with fail
  refine (HW.out _).mono ?_
  rintro r w1 ⟨rfl, b1⟩
  have B1 := Lib.hid (up_trans (up_alloc (Below.refl _ _) _) b1)
  clear b1
  go_wp2
  go_ret
  exact ⟨rfl, B1.out⟩
set_option maxHeartbeats 1000000 in
theorem part_sgn8 (nm : Nat) (hn : nm < 18446744073709551616) (w : World) : Calls Try.prog 67 #[.agg #[.int .i64 3, .int .u64 (nm : Nat), .int .u8 27]] w fun r w' => r = .returned (valE (evIntC (sgY 8 nm) (sgM 8 nm))) ∧ Below w.heap.size w w' := by
  have HW := Lib.hid (fun W => wholeOf_8 nm hn W)
  clear hn
  rw [show valE (evIntC (sgY 8 nm) (sgM 8 nm)) = .iface 99 (.agg #[.bool (sgY 8 nm), .int .u64 (sgM 8 nm : Nat)]) from rfl]
  go_enter Try.func67, Try.ntmps67
  generalize sgY 8 nm = y at *
  generalize sgM 8 nm = g at *
  go_wp2_with fail
  refine (HW.out _).mono ?_
  rintro r w1 ⟨rfl, b1⟩
  have B1 := Lib.hid (up_trans (up_alloc (Below.refl _ _) _) b1)
  clear b1
  go_wp2
  go_ret
  exact ⟨rfl, B1.out⟩
set_option maxHeartbeats 1000000 in
theorem part_null (fm : Nat) (w : World) : Calls Try.prog 67 #[.agg #[.int .i64 4, .int .u64 192, .int .u8 (fm : Nat)]] w fun r w' => r = .returned (valE evNull) ∧ Below w.heap.size w w' := by
  rw [show valE evNull = .nilIface from rfl]
  go_enter Try.func67, Try.ntmps67
  go_wp2
  go_ret
  exact ⟨rfl, up_alloc (Below.refl _ _) _⟩
set_option maxHeartbeats 1000000 in
theorem part_bool (nm fm : Nat) (hn : nm ≠ 192) (w : World) : Calls Try.prog 67 #[.agg #[.int .i64 4, .int .u64 (nm : Nat), .int .u8 (fm : Nat)]] w fun r w' => r = .returned (valE (evBoolC (decide (nm = 195)))) ∧ Below w.heap.size w w' := by
  have z1 : ((nm : Int) == 192) = false := by rw [beq_eq_false_iff_ne]; omega
  have z2 : ((nm : Int) == 195) = decide (nm = 195) := by rw [Bool.eq_iff_iff, beq_iff_eq, decide_eq_true_eq]; omega
  generalize decide (nm = 195) = B at *
  rw [show valE (evBoolC B) = .iface 4 (.bool B) from rfl]
  clear hn
  go_enter Try.func67, Try.ntmps67
  go_wp2
  go_ret
  exact ⟨rfl, up_alloc (Below.refl _ _) _⟩
/-- PART. -/
theorem part_any (kd nm fm : Nat) (hk : kd = 1 ∨ kd = 2 ∨ kd = 3 ∨ kd = 4) (hf : kd = 3 → 24 ≤ fm ∧ fm ≤ 27 ∧ nm < 256 ^ (2 ^ (fm - 24))) (w : World) :
    Calls Try.prog 67 #[.agg #[.int .i64 (kd : Nat), .int .u64 (nm : Nat), .int .u8 (fm : Nat)]] w fun r w' => r = .returned (valE (partP kd nm fm)) ∧ Below w.heap.size w w' := by
  rcases hk with rfl | rfl | rfl | rfl
  · exact part_whole nm fm w
  · exact part_neg nm fm w
  · obtain ⟨h1, h2, h3⟩ := hf rfl
    have hc : fm = 24 ∨ fm = 25 ∨ fm = 26 ∨ fm = 27 := by omega
    rw [show partP 3 nm fm = sgnP (2 ^ (fm - 24)) nm from rfl, sgnP_eq]
    rcases hc with rfl | rfl | rfl | rfl
    · exact part_sgn1 nm h3 w
    · exact part_sgn2 nm h3 w
    · exact part_sgn4 nm h3 w
    · exact part_sgn8 nm h3 w
  · by_cases h : nm = 192
    · subst h
      exact part_null fm w
    · rw [show partP 4 nm fm = if nm = 192 then evNull else evBoolC (decide (nm = 195)) from rfl, if_neg h]
      exact part_bool nm fm h w
end Go.Proofs.Ytebnhelejebobaa
