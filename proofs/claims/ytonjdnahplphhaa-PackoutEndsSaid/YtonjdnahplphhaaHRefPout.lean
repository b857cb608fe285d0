/-
  CONTRACT of the document's own plain, for MessagePack: what is written of a part that is no container, nor an end.
-/
import Derived.Test.YtonjdnahplphhaaG1a
import Derived.Test.YtonjdnahplphhaaG0c
/-
  CONTRACT of the document's own plain, for MessagePack: what is written of a part that is no container, nor an end.
-/
namespace Go.Proofs.Ytonjdnahplphhaa
open Go.RowKit
open Go.Lib
theorem lenBs_len (one two four v : Nat) : (lenBs one two four v).length ≤ 5 := by
  unfold lenBs
  split
  · simp [bigB_length]
  split <;> simp [bigB_length]
theorem pl_cat (a b : List UInt8) : (⟨(a ++ b).toArray⟩ : ByteArray) = (⟨a.toArray⟩ : ByteArray) ++ ⟨b.toArray⟩ := (ba_append a b).symm
set_option maxRecDepth 100000 in
set_option maxHeartbeats 2000000 in
theorem rplp_0 (y : Bool) (m : Nat) (t : ByteArray) (c : Int)  (w : World) :
    Calls Try.prog 28 #[.int .i64 3, evV ⟨0, y, m, t, c⟩] w fun e w' => e = .returned (.tuple #[.string ⟨[192].toArray⟩, .int .i64 0]) ∧ Below w.heap.size w w' := by
  simp only [evV]
  have HB0 := Lib.hid (fun x => (Below.refl w.heap.size w).alloc (Nat.le_refl _) x)
  go_enter Try.func28, Try.ntmps28
  go_wp2
  go_ret2
  exact ⟨rfl, HB0.out _⟩
set_option maxRecDepth 100000 in
set_option maxHeartbeats 2000000 in
theorem rplp_1t (_ : Bool) (m : Nat) (t : ByteArray) (c : Int)  (w : World) :
    Calls Try.prog 28 #[.int .i64 3, evV ⟨1, true, m, t, c⟩] w fun e w' => e = .returned (.tuple #[.string ⟨[195].toArray⟩, .int .i64 0]) ∧ Below w.heap.size w w' := by
  simp only [evV]
  have HB0 := Lib.hid (fun x => (Below.refl w.heap.size w).alloc (Nat.le_refl _) x)
  go_enter Try.func28, Try.ntmps28
  go_wp2
  go_ret2
  exact ⟨rfl, HB0.out _⟩
set_option maxRecDepth 100000 in
set_option maxHeartbeats 2000000 in
theorem rplp_1f (_ : Bool) (m : Nat) (t : ByteArray) (c : Int)  (w : World) :
    Calls Try.prog 28 #[.int .i64 3, evV ⟨1, false, m, t, c⟩] w fun e w' => e = .returned (.tuple #[.string ⟨[194].toArray⟩, .int .i64 0]) ∧ Below w.heap.size w w' := by
  simp only [evV]
  have HB0 := Lib.hid (fun x => (Below.refl w.heap.size w).alloc (Nat.le_refl _) x)
  go_enter Try.func28, Try.ntmps28
  go_wp2
  go_ret2
  exact ⟨rfl, HB0.out _⟩
set_option maxRecDepth 100000 in
set_option maxHeartbeats 2000000 in
theorem rplp_2 (y : Bool) (m : Nat) (t : ByteArray) (c : Int) (hm : m < 18446744073709551616) (w : World) :
    Calls Try.prog 28 #[.int .i64 3, evV ⟨2, y, m, t, c⟩] w fun e w' => e = .returned (if y = true ∧ 9223372036854775808 ≤ m then .tuple #[.string ⟨#[]⟩, .int .i64 7] else .tuple #[.string ⟨(intPk y m).toArray⟩, .int .i64 0]) ∧ Below w.heap.size w w' := by
  simp only [evV]
  have HB0 := Lib.hid (fun x => (Below.refl w.heap.size w).alloc (Nat.le_refl _) x)
  have HP := Lib.hid (fun W => rwhole_any m hm y t 2 c W)
  simp only [evV] at HP
  by_cases hr : y = true ∧ 9223372036854775808 ≤ m
  · simp only [if_pos hr] at HP ⊢
    clear hr
    go_enter Try.func28, Try.ntmps28
    go_wp2_with fail
    refine (HP.out _).mono ?_
    rintro r w1 ⟨rfl, hb⟩
    have HB1 := Lib.hid (up_trans (HB0.out _) hb)
    clear hb
    go_wp2
    go_ret2
    exact ⟨rfl, HB1.out⟩
  · simp only [if_neg hr] at HP ⊢
    clear hr
    generalize (⟨(intPk y m).toArray⟩ : ByteArray) = Z at *
    go_enter Try.func28, Try.ntmps28
    go_wp2_with fail
    refine (HP.out _).mono ?_
    rintro r w1 ⟨rfl, hb⟩
    have HB1 := Lib.hid (up_trans (HB0.out _) hb)
    clear hb
    go_wp2
    go_ret2
    exact ⟨rfl, HB1.out⟩
set_option maxRecDepth 100000 in
set_option maxHeartbeats 2000000 in
theorem rplp_3 (y : Bool) (m : Nat) (t : ByteArray) (c : Int) (htx : t.size ≤ 1000) (h0 : 32 ≤ t.size) (w : World) :
    Calls Try.prog 28 #[.int .i64 3, evV ⟨3, y, m, t, c⟩] w fun e w' => e = .returned (.tuple #[.string ⟨(txPk true t.size ++ t.data.toList).toArray⟩, .int .i64 0]) ∧ Below w.heap.size w w' := by
  simp only [evV]
  have HB0 := Lib.hid (fun x => (Below.refl w.heap.size w).alloc (Nat.le_refl _) x)
  have e : txPk true t.size = lenBs 217 218 219 t.size := by
    unfold txPk
    rw [if_pos rfl, if_neg (by omega)]
  have hX : (⟨(lenBs 217 218 219 t.size ++ t.data.toList).toArray⟩ : ByteArray) = ⟨(lenBs 217 218 219 t.size).toArray⟩ ++ t := by
    apply ByteArray.ext
    simp
  rw [e, hX]
  have hXs : (⟨(lenBs 217 218 219 t.size).toArray⟩ : ByteArray).size ≤ 5 := by
    rw [size_of]
    exact lenBs_len _ _ _ _
  have hP := fun W => rlen_any 217 218 219 t.size (by decide) (by decide) (by decide) (by omega) W
  generalize (⟨(lenBs 217 218 219 t.size).toArray⟩ : ByteArray) = X at *
  have HP := Lib.hid hP
  have HB := HB0
  have hw : IntKind.u64.wrap (t.size : Int) = t.size := by simp [IntKind.wrap, IntKind.bits, IntKind.signed]; omega
  have z1 : ¬ 9223372036854775807 < X.size + t.size := by omega
  have z0 : ((t.size : Int) < 32) = False := by simp only [eq_iff_iff, iff_false]; omega
  have hb0 := blk_new w #[.int .i64 3, .bool y, .int .u64 m, .string t, .int .i64 c] 35
  have HE := Lib.hid hb0
  have k3 := hb0.cell 3
  clear hP e hX hb0
  go_enter Try.func28, Try.ntmps28
  go_wp2_with fail
  go_region_with (go_at_call 27; refine (HP.out _).mono ?_; rintro r w1 ⟨rfl, hb⟩; have hb' : Below (w.alloc (.cells #[.int .i64 3, .bool y, .int .u64 m, .string t, .int .i64 c] 35)).heap.size (w.alloc (.cells #[.int .i64 3, .bool y, .int .u64 m, .string t, .int .i64 c] 35)) w1 := ⟨hb.os, hb.tape, hb.output, hb.size, hb.block⟩; have g3 := (HE.out.go hb').cell 3; have HB1 := Lib.hid (up_trans (HB.out _) hb'); clear hb hb')
  all_goals
    go_wp2
    go_ret2
    exact ⟨rfl, HB1.out⟩
set_option maxRecDepth 100000 in
set_option maxHeartbeats 2000000 in
theorem rplp_4 (y : Bool) (m : Nat) (t : ByteArray) (c : Int) (htx : t.size ≤ 1000)  (w : World) :
    Calls Try.prog 28 #[.int .i64 3, evV ⟨4, y, m, t, c⟩] w fun e w' => e = .returned (.tuple #[.string ⟨(txPk false t.size ++ t.data.toList).toArray⟩, .int .i64 0]) ∧ Below w.heap.size w w' := by
  simp only [evV]
  have HB0 := Lib.hid (fun x => (Below.refl w.heap.size w).alloc (Nat.le_refl _) x)
  have e : txPk false t.size = lenBs 196 197 198 t.size := by
    unfold txPk
    rw [if_neg (by decide)]
  have hX : (⟨(lenBs 196 197 198 t.size ++ t.data.toList).toArray⟩ : ByteArray) = ⟨(lenBs 196 197 198 t.size).toArray⟩ ++ t := by
    apply ByteArray.ext
    simp
  rw [e, hX]
  have hXs : (⟨(lenBs 196 197 198 t.size).toArray⟩ : ByteArray).size ≤ 5 := by
    rw [size_of]
    exact lenBs_len _ _ _ _
  have hP := fun W => rlen_any 196 197 198 t.size (by decide) (by decide) (by decide) (by omega) W
  generalize (⟨(lenBs 196 197 198 t.size).toArray⟩ : ByteArray) = X at *
  have HP := Lib.hid hP
  have HB := HB0
  have hw : IntKind.u64.wrap (t.size : Int) = t.size := by simp [IntKind.wrap, IntKind.bits, IntKind.signed]; omega
  have z1 : ¬ 9223372036854775807 < X.size + t.size := by omega
  have hb0 := blk_new w #[.int .i64 4, .bool y, .int .u64 m, .string t, .int .i64 c] 35
  have HE := Lib.hid hb0
  have k3 := hb0.cell 3
  clear hP e hX hb0
  go_enter Try.func28, Try.ntmps28
  go_wp2_with fail
  go_region_with (go_at_call 27; refine (HP.out _).mono ?_; rintro r w1 ⟨rfl, hb⟩; have hb' : Below (w.alloc (.cells #[.int .i64 4, .bool y, .int .u64 m, .string t, .int .i64 c] 35)).heap.size (w.alloc (.cells #[.int .i64 4, .bool y, .int .u64 m, .string t, .int .i64 c] 35)) w1 := ⟨hb.os, hb.tape, hb.output, hb.size, hb.block⟩; have g3 := (HE.out.go hb').cell 3; have HB1 := Lib.hid (up_trans (HB.out _) hb'); clear hb hb')
  all_goals
    go_wp2
    go_ret2
    exact ⟨rfl, HB1.out⟩
end Go.Proofs.Ytonjdnahplphhaa
