/-
  CONTRACT of the document's own plain, for CBOR: what is written of a part that is no container, nor an end. (HeadK: the contract of its Head, wanted of the seat.)
-/
import Derived.Test.YtockeedbceopiaaG0b
/-
  CONTRACT of the document's own plain, for CBOR: what is written of a part that is no container, nor an end. (HeadK: the contract of its Head, wanted of the seat.)
-/
namespace Go.Proofs.Ytockeedbceopiaa
open Go.RowKit
open Go.Lib
/-- The document's own Head. -/
def HeadK : Prop := ∀ (n : Int) (v : Nat), v < 18446744073709551616 → ∀ w : World, Calls Try.prog 22 #[.int .i64 n, .int .u64 v] w fun e w' => e = .returned (.string ⟨(headB (n % 8).toNat v).toArray⟩) ∧ Below w.heap.size w w'
set_option maxHeartbeats 2000000 in
theorem rplain_w (hH : HeadK) (e : Ev) (hkind : 0 ≤ e.k) (h7 : e.k < 5) (hm : e.m < 18446744073709551616) (htx : e.t.size ≤ 1000) (w : World) :
    Calls Try.prog 27 #[.int .i64 2, evV e] w fun r w' => r = .returned (.tuple #[.string ⟨(writeK [] e).toArray⟩, .int .i64 0]) ∧ Below w.heap.size w w' := by
  obtain ⟨k, y, m, t, c⟩ := e
  simp only [evV] at *
  have HB := Lib.hid (fun x => (Below.refl w.heap.size w).alloc (Nat.le_refl _) x)
  have hk : k = 0 ∨ k = 1 ∨ k = 2 ∨ k = 3 ∨ k = 4 := by omega
  clear hkind h7
  have text : ∀ (k : Int) (n : Int) (j : Nat), (n % 8).toNat = j → writeK [] ⟨k, y, m, t, c⟩ = headB j t.data.toList.length ++ t.data.toList → ∃ X : ByteArray, X.size ≤ 9 ∧ (∀ W, Calls Try.prog 22 #[.int .i64 n, .int .u64 t.size] W fun e w' => e = .returned (.string X) ∧ Below W.heap.size W w') ∧ (⟨(writeK [] ⟨k, y, m, t, c⟩).toArray⟩ : ByteArray) = X ++ t := by
    intro k n j hj hw
    refine ⟨⟨(headB j t.size).toArray⟩, ?_, ?_, ?_⟩
    · rw [size_of]
      exact headB_len _ _
    · intro W
      have := hH n t.size (by omega) W
      rw [hj] at this
      exact this
    · rw [hw, size_list]
      apply ByteArray.ext
      simp
  rcases hk with rfl | rfl | rfl | rfl | rfl
  · have ho : writeK [] ⟨0, y, m, t, c⟩ = [246] := rfl
    rw [ho]
    clear ho text
    go_enter Try.func27, Try.ntmps27
    go_wp2
    go_ret2
    exact ⟨rfl, HB.out _⟩
  · cases y with
    | true =>
      have ho : writeK [] ⟨1, true, m, t, c⟩ = [245] := rfl
      rw [ho]
      clear ho text
      go_enter Try.func27, Try.ntmps27
      go_wp2
      go_ret2
      exact ⟨rfl, HB.out _⟩
    | false =>
      have ho : writeK [] ⟨1, false, m, t, c⟩ = [244] := rfl
      rw [ho]
      clear ho text
      go_enter Try.func27, Try.ntmps27
      go_wp2
      go_ret2
      exact ⟨rfl, HB.out _⟩
  · cases y with
    | true =>
      have ho : writeK [] ⟨2, true, m, t, c⟩ = headB 1 m := rfl
      rw [ho]
      have HP := Lib.hid (hH 1 m hm)
      rw [show ((1 : Int) % 8).toNat = 1 from rfl] at HP
      generalize (⟨(headB 1 m).toArray⟩ : ByteArray) = Z at *
      clear ho text
      go_enter Try.func27, Try.ntmps27
      go_wp2_with fail
      refine (HP.out _).mono ?_
      rintro r w1 ⟨rfl, hb⟩
      have HB1 := Lib.hid (up_trans (HB.out _) hb)
      clear hb
      go_wp2
      go_ret2
      exact ⟨rfl, HB1.out⟩
    | false =>
      have ho : writeK [] ⟨2, false, m, t, c⟩ = headB 0 m := rfl
      rw [ho]
      have HP := Lib.hid (hH 0 m hm)
      rw [show ((0 : Int) % 8).toNat = 0 from rfl] at HP
      generalize (⟨(headB 0 m).toArray⟩ : ByteArray) = Z at *
      clear ho text
      go_enter Try.func27, Try.ntmps27
      go_wp2_with fail
      refine (HP.out _).mono ?_
      rintro r w1 ⟨rfl, hb⟩
      have HB1 := Lib.hid (up_trans (HB.out _) hb)
      clear hb
      go_wp2
      go_ret2
      exact ⟨rfl, HB1.out⟩
  · obtain ⟨X, hXs, hP, hX⟩ := text 3 3 3 rfl rfl
    rw [hX]
    have HP := Lib.hid hP
    have hw : IntKind.u64.wrap (t.size : Int) = t.size := by simp [IntKind.wrap, IntKind.bits, IntKind.signed]; omega
    have z1 : ¬ 9223372036854775807 < X.size + t.size := by omega
    have hb0 := blk_new w #[.int .i64 3, .bool y, .int .u64 m, .string t, .int .i64 c] 35
    have HE := Lib.hid hb0
    have k3 := hb0.cell 3
    clear text hP hX hb0
    go_enter Try.func27, Try.ntmps27
    go_wp2_with fail
    go_region_with (go_at_call 22; refine (HP.out _).mono ?_; rintro r w1 ⟨rfl, hb⟩; have hb' : Below (w.alloc (.cells #[.int .i64 3, .bool y, .int .u64 m, .string t, .int .i64 c] 35)).heap.size (w.alloc (.cells #[.int .i64 3, .bool y, .int .u64 m, .string t, .int .i64 c] 35)) w1 := ⟨hb.os, hb.tape, hb.output, hb.size, hb.block⟩; have g3 := (HE.out.go hb').cell 3; have HB1 := Lib.hid (up_trans (HB.out _) hb'); clear hb hb')
    all_goals
      go_wp2
      go_ret2
      exact ⟨rfl, HB1.out⟩
  · obtain ⟨X, hXs, hP, hX⟩ := text 4 2 2 rfl rfl
    rw [hX]
    have HP := Lib.hid hP
    have hw : IntKind.u64.wrap (t.size : Int) = t.size := by simp [IntKind.wrap, IntKind.bits, IntKind.signed]; omega
    have z1 : ¬ 9223372036854775807 < X.size + t.size := by omega
    have hb0 := blk_new w #[.int .i64 4, .bool y, .int .u64 m, .string t, .int .i64 c] 35
    have HE := Lib.hid hb0
    have k3 := hb0.cell 3
    clear text hP hX hb0
    go_enter Try.func27, Try.ntmps27
    go_wp2_with fail
    go_region_with (go_at_call 22; refine (HP.out _).mono ?_; rintro r w1 ⟨rfl, hb⟩; have hb' : Below (w.alloc (.cells #[.int .i64 4, .bool y, .int .u64 m, .string t, .int .i64 c] 35)).heap.size (w.alloc (.cells #[.int .i64 4, .bool y, .int .u64 m, .string t, .int .i64 c] 35)) w1 := ⟨hb.os, hb.tape, hb.output, hb.size, hb.block⟩; have g3 := (HE.out.go hb').cell 3; have HB1 := Lib.hid (up_trans (HB.out _) hb'); clear hb hb')
    all_goals
      go_wp2
      go_ret2
      exact ⟨rfl, HB1.out⟩
theorem rplain_k (hH : HeadK) (e : Ev) (hg : GoodK e) (h7 : e.k < 5) (w : World) :
    Calls Try.prog 27 #[.int .i64 2, evV e] w fun r w' => r = .returned (.tuple #[.string ⟨(writeK [] e).toArray⟩, .int .i64 0]) ∧ Below w.heap.size w w' :=
  rplain_w hH e hg.kind.1 h7 hg.mag (by have := hg.text.1; rw [size_list] at this; omega) w
end Go.Proofs.Ytockeedbceopiaa
