/-
  The document's own Writer for CBOR: a text of up to a thousand bytes.
-/
import Derived.Test.YtgknpheefbfnlaaRm
import Derived.Test.YtgknpheefbfnlaaRa
import Derived.Test.YtgknpheefbfnlaaGa
/-
  CONTRACT of the document's own plain and Writer, for CBOR: a text, or bytes, of up to a thousand bytes.
-/
namespace Go.Proofs.Ytgknpheefbfnlaa
open Go.RowKit
open Go.Lib
set_option maxHeartbeats 2000000 in
theorem rplain_t (hH : HeadK) (e : Ev) (hk : e.k = 3 ∨ e.k = 4) (htx : e.t.size ≤ 1000) (w : World) :
    Calls Try.prog 35 #[.int .i64 2, evV e] w fun r w' => r = .returned (.tuple #[.string ⟨(writeK [] e).toArray⟩, .int .i64 0]) ∧ Below w.heap.size w w' := by
  obtain ⟨k, y, m, t, c⟩ := e
  simp only [evV] at *
  have HB := Lib.hid (fun x => (Below.refl w.heap.size w).alloc (Nat.le_refl _) x)
  have text : ∀ (k : Int) (n : Int) (j : Nat), (n % 8).toNat = j → writeK [] ⟨k, y, m, t, c⟩ = headB j t.data.toList.length ++ t.data.toList → ∃ X : ByteArray, X.size ≤ 9 ∧ (∀ W, Calls Try.prog 24 #[.int .i64 n, .int .u64 t.size] W fun e w' => e = .returned (.string X) ∧ Below W.heap.size W w') ∧ (⟨(writeK [] ⟨k, y, m, t, c⟩).toArray⟩ : ByteArray) = X ++ t := by
    intro k n j hj hw
    refine ⟨⟨(headB j t.size).toArray⟩, ?_, ?_, ?_⟩
    · rw [size_of]
      exact headB_len _ _
    · intro W
      have := hH n t.size (by omega) W
      rw [hj] at this
      exact this
    · rw [hw, size_list]
      apply ByteArray.ext
      simp
  rcases hk with rfl | rfl
  · obtain ⟨X, hXs, hP, hX⟩ := text 3 3 3 rfl rfl
    rw [hX]
    have HP := Lib.hid hP
    have hw : IntKind.u64.wrap (t.size : Int) = t.size := by simp [IntKind.wrap, IntKind.bits, IntKind.signed]; omega
    have z1 : ¬ 9223372036854775807 < X.size + t.size := by omega
    have hb0 := blk_new w #[.int .i64 3, .bool y, .int .u64 m, .string t, .int .i64 c] 40
    have HE := Lib.hid hb0
    have k3 := hb0.cell 3
    clear text hP hX hb0
    go_enter Try.func35, Try.ntmps35
    go_wp2_with fail
    go_region_with (go_at_call 24; refine (HP.out _).mono ?_; rintro r w1 ⟨rfl, hb⟩; have hb' : Below (w.alloc (.cells #[.int .i64 3, .bool y, .int .u64 m, .string t, .int .i64 c] 40)).heap.size (w.alloc (.cells #[.int .i64 3, .bool y, .int .u64 m, .string t, .int .i64 c] 40)) w1 := ⟨hb.os, hb.tape, hb.output, hb.size, hb.block⟩; have g3 := (HE.out.go hb').cell 3; have HB1 := Lib.hid (up_trans (HB.out _) hb'); clear hb hb')
    all_goals
      go_wp2
      go_ret2
      exact ⟨rfl, HB1.out⟩
  · obtain ⟨X, hXs, hP, hX⟩ := text 4 2 2 rfl rfl
    rw [hX]
    have HP := Lib.hid hP
    have hw : IntKind.u64.wrap (t.size : Int) = t.size := by simp [IntKind.wrap, IntKind.bits, IntKind.signed]; omega
    have z1 : ¬ 9223372036854775807 < X.size + t.size := by omega
    have hb0 := blk_new w #[.int .i64 4, .bool y, .int .u64 m, .string t, .int .i64 c] 40
    have HE := Lib.hid hb0
    have k3 := hb0.cell 3
    clear text hP hX hb0
    go_enter Try.func35, Try.ntmps35
    go_wp2_with fail
    go_region_with (go_at_call 24; refine (HP.out _).mono ?_; rintro r w1 ⟨rfl, hb⟩; have hb' : Below (w.alloc (.cells #[.int .i64 4, .bool y, .int .u64 m, .string t, .int .i64 c] 40)).heap.size (w.alloc (.cells #[.int .i64 4, .bool y, .int .u64 m, .string t, .int .i64 c] 40)) w1 := ⟨hb.os, hb.tape, hb.output, hb.size, hb.block⟩; have g3 := (HE.out.go hb').cell 3; have HB1 := Lib.hid (up_trans (HB.out _) hb'); clear hb hb')
    all_goals
      go_wp2
      go_ret2
      exact ⟨rfl, HB1.out⟩
/-- A Writer that is new. -/
theorem wk_fresh (w : World) : WkAt 0 w.heap.size (w.alloc (.cells #[.int .i64 2, .slice none 0 0, .bool false] 35)) w.heap.size [] false :=
  ⟨⟨none, 0, at_block (heap_alloc_new w _), ⟨Win.nil_ _ _ _, fun k hk => by simp [Value.owner] at hk, fun b hb => by simp at hb, by simp, by omega⟩⟩, ⟨_, heap_alloc_new w _⟩, by show w.heap.size ≤ (w.heap.push _).size; simp⟩
/-- A new Writer's Step of a text, or of bytes: its head, and they. -/
theorem wtext_any (hH : HeadK) (m : Bool) (l : List UInt8) (hl : l.length ≤ 1000) (w : World) :
    Calls Try.prog 18 #[.pointer (some ⟨w.heap.size, 0, none⟩), evV (evTxC m l)] (w.alloc (.cells #[.int .i64 2, .slice none 0 0, .bool false] 35)) fun q w' =>
      q = .returned (.tuple #[.string ⟨(headB (if m = true then 3 else 2) l.length ++ l).toArray⟩, .int .i64 0]) ∧ Below w.heap.size w w' := by
  have hk : (evTxC m l).k = 3 ∨ (evTxC m l).k = 4 := by cases m <;> simp [evTxC]
  have hw : writeK [] (evTxC m l) = headB (if m = true then 3 else 2) l.length ++ l := by cases m <;> simp [writeK, evTxC]
  have hp := fun W => rplain_t hH (evTxC m l) hk (by simp only [evTxC]; rw [size_of]; exact hl) W
  rw [hw] at hp
  have hsz : (⟨(headB (if m = true then 3 else 2) l.length ++ l).toArray⟩ : ByteArray).size ≤ 100000 := by
    rw [size_of, List.length_append]
    have := headB_len (if m = true then 3 else 2) l.length
    omega
  refine (wk_val0 (wk_fresh w) (evTxC m l) (by omega) _ hsz hp).mono ?_
  rintro r w' ⟨rfl, hA, hB⟩
  exact ⟨rfl, (up_alloc (Below.refl _ _) _).trans (hB.below (Nat.le_refl _) (Nat.le_refl _))⟩
end Go.Proofs.Ytgknpheefbfnlaa
