/-
  CONTRACT of the document's own Writer, for JSON: a value.
-/
import Derived.Test.YtonjdnahplphhaaG0c
import Derived.Deep.RegionWith
import Derived.Deep.QuietTactic
/-
  CONTRACT of the document's own Writer, for JSON: a value.
-/
namespace Go.Proofs.Ytonjdnahplphhaa
open Go.RowKit
open Go.Lib
set_option maxRecDepth 100000 in
set_option maxHeartbeats 4000000 in
theorem wr_val0 {M B b : Nat} {w : World} (h : WrAt M B w b [] false) (e : Ev) (hk : e.k = 0 ∨ e.k = 1 ∨ e.k = 2 ∨ e.k = 3 ∨ e.k = 4) (X : ByteArray) (hX : X.size ≤ 100000)
    (hP : ∀ W, Calls Try.prog 28 #[.int .i64 1, evV e] W fun r w' => r = .returned (.tuple #[.string X, .int .i64 0]) ∧ Below W.heap.size W w') :
    Calls Try.prog 13 #[.pointer (some ⟨b, 0, none⟩), evV e] w fun q w' => q = .returned (.tuple #[.string X, .int .i64 0]) ∧ WrAt M B w' b [] true ∧ Bew B b w w' := by
  obtain ⟨a, cp, hA, hS⟩ := h.cells
  have hBw : B ≤ w.heap.size := h.low
  have HM : Hid (∀ X, Calls Try.prog 16 #[evV e] (w.alloc X) fun r w' => r = .returned (.bool true) ∧ Below (w.alloc X).heap.size (w.alloc X) w') := Lib.hid fun X => by
    have := may_any e (w.alloc X)
    rwa [decide_eq_true (show mayE e from ⟨by omega, by omega, by omega⟩)] at this
  have HP := Lib.hid hP
  obtain ⟨k, y, m, t, c⟩ := e
  simp only [evV] at HM HP hk ⊢
  have n7 : (k == 7) = false := by rw [beq_eq_false_iff_ne]; omega
  have n5 : (k == 5) = false := by rw [beq_eq_false_iff_ne]; omega
  have n6 : (k == 6) = false := by rw [beq_eq_false_iff_ne]; omega
  have HH := Lib.hid h
  have HS := Lib.hid hS
  have HA := Lib.hid hA
  have hA0 := (hA.alloc (by simp) (.cells #[.int .i64 k, .bool y, .int .u64 m, .string t, .int .i64 c] 35))
  obtain ⟨⟨k0, _⟩, ⟨k1, _⟩, ⟨k2, _⟩⟩ := at_three hA0
  simp only [List.length_nil] at k1 HA HS
  clear h hA hS hA0 hP hk
  go_enter Try.func13, Try.ntmps13
  go_wp2_with fail
  refine (HM.out _).mono ?_
  rintro e w1 ⟨rfl, hb1⟩
  have E1 := Lib.hid ((blk_new w _ _).go hb1)
  obtain ⟨⟨e0, e1, e2, e3, e4⟩, ef⟩ := E1.out.ev
  have hbw1 := up_trans (up_alloc (Below.refl w.heap.size w) (.cells #[.int .i64 k, .bool y, .int .u64 m, .string t, .int .i64 c] 35)) hb1
  have A1 := Lib.hid (HA.out.keep (hbw1.block b HH.out.lt))
  have HB1 := Lib.hid hbw1
  clear hb1 ef k0 k1 k2 hbw1
  obtain ⟨⟨k0, q0⟩, ⟨k1, q1⟩, ⟨k2, q2⟩⟩ := at_three A1.out
  go_wp2
  go_region_with (go_at_call 28; refine (HP.out _).mono ?_; rintro r w2 ⟨rfl, hb2⟩)
  all_goals
    have hW1 := HH.out.go HB1.out
    have hb2' : Below w1.heap.size w1 w2 := ⟨hb2.os, hb2.tape, hb2.output, hb2.size, hb2.block⟩
    have A2 := A1.out.keep (hb2'.block b hW1.lt)
    have HW2 := Lib.hid (hW1.go hb2')
    have HBB := Lib.hid (up_trans HB1.out hb2')
    have HA2 := Lib.hid A2
    obtain ⟨⟨p0, r0⟩, ⟨p1, r1⟩, ⟨p2, r2⟩⟩ := at_three A2
    have hcat : (⟨#[]⟩ : ByteArray) ++ X = X := by apply ByteArray.ext; simp
    have HC := Lib.hid hcat
    have hE2 : w2.cell? ⟨w.heap.size, 0, none⟩ = some (.int .i64 k) := (World.cell?_of_block (w := w1) (a := ⟨w.heap.size, 0, none⟩) (hb2'.block _ E1.out.lt)).trans e0
    have hne : w.heap.size ≠ b := by have := HH.out.lt; omega
    have hE3 : (w2.setCell ⟨b, 2, none⟩ (.bool true)).cell? ⟨w.heap.size, 0, none⟩ = some (.int .i64 k) := by
      rw [World.cell?_setCell_other _ _ _ _ (fun e => hne (congrArg Addr.block e).symm)]
      exact hE2
    clear A2 hb2 hb2' hW1 hcat e0 e1 e2 e3 e4 k0 k1 k2 q0 q1 q2 hE2
    go_wp2
    go_ret2
    refine ⟨by rw [HC.out]; rfl, (HW2.out.fin true).1, ?_⟩
    exact (HBB.out.mono hBw).bew.trans (HW2.out.fin true).2
end Go.Proofs.Ytonjdnahplphhaa
