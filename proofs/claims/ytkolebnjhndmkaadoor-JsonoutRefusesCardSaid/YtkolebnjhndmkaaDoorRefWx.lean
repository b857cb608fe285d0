/-
  CONTRACT of the document's own Writer, for JSON: a container begins where none is open.
-/
import Derived.Test.YtkolebnjhndmkaaDoorRefWy
namespace Go.Proofs.YtkolebnjhndmkaaDoor
open Go.RowKit
open Go.Lib
set_option maxRecDepth 100000 in
set_option maxHeartbeats 8000000 in
theorem wr_open0_6 {M B b : Nat} {w : World} (h : WrAt M B w b [] false) (y : Bool) (m : Nat) (t : ByteArray) (c : Int) (hc : -1 ≤ c ∧ c ≤ 9223372036854775807) :
    Calls Tryd.prog 12 #[.pointer (some ⟨b, 0, none⟩), evV ⟨6, y, m, t, c⟩] w fun q w' => q = .returned (.tuple #[.string ⟨#[123]⟩, .int .i64 0]) ∧ WrAt M B w' b [⟨true, c, 0⟩] false ∧ Bew B b w w' := by
  obtain ⟨a, cp, hA, hS⟩ := h.cells
  have hBw : B ≤ w.heap.size := h.low
  have HM : Hid (∀ X, Calls Tryd.prog 15 #[evV ⟨6, y, m, t, c⟩] (w.alloc X) fun r w' => r = .returned (.bool true) ∧ Below (w.alloc X).heap.size (w.alloc X) w') := Lib.hid fun X => by
    have := may_any ⟨6, y, m, t, c⟩ (w.alloc X)
    rwa [decide_eq_true (show mayE ⟨6, y, m, t, c⟩ from ⟨by simp, by simp, fun _ => hc.1⟩)] at this
  simp only [evV] at HM ⊢
  have HH := Lib.hid h
  have HA := Lib.hid hA
  have hA0 := (hA.alloc (by simp) (.cells #[.int .i64 6, .bool y, .int .u64 m, .string t, .int .i64 c] 34))
  obtain ⟨⟨k0, _⟩, ⟨k1, _⟩, ⟨k2, _⟩⟩ := at_three hA0
  simp only [List.length_nil] at k1 HA
  clear h hA hS hA0
  go_enter Tryd.func12, Tryd.ntmps12
  go_wp2_with fail
  refine (HM.out _).mono ?_
  rintro e w1 ⟨rfl, hb1⟩
  have E1 := Lib.hid ((blk_new w _ _).go hb1)
  obtain ⟨⟨e0, e1, e2, e3, e4⟩, ef⟩ := E1.out.ev
  have hbw1 := up_trans (up_alloc (Below.refl w.heap.size w) (.cells #[.int .i64 6, .bool y, .int .u64 m, .string t, .int .i64 c] 34)) hb1
  have A1 := Lib.hid (HA.out.keep (hbw1.block b HH.out.lt))
  have HB1 := Lib.hid hbw1
  clear hb1 ef k0 k1 k2 hbw1
  obtain ⟨⟨k0, q0⟩, ⟨k1, q1⟩, ⟨k2, q2⟩⟩ := at_three A1.out
  go_wp2
  refine wr_grow (k := 6) (c := c) (mp := true) (n := 0) (HH.out.go HB1.out) rfl E1.out rfl (by omega) (by omega) _ _ _ _ _ _ _ _ _ _ _ _ _ _ _ _ _ _ _ _ _ _ _ _ _ _ _ _ _ _ _ _ _ _ _ _ _ _ _ _ _ _ _ _ _ _ _ _ _ _ _ _ _ _ _ _ _ _ _ _ _ _ _ _ _ _ _ _ _ _ _ _ _ _ _ _ _ _ _ _ _ _ _ _ _ _ _ _ _ _ _ _ _ _ _ _ _ _ _ _ _ _ _ _ _ _ _ _ _ _ _ _ _ _ _ _ _ _ _ _ _ _ _ _ _ _ _ _ _ _ _ _ _ _ _ _ _ _ _ _ _ _ _ _ _ _ _ _ _ _ _ _ _ _ _ _ _ _ _ _ _ _ _ _ _ _ _ _ _ _ _ _ _ _ _ _ _ _ _ _ _ _ _ _ _ _ _ _ _ _ _ _ _ _ _ _ _ _ _ _ _ _ _ _ _ _ _ _ _ _ _ _ _ _ _ _ _ _ _ _ _ _ _ _ _ _ _ _ _ _ _ _ _ _ _ _ _ _ _ _ _ _ _ _ _ _ _ _ _ _ _ _ _ _ _ _ _ _ _ _ _ _ _ _ _ _ _ _ _ _ _ _ _ _ _ _ _ _ _ _ _ _ _ _ _ _ _ _ _ _ _ _ _ _ _ _ _ _ _ _ _ _ _ _ _ _ _ _ _ _ _ _ _ _ _ _ _ _ _ _ _ _ _ _ _ _ _ _ _ _ _ _ _ _ _ _ _ _ _ _ _ _ _ _ _ _ _ _ _ _ _ _ _ _ _ _ _ _ _ _ _ _ _ _ _ _ _  ?_
  intro a4 c4 w4 _ _ _ _ _ _ _ _ _ _ _ _ _ _ _ _  hWr hBl
  have HWr := Lib.hid hWr
  have HBl := Lib.hid hBl
  clear hWr hBl e0 e1 e2 e3 e4 k0 k1 k2 q0 q1 q2
  go_wp2
  go_ret2
  exact ⟨rfl, HWr.out, (HB1.out.mono hBw).bew.trans HBl.out⟩
set_option maxRecDepth 100000 in
set_option maxHeartbeats 8000000 in
theorem wr_open0_5 {M B b : Nat} {w : World} (h : WrAt M B w b [] false) (y : Bool) (m : Nat) (t : ByteArray) (c : Int) (hc : -1 ≤ c ∧ c ≤ 9223372036854775807) :
    Calls Tryd.prog 12 #[.pointer (some ⟨b, 0, none⟩), evV ⟨5, y, m, t, c⟩] w fun q w' => q = .returned (.tuple #[.string ⟨#[91]⟩, .int .i64 0]) ∧ WrAt M B w' b [⟨false, c, 0⟩] false ∧ Bew B b w w' := by
  obtain ⟨a, cp, hA, hS⟩ := h.cells
  have hBw : B ≤ w.heap.size := h.low
  have HM : Hid (∀ X, Calls Tryd.prog 15 #[evV ⟨5, y, m, t, c⟩] (w.alloc X) fun r w' => r = .returned (.bool true) ∧ Below (w.alloc X).heap.size (w.alloc X) w') := Lib.hid fun X => by
    have := may_any ⟨5, y, m, t, c⟩ (w.alloc X)
    rwa [decide_eq_true (show mayE ⟨5, y, m, t, c⟩ from ⟨by simp, by simp, fun _ => hc.1⟩)] at this
  simp only [evV] at HM ⊢
  have HH := Lib.hid h
  have HA := Lib.hid hA
  have hA0 := (hA.alloc (by simp) (.cells #[.int .i64 5, .bool y, .int .u64 m, .string t, .int .i64 c] 34))
  obtain ⟨⟨k0, _⟩, ⟨k1, _⟩, ⟨k2, _⟩⟩ := at_three hA0
  simp only [List.length_nil] at k1 HA
  clear h hA hS hA0
  go_enter Tryd.func12, Tryd.ntmps12
  go_wp2_with fail
  refine (HM.out _).mono ?_
  rintro e w1 ⟨rfl, hb1⟩
  have E1 := Lib.hid ((blk_new w _ _).go hb1)
  obtain ⟨⟨e0, e1, e2, e3, e4⟩, ef⟩ := E1.out.ev
  have hbw1 := up_trans (up_alloc (Below.refl w.heap.size w) (.cells #[.int .i64 5, .bool y, .int .u64 m, .string t, .int .i64 c] 34)) hb1
  have A1 := Lib.hid (HA.out.keep (hbw1.block b HH.out.lt))
  have HB1 := Lib.hid hbw1
  clear hb1 ef k0 k1 k2 hbw1
  obtain ⟨⟨k0, q0⟩, ⟨k1, q1⟩, ⟨k2, q2⟩⟩ := at_three A1.out
  go_wp2
  refine wr_grow (k := 5) (c := c) (mp := false) (n := 0) (HH.out.go HB1.out) rfl E1.out rfl (by omega) (by omega) _ _ _ _ _ _ _ _ _ _ _ _ _ _ _ _ _ _ _ _ _ _ _ _ _ _ _ _ _ _ _ _ _ _ _ _ _ _ _ _ _ _ _ _ _ _ _ _ _ _ _ _ _ _ _ _ _ _ _ _ _ _ _ _ _ _ _ _ _ _ _ _ _ _ _ _ _ _ _ _ _ _ _ _ _ _ _ _ _ _ _ _ _ _ _ _ _ _ _ _ _ _ _ _ _ _ _ _ _ _ _ _ _ _ _ _ _ _ _ _ _ _ _ _ _ _ _ _ _ _ _ _ _ _ _ _ _ _ _ _ _ _ _ _ _ _ _ _ _ _ _ _ _ _ _ _ _ _ _ _ _ _ _ _ _ _ _ _ _ _ _ _ _ _ _ _ _ _ _ _ _ _ _ _ _ _ _ _ _ _ _ _ _ _ _ _ _ _ _ _ _ _ _ _ _ _ _ _ _ _ _ _ _ _ _ _ _ _ _ _ _ _ _ _ _ _ _ _ _ _ _ _ _ _ _ _ _ _ _ _ _ _ _ _ _ _ _ _ _ _ _ _ _ _ _ _ _ _ _ _ _ _ _ _ _ _ _ _ _ _ _ _ _ _ _ _ _ _ _ _ _ _ _ _ _ _ _ _ _ _ _ _ _ _ _ _ _ _ _ _ _ _ _ _ _ _ _ _ _ _ _ _ _ _ _ _ _ _ _ _ _ _ _ _ _ _ _ _ _ _ _ _ _ _ _ _ _ _ _ _ _ _ _ _ _ _ _ _ _ _ _ _ _ _ _ _ _ _ _ _ _ _ _ _ _ _ _  ?_
  intro a4 c4 w4 _ _ _ _ _ _ _ _ _ _ _ _ _ _ _ _  hWr hBl
  have HWr := Lib.hid hWr
  have HBl := Lib.hid hBl
  clear hWr hBl e0 e1 e2 e3 e4 k0 k1 k2 q0 q1 q2
  go_wp2
  go_ret2
  exact ⟨rfl, HWr.out, (HB1.out.mono hBw).bew.trans HBl.out⟩
end Go.Proofs.YtkolebnjhndmkaaDoor
