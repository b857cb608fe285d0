/-
  CONTRACT of the document's own Writer, for MessagePack: a container whose count it cannot hold, where none is open.
-/
import Derived.Test.YtonjdnahplphhaaHRefPs
import Derived.Test.YtonjdnahplphhaaG0c
/-
  CONTRACT of the document's own Writer, for MessagePack: a container whose count it cannot hold, where none is open.
-/
namespace Go.Proofs.Ytonjdnahplphhaa
open Go.RowKit
open Go.Lib
set_option maxRecDepth 100000 in
set_option maxHeartbeats 8000000 in
theorem wm_range0_5n {M B b : Nat} {w : World} (h : WmAt M B w b [] false) (y : Bool) (m : Nat) (t : ByteArray) (c : Int) (hneg : c < 0) (hc : -1 ≤ c) :
    Calls Try.prog 13 #[.pointer (some ⟨b, 0, none⟩), evV ⟨5, y, m, t, c⟩] w fun q w' => q = .returned (.tuple #[.string ⟨#[]⟩, .int .i64 7]) ∧ WmAt M B w' b [] false ∧ Bew B b w w' := by
  obtain ⟨a, cp, hA, hS⟩ := h.cells
  have hBw : B ≤ w.heap.size := h.low
  have HM : Hid (∀ X, Calls Try.prog 16 #[evV ⟨5, y, m, t, c⟩] (w.alloc X) fun r w' => r = .returned (.bool true) ∧ Below (w.alloc X).heap.size (w.alloc X) w') := Lib.hid fun X => by
    have := may_any ⟨5, y, m, t, c⟩ (w.alloc X)
    rwa [decide_eq_true (show mayE ⟨5, y, m, t, c⟩ from ⟨by simp, by simp, fun _ => by simp only; omega⟩)] at this
  simp only [evV] at HM ⊢
  have HH := Lib.hid h
  have HA := Lib.hid hA
  have hA0 := (hA.alloc (by simp) (.cells #[.int .i64 5, .bool y, .int .u64 m, .string t, .int .i64 c] 35))
  obtain ⟨⟨k0, _⟩, ⟨k1, _⟩, ⟨k2, _⟩⟩ := at_three hA0
  simp only [List.length_nil] at k1 HA
  clear h hA hS hA0
  have hzn : (c < 0) = True := by simp only [eq_iff_iff, iff_true]; omega
  clear hneg hc
  go_enter Try.func13, Try.ntmps13
  go_wp2_with fail
  refine (HM.out _).mono ?_
  rintro e w1 ⟨rfl, hb1⟩
  have E1 := Lib.hid ((blk_new w _ _).go hb1)
  obtain ⟨⟨e0, e1, e2, e3, e4⟩, ef⟩ := E1.out.ev
  have hbw1 := up_trans (up_alloc (Below.refl w.heap.size w) (.cells #[.int .i64 5, .bool y, .int .u64 m, .string t, .int .i64 c] 35)) hb1
  have A1 := Lib.hid (HA.out.keep (hbw1.block b HH.out.lt))
  have HB1 := Lib.hid hbw1
  clear hb1 ef k0 k1 k2 hbw1
  obtain ⟨⟨k0, q0⟩, ⟨k1, q1⟩, ⟨k2, q2⟩⟩ := at_three A1.out
  go_wp2
  go_ret2
  exact ⟨rfl, HH.out.go HB1.out, (HB1.out.mono hBw).bew⟩
set_option maxRecDepth 100000 in
set_option maxHeartbeats 8000000 in
theorem wm_range0_5g {M B b : Nat} {w : World} (h : WmAt M B w b [] false) (y : Bool) (m : Nat) (t : ByteArray) (c : Int) (hg : 4294967295 < c) (hc : c ≤ 9223372036854775807) :
    Calls Try.prog 13 #[.pointer (some ⟨b, 0, none⟩), evV ⟨5, y, m, t, c⟩] w fun q w' => q = .returned (.tuple #[.string ⟨#[]⟩, .int .i64 7]) ∧ WmAt M B w' b [] false ∧ Bew B b w w' := by
  obtain ⟨a, cp, hA, hS⟩ := h.cells
  have hBw : B ≤ w.heap.size := h.low
  have HM : Hid (∀ X, Calls Try.prog 16 #[evV ⟨5, y, m, t, c⟩] (w.alloc X) fun r w' => r = .returned (.bool true) ∧ Below (w.alloc X).heap.size (w.alloc X) w') := Lib.hid fun X => by
    have := may_any ⟨5, y, m, t, c⟩ (w.alloc X)
    rwa [decide_eq_true (show mayE ⟨5, y, m, t, c⟩ from ⟨by simp, by simp, fun _ => by simp only; omega⟩)] at this
  simp only [evV] at HM ⊢
  have HH := Lib.hid h
  have HA := Lib.hid hA
  have hA0 := (hA.alloc (by simp) (.cells #[.int .i64 5, .bool y, .int .u64 m, .string t, .int .i64 c] 35))
  obtain ⟨⟨k0, _⟩, ⟨k1, _⟩, ⟨k2, _⟩⟩ := at_three hA0
  simp only [List.length_nil] at k1 HA
  clear h hA hS hA0
  have hzn : (c < 0) = False := by simp only [eq_iff_iff, iff_false]; omega
  have hzg : (4294967295 < c) = True := by simp only [eq_iff_iff, iff_true]; omega
  have hwc : IntKind.u64.wrap c = c := wrapI_u64 _ (by omega) (by omega)
  clear hg hc
  go_enter Try.func13, Try.ntmps13
  go_wp2_with fail
  refine (HM.out _).mono ?_
  rintro e w1 ⟨rfl, hb1⟩
  have E1 := Lib.hid ((blk_new w _ _).go hb1)
  obtain ⟨⟨e0, e1, e2, e3, e4⟩, ef⟩ := E1.out.ev
  have hbw1 := up_trans (up_alloc (Below.refl w.heap.size w) (.cells #[.int .i64 5, .bool y, .int .u64 m, .string t, .int .i64 c] 35)) hb1
  have A1 := Lib.hid (HA.out.keep (hbw1.block b HH.out.lt))
  have HB1 := Lib.hid hbw1
  clear hb1 ef k0 k1 k2 hbw1
  obtain ⟨⟨k0, q0⟩, ⟨k1, q1⟩, ⟨k2, q2⟩⟩ := at_three A1.out
  go_wp2
  go_ret2
  exact ⟨rfl, HH.out.go HB1.out, (HB1.out.mono hBw).bew⟩
set_option maxRecDepth 100000 in
set_option maxHeartbeats 8000000 in
theorem wm_range0_6n {M B b : Nat} {w : World} (h : WmAt M B w b [] false) (y : Bool) (m : Nat) (t : ByteArray) (c : Int) (hneg : c < 0) (hc : -1 ≤ c) :
    Calls Try.prog 13 #[.pointer (some ⟨b, 0, none⟩), evV ⟨6, y, m, t, c⟩] w fun q w' => q = .returned (.tuple #[.string ⟨#[]⟩, .int .i64 7]) ∧ WmAt M B w' b [] false ∧ Bew B b w w' := by
  obtain ⟨a, cp, hA, hS⟩ := h.cells
  have hBw : B ≤ w.heap.size := h.low
  have HM : Hid (∀ X, Calls Try.prog 16 #[evV ⟨6, y, m, t, c⟩] (w.alloc X) fun r w' => r = .returned (.bool true) ∧ Below (w.alloc X).heap.size (w.alloc X) w') := Lib.hid fun X => by
    have := may_any ⟨6, y, m, t, c⟩ (w.alloc X)
    rwa [decide_eq_true (show mayE ⟨6, y, m, t, c⟩ from ⟨by simp, by simp, fun _ => by simp only; omega⟩)] at this
  simp only [evV] at HM ⊢
  have HH := Lib.hid h
  have HA := Lib.hid hA
  have hA0 := (hA.alloc (by simp) (.cells #[.int .i64 6, .bool y, .int .u64 m, .string t, .int .i64 c] 35))
  obtain ⟨⟨k0, _⟩, ⟨k1, _⟩, ⟨k2, _⟩⟩ := at_three hA0
  simp only [List.length_nil] at k1 HA
  clear h hA hS hA0
  have hzn : (c < 0) = True := by simp only [eq_iff_iff, iff_true]; omega
  clear hneg hc
  go_enter Try.func13, Try.ntmps13
  go_wp2_with fail
  refine (HM.out _).mono ?_
  rintro e w1 ⟨rfl, hb1⟩
  have E1 := Lib.hid ((blk_new w _ _).go hb1)
  obtain ⟨⟨e0, e1, e2, e3, e4⟩, ef⟩ := E1.out.ev
  have hbw1 := up_trans (up_alloc (Below.refl w.heap.size w) (.cells #[.int .i64 6, .bool y, .int .u64 m, .string t, .int .i64 c] 35)) hb1
  have A1 := Lib.hid (HA.out.keep (hbw1.block b HH.out.lt))
  have HB1 := Lib.hid hbw1
  clear hb1 ef k0 k1 k2 hbw1
  obtain ⟨⟨k0, q0⟩, ⟨k1, q1⟩, ⟨k2, q2⟩⟩ := at_three A1.out
  go_wp2
  go_ret2
  exact ⟨rfl, HH.out.go HB1.out, (HB1.out.mono hBw).bew⟩
set_option maxRecDepth 100000 in
set_option maxHeartbeats 8000000 in
theorem wm_range0_6g {M B b : Nat} {w : World} (h : WmAt M B w b [] false) (y : Bool) (m : Nat) (t : ByteArray) (c : Int) (hg : 4294967295 < c) (hc : c ≤ 9223372036854775807) :
    Calls Try.prog 13 #[.pointer (some ⟨b, 0, none⟩), evV ⟨6, y, m, t, c⟩] w fun q w' => q = .returned (.tuple #[.string ⟨#[]⟩, .int .i64 7]) ∧ WmAt M B w' b [] false ∧ Bew B b w w' := by
  obtain ⟨a, cp, hA, hS⟩ := h.cells
  have hBw : B ≤ w.heap.size := h.low
  have HM : Hid (∀ X, Calls Try.prog 16 #[evV ⟨6, y, m, t, c⟩] (w.alloc X) fun r w' => r = .returned (.bool true) ∧ Below (w.alloc X).heap.size (w.alloc X) w') := Lib.hid fun X => by
    have := may_any ⟨6, y, m, t, c⟩ (w.alloc X)
    rwa [decide_eq_true (show mayE ⟨6, y, m, t, c⟩ from ⟨by simp, by simp, fun _ => by simp only; omega⟩)] at this
  simp only [evV] at HM ⊢
  have HH := Lib.hid h
  have HA := Lib.hid hA
  have hA0 := (hA.alloc (by simp) (.cells #[.int .i64 6, .bool y, .int .u64 m, .string t, .int .i64 c] 35))
  obtain ⟨⟨k0, _⟩, ⟨k1, _⟩, ⟨k2, _⟩⟩ := at_three hA0
  simp only [List.length_nil] at k1 HA
  clear h hA hS hA0
  have hzn : (c < 0) = False := by simp only [eq_iff_iff, iff_false]; omega
  have hzg : (4294967295 < c) = True := by simp only [eq_iff_iff, iff_true]; omega
  have hwc : IntKind.u64.wrap c = c := wrapI_u64 _ (by omega) (by omega)
  clear hg hc
  go_enter Try.func13, Try.ntmps13
  go_wp2_with fail
  refine (HM.out _).mono ?_
  rintro e w1 ⟨rfl, hb1⟩
  have E1 := Lib.hid ((blk_new w _ _).go hb1)
  obtain ⟨⟨e0, e1, e2, e3, e4⟩, ef⟩ := E1.out.ev
  have hbw1 := up_trans (up_alloc (Below.refl w.heap.size w) (.cells #[.int .i64 6, .bool y, .int .u64 m, .string t, .int .i64 c] 35)) hb1
  have A1 := Lib.hid (HA.out.keep (hbw1.block b HH.out.lt))
  have HB1 := Lib.hid hbw1
  clear hb1 ef k0 k1 k2 hbw1
  obtain ⟨⟨k0, q0⟩, ⟨k1, q1⟩, ⟨k2, q2⟩⟩ := at_three A1.out
  go_wp2
  go_ret2
  exact ⟨rfl, HH.out.go HB1.out, (HB1.out.mono hBw).bew⟩
end Go.Proofs.Ytonjdnahplphhaa
