/-
  CONTRACT of the document's own Writer, for MessagePack (written by tools/mkrefg.py): a container begins where none is open (s: of a count below 16; l: of a greater one).
-/
import Derived.Test.YtonjdnahplphhaaHRefPg
import Derived.Test.YtonjdnahplphhaaHHeadRh
/-
  CONTRACT of the document's own Writer, for MessagePack (written by tools/mkrefg.py): a container begins where none is open (s: of a count below 16; l: of a greater one).
-/
namespace Go.Proofs.Ytonjdnahplphhaa
open Go.RowKit
open Go.Lib
set_option maxRecDepth 100000 in
set_option maxHeartbeats 8000000 in
theorem wm_open0_6l {M B b : Nat} {w : World} (h : WmAt M B w b [] false) (y : Bool) (m : Nat) (t : ByteArray) (c : Int) (hc : -1 ≤ c ∧ c ≤ 9223372036854775807) (hpos : 16 ≤ c) (hmax : c ≤ 4294967295) (X : ByteArray) (hX : X.size ≤ 100000)
    (hH : ∀ W, Calls Try.prog 27 #[.int .u64 c, .int .u8 0, .int .u8 222, .int .u8 223] W fun r w' => r = .returned (.string X) ∧ Below W.heap.size W w') :
    Calls Try.prog 13 #[.pointer (some ⟨b, 0, none⟩), evV ⟨6, y, m, t, c⟩] w fun q w' => q = .returned (.tuple #[.string X, .int .i64 0]) ∧ WmAt M B w' b [⟨true, c, 0⟩] false ∧ Bew B b w w' := by
  obtain ⟨a, cp, hA, hS⟩ := h.cells
  have hBw : B ≤ w.heap.size := h.low
  have HM : Hid (∀ X, Calls Try.prog 16 #[evV ⟨6, y, m, t, c⟩] (w.alloc X) fun r w' => r = .returned (.bool true) ∧ Below (w.alloc X).heap.size (w.alloc X) w') := Lib.hid fun X => by
    have := may_any ⟨6, y, m, t, c⟩ (w.alloc X)
    rwa [decide_eq_true (show mayE ⟨6, y, m, t, c⟩ from ⟨by simp, by simp, fun _ => hc.1⟩)] at this
  simp only [evV] at HM ⊢
  have HH := Lib.hid h
  have HA := Lib.hid hA
  have hA0 := (hA.alloc (by simp) (.cells #[.int .i64 6, .bool y, .int .u64 m, .string t, .int .i64 c] 35))
  obtain ⟨⟨k0, _⟩, ⟨k1, _⟩, ⟨k2, _⟩⟩ := at_three hA0
  simp only [List.length_nil] at k1 HA
  clear h hA hS hA0
  have hzn : (c < 0) = False := by simp only [eq_iff_iff, iff_false]; omega
  have hzg : (4294967295 < c) = False := by simp only [eq_iff_iff, iff_false]; omega
  have hz16 : (c < 16) = False := by simp only [eq_iff_iff, iff_false]; omega
  have hwc : IntKind.u64.wrap c = c := by simp [IntKind.wrap, IntKind.bits, IntKind.signed]; omega
  have HH4 := Lib.hid hH
  have HP4 := Lib.hid hpos
  have hcat : (⟨#[]⟩ : ByteArray) ++ X = X := by apply ByteArray.ext; simp
  have HC := Lib.hid hcat
  clear hcat hH hpos hmax
  go_enter Try.func13, Try.ntmps13
  go_wp2_with fail
  refine (HM.out _).mono ?_
  rintro e w1 ⟨rfl, hb1⟩
  have E1 := Lib.hid ((blk_new w _ _).go hb1)
  obtain ⟨⟨e0, e1, e2, e3, e4⟩, ef⟩ := E1.out.ev
  have hbw1 := up_trans (up_alloc (Below.refl w.heap.size w) (.cells #[.int .i64 6, .bool y, .int .u64 m, .string t, .int .i64 c] 35)) hb1
  have A1 := Lib.hid (HA.out.keep (hbw1.block b HH.out.lt))
  have HB1 := Lib.hid hbw1
  clear hb1 ef k0 k1 k2 hbw1
  obtain ⟨⟨k0, q0⟩, ⟨k1, q1⟩, ⟨k2, q2⟩⟩ := at_three A1.out
  go_wp2_with fail
  refine (HH4.out _).mono ?_
  rintro r w2 ⟨rfl, hb2⟩
  have HB2 := Lib.hid (up_trans HB1.out hb2)
  have E2 := Lib.hid (E1.out.go hb2)
  have A2 := Lib.hid (A1.out.keep (hb2.block b (Nat.lt_of_lt_of_le HH.out.lt HB1.out.size)))
  clear k0 q0 k1 q1 k2 q2 e0 e1 e2 e3 e4
  obtain ⟨⟨e0, e1, e2, e3, e4⟩, ef⟩ := E2.out.ev
  obtain ⟨⟨k0, q0⟩, ⟨k1, q1⟩, ⟨k2, q2⟩⟩ := at_three A2.out
  clear hb2
  go_wp2
  refine wm_grow (k := 6) (c := c) (mp := true) (n := 0) (HH.out.go HB2.out) rfl E2.out rfl (by omega) (by omega) _ _ _ _ _ _ _ _ _ _ _ _ _ _ _ _ _ _ _ _ _ _ _ _ _ _ _ _ _ _ _ _ _ _ _ _ _ _ _ _ _ _ _ _ _ _ _ _ _ _ _ _ _ _ _ _ _ _ _ _ _ _ _ _ _ _ _ _ _ _ _ _ _ _ _ _ _ _ _ _ _ _ _ _ _ _ _ _ _ _ _ _ _ _ _ _ _ _ _ _ _ _ _ _ _ _ _ _ _ _ _ _ _ _ _ _ _ _ _ _ _ _ _ _ _ _ _ _ _ _ _ _ _ _ _ _ _ _ _ _ _ _ _ _ _ _ _ _ _ _ _ _ _ _ _ _ _ _ _ _ _ _ _ _ _ _ _ _ _ _ _ _ _ _ _ _ _ _ _ _ _ _ _ _ _ _ _ _ _ _ _ _ _ _ _ _ _ _ _ _ _ _ _ _ _ _ _ _ _ _ _ _ _ _ _ _ _ _ _ _ _ _ _ _ _ _ _ _ _ _ _ _ _ _ _ _ _ _ _ _ _ _ _ _ _ _ _ _ _ _ _ _ _ _ _ _ _ _ _ _ _ _ _ _ _ _ _ _ _ _ _ _ _ _ _ _ _ _ _ _ _ _ _ _ _ _ _ _ _ _ _ _ _ _ _ _ _ _ _ _ _ _ _ _ _ _ _ _ _ _ _ _ _ _ _ _ _ _ _ _ _ _ _ _ _ _ _ _ _ _ _ _ _ _ _ _ _ _ _ _ _ _ _ _ _ _ _ _ _ _ _ _ _ _ _ _ _ _ _ _ _ _ _ _ _ _ _  ?_
  intro a4 c4 w4 _ _ _ _ _ _ _ _ _ _ _ _ _ _ _ _  hWr hBl
  have HWr := Lib.hid hWr
  have HBl := Lib.hid hBl
  clear hWr hBl e0 e1 e2 e3 e4 k0 k1 k2 q0 q1 q2
  go_wp2
  go_ret2
  exact ⟨by rw [HC.out]; rfl, HWr.out, (HB2.out.mono hBw).bew.trans HBl.out⟩
set_option maxRecDepth 100000 in
set_option maxHeartbeats 8000000 in
theorem wm_open0_5l {M B b : Nat} {w : World} (h : WmAt M B w b [] false) (y : Bool) (m : Nat) (t : ByteArray) (c : Int) (hc : -1 ≤ c ∧ c ≤ 9223372036854775807) (hpos : 16 ≤ c) (hmax : c ≤ 4294967295) (X : ByteArray) (hX : X.size ≤ 100000)
    (hH : ∀ W, Calls Try.prog 27 #[.int .u64 c, .int .u8 0, .int .u8 220, .int .u8 221] W fun r w' => r = .returned (.string X) ∧ Below W.heap.size W w') :
    Calls Try.prog 13 #[.pointer (some ⟨b, 0, none⟩), evV ⟨5, y, m, t, c⟩] w fun q w' => q = .returned (.tuple #[.string X, .int .i64 0]) ∧ WmAt M B w' b [⟨false, c, 0⟩] false ∧ Bew B b w w' := by
  obtain ⟨a, cp, hA, hS⟩ := h.cells
  have hBw : B ≤ w.heap.size := h.low
  have HM : Hid (∀ X, Calls Try.prog 16 #[evV ⟨5, y, m, t, c⟩] (w.alloc X) fun r w' => r = .returned (.bool true) ∧ Below (w.alloc X).heap.size (w.alloc X) w') := Lib.hid fun X => by
    have := may_any ⟨5, y, m, t, c⟩ (w.alloc X)
    rwa [decide_eq_true (show mayE ⟨5, y, m, t, c⟩ from ⟨by simp, by simp, fun _ => hc.1⟩)] at this
  simp only [evV] at HM ⊢
  have HH := Lib.hid h
  have HA := Lib.hid hA
  have hA0 := (hA.alloc (by simp) (.cells #[.int .i64 5, .bool y, .int .u64 m, .string t, .int .i64 c] 35))
  obtain ⟨⟨k0, _⟩, ⟨k1, _⟩, ⟨k2, _⟩⟩ := at_three hA0
  simp only [List.length_nil] at k1 HA
  clear h hA hS hA0
  have hzn : (c < 0) = False := by simp only [eq_iff_iff, iff_false]; omega
  have hzg : (4294967295 < c) = False := by simp only [eq_iff_iff, iff_false]; omega
  have hz16 : (c < 16) = False := by simp only [eq_iff_iff, iff_false]; omega
  have hwc : IntKind.u64.wrap c = c := by simp [IntKind.wrap, IntKind.bits, IntKind.signed]; omega
  have HH4 := Lib.hid hH
  have HP4 := Lib.hid hpos
  have hcat : (⟨#[]⟩ : ByteArray) ++ X = X := by apply ByteArray.ext; simp
  have HC := Lib.hid hcat
  clear hcat hH hpos hmax
  go_enter Try.func13, Try.ntmps13
  go_wp2_with fail
  refine (HM.out _).mono ?_
  rintro e w1 ⟨rfl, hb1⟩
  have E1 := Lib.hid ((blk_new w _ _).go hb1)
  obtain ⟨⟨e0, e1, e2, e3, e4⟩, ef⟩ := E1.out.ev
  have hbw1 := up_trans (up_alloc (Below.refl w.heap.size w) (.cells #[.int .i64 5, .bool y, .int .u64 m, .string t, .int .i64 c] 35)) hb1
  have A1 := Lib.hid (HA.out.keep (hbw1.block b HH.out.lt))
  have HB1 := Lib.hid hbw1
  clear hb1 ef k0 k1 k2 hbw1
  obtain ⟨⟨k0, q0⟩, ⟨k1, q1⟩, ⟨k2, q2⟩⟩ := at_three A1.out
  go_wp2_with fail
  refine (HH4.out _).mono ?_
  rintro r w2 ⟨rfl, hb2⟩
  have HB2 := Lib.hid (up_trans HB1.out hb2)
  have E2 := Lib.hid (E1.out.go hb2)
  have A2 := Lib.hid (A1.out.keep (hb2.block b (Nat.lt_of_lt_of_le HH.out.lt HB1.out.size)))
  clear k0 q0 k1 q1 k2 q2 e0 e1 e2 e3 e4
  obtain ⟨⟨e0, e1, e2, e3, e4⟩, ef⟩ := E2.out.ev
  obtain ⟨⟨k0, q0⟩, ⟨k1, q1⟩, ⟨k2, q2⟩⟩ := at_three A2.out
  clear hb2
  go_wp2
  refine wm_grow (k := 5) (c := c) (mp := false) (n := 0) (HH.out.go HB2.out) rfl E2.out rfl (by omega) (by omega) _ _ _ _ _ _ _ _ _ _ _ _ _ _ _ _ _ _ _ _ _ _ _ _ _ _ _ _ _ _ _ _ _ _ _ _ _ _ _ _ _ _ _ _ _ _ _ _ _ _ _ _ _ _ _ _ _ _ _ _ _ _ _ _ _ _ _ _ _ _ _ _ _ _ _ _ _ _ _ _ _ _ _ _ _ _ _ _ _ _ _ _ _ _ _ _ _ _ _ _ _ _ _ _ _ _ _ _ _ _ _ _ _ _ _ _ _ _ _ _ _ _ _ _ _ _ _ _ _ _ _ _ _ _ _ _ _ _ _ _ _ _ _ _ _ _ _ _ _ _ _ _ _ _ _ _ _ _ _ _ _ _ _ _ _ _ _ _ _ _ _ _ _ _ _ _ _ _ _ _ _ _ _ _ _ _ _ _ _ _ _ _ _ _ _ _ _ _ _ _ _ _ _ _ _ _ _ _ _ _ _ _ _ _ _ _ _ _ _ _ _ _ _ _ _ _ _ _ _ _ _ _ _ _ _ _ _ _ _ _ _ _ _ _ _ _ _ _ _ _ _ _ _ _ _ _ _ _ _ _ _ _ _ _ _ _ _ _ _ _ _ _ _ _ _ _ _ _ _ _ _ _ _ _ _ _ _ _ _ _ _ _ _ _ _ _ _ _ _ _ _ _ _ _ _ _ _ _ _ _ _ _ _ _ _ _ _ _ _ _ _ _ _ _ _ _ _ _ _ _ _ _ _ _ _ _ _ _ _ _ _ _ _ _ _ _ _ _ _ _ _ _ _ _ _ _ _ _ _ _ _ _ _ _ _ _ _  ?_
  intro a4 c4 w4 _ _ _ _ _ _ _ _ _ _ _ _ _ _ _ _  hWr hBl
  have HWr := Lib.hid hWr
  have HBl := Lib.hid hBl
  clear hWr hBl e0 e1 e2 e3 e4 k0 k1 k2 q0 q1 q2
  go_wp2
  go_ret2
  exact ⟨by rw [HC.out]; rfl, HWr.out, (HB2.out.mono hBw).bew.trans HBl.out⟩
set_option maxRecDepth 100000 in
set_option maxHeartbeats 8000000 in
theorem wm_open0_6s {M B b : Nat} {w : World} (h : WmAt M B w b [] false) (y : Bool) (m : Nat) (t : ByteArray) (c : Int) (hc : -1 ≤ c ∧ c ≤ 9223372036854775807) (hpos : 0 ≤ c ∧ c < 16) :
    Calls Try.prog 13 #[.pointer (some ⟨b, 0, none⟩), evV ⟨6, y, m, t, c⟩] w fun q w' => q = .returned (.tuple #[.string ⟨#[UInt8.ofNat (128 + c.toNat)]⟩, .int .i64 0]) ∧ WmAt M B w' b [⟨true, c, 0⟩] false ∧ Bew B b w w' := by
  obtain ⟨a, cp, hA, hS⟩ := h.cells
  have hBw : B ≤ w.heap.size := h.low
  have HM : Hid (∀ X, Calls Try.prog 16 #[evV ⟨6, y, m, t, c⟩] (w.alloc X) fun r w' => r = .returned (.bool true) ∧ Below (w.alloc X).heap.size (w.alloc X) w') := Lib.hid fun X => by
    have := may_any ⟨6, y, m, t, c⟩ (w.alloc X)
    rwa [decide_eq_true (show mayE ⟨6, y, m, t, c⟩ from ⟨by simp, by simp, fun _ => hc.1⟩)] at this
  simp only [evV] at HM ⊢
  have HH := Lib.hid h
  have HA := Lib.hid hA
  have hA0 := (hA.alloc (by simp) (.cells #[.int .i64 6, .bool y, .int .u64 m, .string t, .int .i64 c] 35))
  obtain ⟨⟨k0, _⟩, ⟨k1, _⟩, ⟨k2, _⟩⟩ := at_three hA0
  simp only [List.length_nil] at k1 HA
  clear h hA hS hA0
  have hzn : (c < 0) = False := by simp only [eq_iff_iff, iff_false]; omega
  have hwc : IntKind.u64.wrap c = c := by simp [IntKind.wrap, IntKind.bits, IntKind.signed]; omega
  have hzg : (4294967295 < c) = False := by simp only [eq_iff_iff, iff_false]; omega
  have hz16 : (c < 16) = True := by simp only [eq_iff_iff, iff_true]; omega
  have hw1 : IntKind.u64.wrap (128 + c) = 128 + c := by simp [IntKind.wrap, IntKind.bits, IntKind.signed]; omega
  have hw2 : IntKind.u8.wrap (128 + c) = 128 + c := by simp [IntKind.wrap, IntKind.bits, IntKind.signed]; omega
  have hcx : (128 : Int) + c = (((UInt8.ofNat (128 + c.toNat)).toNat : Nat) : Int) := by simp; omega
  obtain ⟨X, hX⟩ : ∃ X : ByteArray, (⟨#[UInt8.ofNat (128 + c.toNat)]⟩ : ByteArray) = X := ⟨_, rfl⟩
  rw [hX]
  have hXs : X.size ≤ 100000 := by rw [← hX]; show 1 ≤ 100000; omega
  have hcat : (⟨#[]⟩ : ByteArray) ++ X = X := by apply ByteArray.ext; simp
  have HC := Lib.hid hcat
  have HCX := Lib.hid hcx
  have HXX := Lib.hid hX
  clear hcat hpos hcx hX
  go_enter Try.func13, Try.ntmps13
  go_wp2_with fail
  refine (HM.out _).mono ?_
  rintro e w1 ⟨rfl, hb1⟩
  have E1 := Lib.hid ((blk_new w _ _).go hb1)
  obtain ⟨⟨e0, e1, e2, e3, e4⟩, ef⟩ := E1.out.ev
  have hbw1 := up_trans (up_alloc (Below.refl w.heap.size w) (.cells #[.int .i64 6, .bool y, .int .u64 m, .string t, .int .i64 c] 35)) hb1
  have A1 := Lib.hid (HA.out.keep (hbw1.block b HH.out.lt))
  have HB1 := Lib.hid hbw1
  clear hb1 ef k0 k1 k2 hbw1
  obtain ⟨⟨k0, q0⟩, ⟨k1, q1⟩, ⟨k2, q2⟩⟩ := at_three A1.out
  obtain ⟨w2, hw2'⟩ : ∃ w2, w1.alloc (.cells #[.int .u8 ((128 : Int) + c)] 5) = w2 := ⟨_, rfl⟩
  have hcv : (convert 60 9 (.slice (some ⟨w1.heap.size, 0, none⟩) 1 1)).run Try.prog (w1.alloc (.cells #[.int .u8 ((128 : Int) + c)] 5)) = .ok (.string X) w2 := by
    have h9 := ho_new w1 (UInt8.ofNat (128 + c.toNat)) ((128 : Int) + c) HCX.out
    rw [HXX.out, hw2'] at h9
    rw [hw2']
    exact h9
  have hb2 : Below w1.heap.size w1 w2 := hw2' ▸ up_alloc (Below.refl _ _) _
  have HB2 := Lib.hid (up_trans HB1.out hb2)
  have E2 := Lib.hid (E1.out.go hb2)
  have A2 := Lib.hid (A1.out.keep (hb2.block b (Nat.lt_of_lt_of_le HH.out.lt HB1.out.size)))
  obtain ⟨⟨e0', e1', e2', e3', e4'⟩, ef'⟩ := E2.out.ev
  obtain ⟨⟨k0', q0'⟩, ⟨k1', q1'⟩, ⟨k2', q2'⟩⟩ := at_three A2.out
  have HW2 := Lib.hid hw2'
  clear hb2 hw2'
  go_wp2
  refine wm_grow (k := 6) (c := c) (mp := true) (n := 0) (HH.out.go HB2.out) rfl E2.out rfl (by omega) (by omega) _ _ _ _ _ _ _ _ _ _ _ _ _ _ _ _ _ _ _ _ _ _ _ _ _ _ _ _ _ _ _ _ _ _ _ _ _ _ _ _ _ _ _ _ _ _ _ _ _ _ _ _ _ _ _ _ _ _ _ _ _ _ _ _ _ _ _ _ _ _ _ _ _ _ _ _ _ _ _ _ _ _ _ _ _ _ _ _ _ _ _ _ _ _ _ _ _ _ _ _ _ _ _ _ _ _ _ _ _ _ _ _ _ _ _ _ _ _ _ _ _ _ _ _ _ _ _ _ _ _ _ _ _ _ _ _ _ _ _ _ _ _ _ _ _ _ _ _ _ _ _ _ _ _ _ _ _ _ _ _ _ _ _ _ _ _ _ _ _ _ _ _ _ _ _ _ _ _ _ _ _ _ _ _ _ _ _ _ _ _ _ _ _ _ _ _ _ _ _ _ _ _ _ _ _ _ _ _ _ _ _ _ _ _ _ _ _ _ _ _ _ _ _ _ _ _ _ _ _ _ _ _ _ _ _ _ _ _ _ _ _ _ _ _ _ _ _ _ _ _ _ _ _ _ _ _ _ _ _ _ _ _ _ _ _ _ _ _ _ _ _ _ _ _ _ _ _ _ _ _ _ _ _ _ _ _ _ _ _ _ _ _ _ _ _ _ _ _ _ _ _ _ _ _ _ _ _ _ _ _ _ _ _ _ _ _ _ _ _ _ _ _ _ _ _ _ _ _ _ _ _ _ _ _ _ _ _ _ _ _ _ _ _ _ _ _ _ _ _ _ _ _ _ _ _ _ _ _ _ _ _ _ _ _ _ _ _  ?_
  intro a4 c4 w4 _ _ _ _ _ _ _ _ _ _ _ _ _ _ _ _  hWr hBl
  have HWr := Lib.hid hWr
  have HBl := Lib.hid hBl
  clear hWr hBl e0 e1 e2 e3 e4 k0 k1 k2 q0 q1 q2
  go_wp2
  go_ret2
  exact ⟨by rw [HC.out]; rfl, HWr.out, (HB2.out.mono hBw).bew.trans HBl.out⟩
set_option maxRecDepth 100000 in
set_option maxHeartbeats 8000000 in
theorem wm_open0_5s {M B b : Nat} {w : World} (h : WmAt M B w b [] false) (y : Bool) (m : Nat) (t : ByteArray) (c : Int) (hc : -1 ≤ c ∧ c ≤ 9223372036854775807) (hpos : 0 ≤ c ∧ c < 16) :
    Calls Try.prog 13 #[.pointer (some ⟨b, 0, none⟩), evV ⟨5, y, m, t, c⟩] w fun q w' => q = .returned (.tuple #[.string ⟨#[UInt8.ofNat (144 + c.toNat)]⟩, .int .i64 0]) ∧ WmAt M B w' b [⟨false, c, 0⟩] false ∧ Bew B b w w' := by
  obtain ⟨a, cp, hA, hS⟩ := h.cells
  have hBw : B ≤ w.heap.size := h.low
  have HM : Hid (∀ X, Calls Try.prog 16 #[evV ⟨5, y, m, t, c⟩] (w.alloc X) fun r w' => r = .returned (.bool true) ∧ Below (w.alloc X).heap.size (w.alloc X) w') := Lib.hid fun X => by
    have := may_any ⟨5, y, m, t, c⟩ (w.alloc X)
    rwa [decide_eq_true (show mayE ⟨5, y, m, t, c⟩ from ⟨by simp, by simp, fun _ => hc.1⟩)] at this
  simp only [evV] at HM ⊢
  have HH := Lib.hid h
  have HA := Lib.hid hA
  have hA0 := (hA.alloc (by simp) (.cells #[.int .i64 5, .bool y, .int .u64 m, .string t, .int .i64 c] 35))
  obtain ⟨⟨k0, _⟩, ⟨k1, _⟩, ⟨k2, _⟩⟩ := at_three hA0
  simp only [List.length_nil] at k1 HA
  clear h hA hS hA0
  have hzn : (c < 0) = False := by simp only [eq_iff_iff, iff_false]; omega
  have hwc : IntKind.u64.wrap c = c := by simp [IntKind.wrap, IntKind.bits, IntKind.signed]; omega
  have hzg : (4294967295 < c) = False := by simp only [eq_iff_iff, iff_false]; omega
  have hz16 : (c < 16) = True := by simp only [eq_iff_iff, iff_true]; omega
  have hw1 : IntKind.u64.wrap (144 + c) = 144 + c := by simp [IntKind.wrap, IntKind.bits, IntKind.signed]; omega
  have hw2 : IntKind.u8.wrap (144 + c) = 144 + c := by simp [IntKind.wrap, IntKind.bits, IntKind.signed]; omega
  have hcx : (144 : Int) + c = (((UInt8.ofNat (144 + c.toNat)).toNat : Nat) : Int) := by simp; omega
  obtain ⟨X, hX⟩ : ∃ X : ByteArray, (⟨#[UInt8.ofNat (144 + c.toNat)]⟩ : ByteArray) = X := ⟨_, rfl⟩
  rw [hX]
  have hXs : X.size ≤ 100000 := by rw [← hX]; show 1 ≤ 100000; omega
  have hcat : (⟨#[]⟩ : ByteArray) ++ X = X := by apply ByteArray.ext; simp
  have HC := Lib.hid hcat
  have HCX := Lib.hid hcx
  have HXX := Lib.hid hX
  clear hcat hpos hcx hX
  go_enter Try.func13, Try.ntmps13
  go_wp2_with fail
  refine (HM.out _).mono ?_
  rintro e w1 ⟨rfl, hb1⟩
  have E1 := Lib.hid ((blk_new w _ _).go hb1)
  obtain ⟨⟨e0, e1, e2, e3, e4⟩, ef⟩ := E1.out.ev
  have hbw1 := up_trans (up_alloc (Below.refl w.heap.size w) (.cells #[.int .i64 5, .bool y, .int .u64 m, .string t, .int .i64 c] 35)) hb1
  have A1 := Lib.hid (HA.out.keep (hbw1.block b HH.out.lt))
  have HB1 := Lib.hid hbw1
  clear hb1 ef k0 k1 k2 hbw1
  obtain ⟨⟨k0, q0⟩, ⟨k1, q1⟩, ⟨k2, q2⟩⟩ := at_three A1.out
  obtain ⟨w2, hw2'⟩ : ∃ w2, w1.alloc (.cells #[.int .u8 ((144 : Int) + c)] 5) = w2 := ⟨_, rfl⟩
  have hcv : (convert 60 9 (.slice (some ⟨w1.heap.size, 0, none⟩) 1 1)).run Try.prog (w1.alloc (.cells #[.int .u8 ((144 : Int) + c)] 5)) = .ok (.string X) w2 := by
    have h9 := ho_new w1 (UInt8.ofNat (144 + c.toNat)) ((144 : Int) + c) HCX.out
    rw [HXX.out, hw2'] at h9
    rw [hw2']
    exact h9
  have hb2 : Below w1.heap.size w1 w2 := hw2' ▸ up_alloc (Below.refl _ _) _
  have HB2 := Lib.hid (up_trans HB1.out hb2)
  have E2 := Lib.hid (E1.out.go hb2)
  have A2 := Lib.hid (A1.out.keep (hb2.block b (Nat.lt_of_lt_of_le HH.out.lt HB1.out.size)))
  obtain ⟨⟨e0', e1', e2', e3', e4'⟩, ef'⟩ := E2.out.ev
  obtain ⟨⟨k0', q0'⟩, ⟨k1', q1'⟩, ⟨k2', q2'⟩⟩ := at_three A2.out
  have HW2 := Lib.hid hw2'
  clear hb2 hw2'
  go_wp2
  refine wm_grow (k := 5) (c := c) (mp := false) (n := 0) (HH.out.go HB2.out) rfl E2.out rfl (by omega) (by omega) _ _ _ _ _ _ _ _ _ _ _ _ _ _ _ _ _ _ _ _ _ _ _ _ _ _ _ _ _ _ _ _ _ _ _ _ _ _ _ _ _ _ _ _ _ _ _ _ _ _ _ _ _ _ _ _ _ _ _ _ _ _ _ _ _ _ _ _ _ _ _ _ _ _ _ _ _ _ _ _ _ _ _ _ _ _ _ _ _ _ _ _ _ _ _ _ _ _ _ _ _ _ _ _ _ _ _ _ _ _ _ _ _ _ _ _ _ _ _ _ _ _ _ _ _ _ _ _ _ _ _ _ _ _ _ _ _ _ _ _ _ _ _ _ _ _ _ _ _ _ _ _ _ _ _ _ _ _ _ _ _ _ _ _ _ _ _ _ _ _ _ _ _ _ _ _ _ _ _ _ _ _ _ _ _ _ _ _ _ _ _ _ _ _ _ _ _ _ _ _ _ _ _ _ _ _ _ _ _ _ _ _ _ _ _ _ _ _ _ _ _ _ _ _ _ _ _ _ _ _ _ _ _ _ _ _ _ _ _ _ _ _ _ _ _ _ _ _ _ _ _ _ _ _ _ _ _ _ _ _ _ _ _ _ _ _ _ _ _ _ _ _ _ _ _ _ _ _ _ _ _ _ _ _ _ _ _ _ _ _ _ _ _ _ _ _ _ _ _ _ _ _ _ _ _ _ _ _ _ _ _ _ _ _ _ _ _ _ _ _ _ _ _ _ _ _ _ _ _ _ _ _ _ _ _ _ _ _ _ _ _ _ _ _ _ _ _ _ _ _ _ _ _ _ _ _ _ _ _ _ _ _ _ _ _ _ _  ?_
  intro a4 c4 w4 _ _ _ _ _ _ _ _ _ _ _ _ _ _ _ _  hWr hBl
  have HWr := Lib.hid hWr
  have HBl := Lib.hid hBl
  clear hWr hBl e0 e1 e2 e3 e4 k0 k1 k2 q0 q1 q2
  go_wp2
  go_ret2
  exact ⟨by rw [HC.out]; rfl, HWr.out, (HB2.out.mono hBw).bew.trans HBl.out⟩
end Go.Proofs.Ytonjdnahplphhaa
