/-
  CONTRACT of the document's own Writer, for MessagePack (written by tools/mkrefe.py): what it refuses.
-/
import Derived.Test.YtonjdnahplphhaaHRefPr
import Derived.Test.YtonjdnahplphhaaG0b
/-
  CONTRACT of the document's own Writer, for MessagePack (written by tools/mkrefe.py): what it refuses.
-/
namespace Go.Proofs.Ytonjdnahplphhaa
open Go.RowKit
open Go.Lib
theorem WmAt.same {M B b : Nat} {w w' : World} {s : List Bx} {dn : Bool} (h : WmAt M B w b s dn) (k : Below w.heap.size w w') : WmAt M B w' b s dn ∧ Bew B b w w' := ⟨h.go k, (k.mono h.low).bew⟩
set_option maxRecDepth 100000 in
set_option maxHeartbeats 4000000 in
/-- What is no part. -/
theorem wm_none {M B b : Nat} {w : World} {s : List Bx} {dn : Bool} (h : WmAt M B w b s dn) (e : Ev) (hm : ¬ mayE e) :
    Calls Try.prog 13 #[.pointer (some ⟨b, 0, none⟩), evV e] w fun q w' => q = .returned (.tuple #[.string ⟨#[]⟩, .int .i64 14]) ∧ WmAt M B w' b s dn ∧ Bew B b w w' := by
  obtain ⟨a, cp, hA, hS⟩ := h.cells
  have HM : Hid (∀ X, Calls Try.prog 16 #[evV e] (w.alloc X) fun r w' => r = .returned (.bool false) ∧ Below (w.alloc X).heap.size (w.alloc X) w') := Lib.hid fun X => by
    have := may_any e (w.alloc X)
    rwa [decide_eq_false hm] at this
  obtain ⟨k, y, m, t, c⟩ := e
  simp only [evV] at HM ⊢
  have HH := Lib.hid h
  have hA0 := (hA.alloc (by simp) (.cells #[.int .i64 k, .bool y, .int .u64 m, .string t, .int .i64 c] 35))
  obtain ⟨⟨k0, _⟩, ⟨k1, _⟩, ⟨k2, _⟩⟩ := at_three hA0
  generalize s.length = n' at *
  clear h hA hS hA0 hm
  go_enter Try.func13, Try.ntmps13
  go_wp2_with fail
  refine (HM.out _).mono ?_
  rintro e w1 ⟨rfl, hb1⟩
  have hbw1 := up_trans (up_alloc (Below.refl w.heap.size w) (.cells #[.int .i64 k, .bool y, .int .u64 m, .string t, .int .i64 c] 35)) hb1
  have HB1 := Lib.hid (HH.out.same hbw1)
  clear hb1 hbw1 k0 k1 k2
  go_wp2
  go_ret2
  exact ⟨rfl, HB1.out⟩
set_option maxRecDepth 100000 in
set_option maxHeartbeats 4000000 in
/-- Behind the end. -/
theorem wm_over {M B b : Nat} {w : World} {s : List Bx} (h : WmAt M B w b s true) (e : Ev) (hm : mayE e) :
    Calls Try.prog 13 #[.pointer (some ⟨b, 0, none⟩), evV e] w fun q w' => q = .returned (.tuple #[.string ⟨#[]⟩, .int .i64 14]) ∧ WmAt M B w' b s true ∧ Bew B b w w' := by
  obtain ⟨a, cp, hA, hS⟩ := h.cells
  have HM : Hid (∀ X, Calls Try.prog 16 #[evV e] (w.alloc X) fun r w' => r = .returned (.bool true) ∧ Below (w.alloc X).heap.size (w.alloc X) w') := Lib.hid fun X => by
    have := may_any e (w.alloc X)
    rwa [decide_eq_true hm] at this
  obtain ⟨k, y, m, t, c⟩ := e
  simp only [evV] at HM ⊢
  have HH := Lib.hid h
  have HA := Lib.hid hA
  have hA0 := (hA.alloc (by simp) (.cells #[.int .i64 k, .bool y, .int .u64 m, .string t, .int .i64 c] 35))
  obtain ⟨⟨k0, _⟩, ⟨k1, _⟩, ⟨k2, _⟩⟩ := at_three hA0
  generalize s.length = n' at *
  clear h hA hS hA0 hm
  go_enter Try.func13, Try.ntmps13
  go_wp2_with fail
  refine (HM.out _).mono ?_
  rintro e w1 ⟨rfl, hb1⟩
  have hbw1 := up_trans (up_alloc (Below.refl w.heap.size w) (.cells #[.int .i64 k, .bool y, .int .u64 m, .string t, .int .i64 c] 35)) hb1
  have A1 := Lib.hid (HA.out.keep (hbw1.block b HH.out.lt))
  have HB1 := Lib.hid (HH.out.same hbw1)
  clear hb1 hbw1 k0 k1 k2
  obtain ⟨⟨k0, _⟩, ⟨k1, _⟩, ⟨k2, _⟩⟩ := at_three A1.out
  go_wp2
  go_ret2
  exact ⟨rfl, HB1.out⟩
set_option maxRecDepth 100000 in
set_option maxHeartbeats 4000000 in
/-- An end of nothing. -/
theorem wm_end0 {M B b : Nat} {w : World} (h : WmAt M B w b [] false) (y : Bool) (m : Nat) (t : ByteArray) (c : Int) :
    Calls Try.prog 13 #[.pointer (some ⟨b, 0, none⟩), evV ⟨7, y, m, t, c⟩] w fun q w' => q = .returned (.tuple #[.string ⟨#[]⟩, .int .i64 14]) ∧ WmAt M B w' b [] false ∧ Bew B b w w' := by
  obtain ⟨a, cp, hA, hS⟩ := h.cells
  have HM : Hid (∀ X, Calls Try.prog 16 #[evV ⟨7, y, m, t, c⟩] (w.alloc X) fun r w' => r = .returned (.bool true) ∧ Below (w.alloc X).heap.size (w.alloc X) w') := Lib.hid fun X => by
    have := may_any ⟨7, y, m, t, c⟩ (w.alloc X)
    rwa [decide_eq_true (show mayE ⟨7, y, m, t, c⟩ from ⟨by simp, by simp, by simp⟩)] at this
  simp only [evV] at HM ⊢
  have HH := Lib.hid h
  have HA := Lib.hid hA
  have hA0 := (hA.alloc (by simp) (.cells #[.int .i64 7, .bool y, .int .u64 m, .string t, .int .i64 c] 35))
  obtain ⟨⟨k0, _⟩, ⟨k1, _⟩, ⟨k2, _⟩⟩ := at_three hA0
  simp only [List.length_nil] at k1 HA
  clear h hA hS hA0
  go_enter Try.func13, Try.ntmps13
  go_wp2_with fail
  refine (HM.out _).mono ?_
  rintro e w1 ⟨rfl, hb1⟩
  have E1 := Lib.hid ((blk_new w _ _).go hb1)
  obtain ⟨⟨e0, e1, e2, e3, e4⟩, ef⟩ := E1.out.ev
  have hbw1 := up_trans (up_alloc (Below.refl w.heap.size w) (.cells #[.int .i64 7, .bool y, .int .u64 m, .string t, .int .i64 c] 35)) hb1
  have A1 := Lib.hid (HA.out.keep (hbw1.block b HH.out.lt))
  have HB1 := Lib.hid (HH.out.same hbw1)
  clear hb1 hbw1 k0 k1 k2
  obtain ⟨⟨k0, _⟩, ⟨k1, _⟩, ⟨k2, _⟩⟩ := at_three A1.out
  go_wp2
  go_ret2
  exact ⟨rfl, HB1.out⟩
set_option maxRecDepth 100000 in
set_option maxHeartbeats 4000000 in
/-- An end between a key and its value. -/
theorem wm_odd {M B b : Nat} {w : World} {bc : Int} {bh : Nat} {r : List Bx} (h : WmAt M B w b ((⟨true, bc, bh⟩ : Bx) :: r) false) (y : Bool) (m : Nat) (t : ByteArray) (c : Int) (ho : bh % 2 = 1) :
    Calls Try.prog 13 #[.pointer (some ⟨b, 0, none⟩), evV ⟨7, y, m, t, c⟩] w fun q w' => q = .returned (.tuple #[.string ⟨#[]⟩, .int .i64 14]) ∧ WmAt M B w' b ((⟨true, bc, bh⟩ : Bx) :: r) false ∧ Bew B b w w' := by
  obtain ⟨a, cp, hA, hS⟩ := h.cells
  rw [show ((⟨true, bc, bh⟩ : Bx) :: r).length = r.length + 1 from rfl] at hA hS
  have HM : Hid (∀ X, Calls Try.prog 16 #[evV ⟨7, y, m, t, c⟩] (w.alloc X) fun r w' => r = .returned (.bool true) ∧ Below (w.alloc X).heap.size (w.alloc X) w') := Lib.hid fun X => by
    have := may_any ⟨7, y, m, t, c⟩ (w.alloc X)
    rwa [decide_eq_true (show mayE ⟨7, y, m, t, c⟩ from ⟨by simp, by simp, by simp⟩)] at this
  simp only [evV] at HM ⊢
  have HH := Lib.hid h
  have HS := Lib.hid hS
  have HA := Lib.hid hA
  obtain ⟨n', hn'⟩ : ∃ n', r.length = n' := ⟨_, rfl⟩
  have Hn := Lib.hid hn'
  have hn15 : n' ≤ 799 := by have := hS.deep; simp only [List.length_cons] at this; omega
  have hA0 := (hA.alloc (by simp) (.cells #[.int .i64 7, .bool y, .int .u64 m, .string t, .int .i64 c] 35))
  rw [hn'] at hA0
  obtain ⟨⟨k0, _⟩, ⟨k1, _⟩, ⟨k2, _⟩⟩ := at_three hA0
  have hbh := Nat.le_trans (hS.ok (⟨true, bc, bh⟩ : Bx) (by simp)).2 hS.most
  simp only at hbh
  have hbr : ((bh : Int) % 2 != 0) = true := by rw [bne_iff_ne]; omega
  have hn1 : ((n' : Int) + 1 == 0) = false := by rw [beq_eq_false_iff_ne]; omega
  clear h hA hS hA0 hn' ho
  go_enter Try.func13, Try.ntmps13
  go_wp2_with fail
  refine (HM.out _).mono ?_
  rintro e w1 ⟨rfl, hb1⟩
  have E1 := Lib.hid ((blk_new w _ _).go hb1)
  obtain ⟨⟨e0, e1, e2, e3, e4⟩, ef⟩ := E1.out.ev
  have hbw1 := up_trans (up_alloc (Below.refl w.heap.size w) (.cells #[.int .i64 7, .bool y, .int .u64 m, .string t, .int .i64 c] 35)) hb1
  have A1 := Lib.hid (HA.out.keep (hbw1.block b HH.out.lt))
  have HB1 := Lib.hid (HH.out.same hbw1)
  have D1 := Lib.hid (HS.out.go hbw1)
  rw [Hn.out] at A1
  have hbw2 := Lib.hid hbw1
  clear hb1 hbw1 k0 k1 k2
  obtain ⟨⟨k0, q0⟩, ⟨k1, q1⟩, ⟨k2, q2⟩⟩ := at_three A1.out
  obtain ⟨g, off, N, cap', hv, hNa, hNb, ⟨y0, y1, y2⟩, _⟩ := D1.out.last
  injection hv with hv1 hv2 hv3
  subst hv1
  rw [Hn.out] at y0 y1 y2
  simp only at y0 y1 y2
  clear hNa hNb hv2 hv3
  have HF : Hid (∀ x, WmAt M B (w1.alloc x) b ((⟨true, bc, bh⟩ : Bx) :: r) false ∧ Bew B b w (w1.alloc x)) := Lib.hid (fun x => HH.out.same (up_alloc hbw2.out x))
  go_wp2
  go_ret2
  exact ⟨rfl, HF.out _⟩
set_option maxRecDepth 100000 in
set_option maxHeartbeats 4000000 in
/-- An end of an array that has not so many parts as its count says. -/
theorem wm_shutA {M B b : Nat} {w : World} {bc : Int} {bh : Nat} {r : List Bx} (h : WmAt M B w b ((⟨false, bc, bh⟩ : Bx) :: r) false) (y : Bool) (m : Nat) (t : ByteArray) (c : Int) (hc : 0 ≤ bc) (hne : (bh : Int) ≠ bc) :
    Calls Try.prog 13 #[.pointer (some ⟨b, 0, none⟩), evV ⟨7, y, m, t, c⟩] w fun q w' => q = .returned (.tuple #[.string ⟨#[]⟩, .int .i64 14]) ∧ WmAt M B w' b ((⟨false, bc, bh⟩ : Bx) :: r) false ∧ Bew B b w w' := by
  obtain ⟨a, cp, hA, hS⟩ := h.cells
  rw [show ((⟨false, bc, bh⟩ : Bx) :: r).length = r.length + 1 from rfl] at hA hS
  have HM : Hid (∀ X, Calls Try.prog 16 #[evV ⟨7, y, m, t, c⟩] (w.alloc X) fun r w' => r = .returned (.bool true) ∧ Below (w.alloc X).heap.size (w.alloc X) w') := Lib.hid fun X => by
    have := may_any ⟨7, y, m, t, c⟩ (w.alloc X)
    rwa [decide_eq_true (show mayE ⟨7, y, m, t, c⟩ from ⟨by simp, by simp, by simp⟩)] at this
  simp only [evV] at HM ⊢
  have HH := Lib.hid h
  have HS := Lib.hid hS
  have HA := Lib.hid hA
  obtain ⟨n', hn'⟩ : ∃ n', r.length = n' := ⟨_, rfl⟩
  have Hn := Lib.hid hn'
  have hn15 : n' ≤ 799 := by have := hS.deep; simp only [List.length_cons] at this; omega
  have hA0 := (hA.alloc (by simp) (.cells #[.int .i64 7, .bool y, .int .u64 m, .string t, .int .i64 c] 35))
  rw [hn'] at hA0
  obtain ⟨⟨k0, _⟩, ⟨k1, _⟩, ⟨k2, _⟩⟩ := at_three hA0
  have hbh := Nat.le_trans (hS.ok (⟨false, bc, bh⟩ : Bx) (by simp)).2 hS.most
  simp only at hbh
  have hz : (0 ≤ bc) = True := by simp only [eq_iff_iff, iff_true]; omega
  have hw : ((bh : Int) != bc) = true := by rw [bne_iff_ne]; exact hne
  have hn1 : ((n' : Int) + 1 == 0) = false := by rw [beq_eq_false_iff_ne]; omega
  clear h hA hS hA0 hn' hc hne
  go_enter Try.func13, Try.ntmps13
  go_wp2_with fail
  refine (HM.out _).mono ?_
  rintro e w1 ⟨rfl, hb1⟩
  have E1 := Lib.hid ((blk_new w _ _).go hb1)
  obtain ⟨⟨e0, e1, e2, e3, e4⟩, ef⟩ := E1.out.ev
  have hbw1 := up_trans (up_alloc (Below.refl w.heap.size w) (.cells #[.int .i64 7, .bool y, .int .u64 m, .string t, .int .i64 c] 35)) hb1
  have A1 := Lib.hid (HA.out.keep (hbw1.block b HH.out.lt))
  have HB1 := Lib.hid (HH.out.same hbw1)
  have D1 := Lib.hid (HS.out.go hbw1)
  rw [Hn.out] at A1
  have hbw2 := Lib.hid hbw1
  clear hb1 hbw1 k0 k1 k2
  obtain ⟨⟨k0, q0⟩, ⟨k1, q1⟩, ⟨k2, q2⟩⟩ := at_three A1.out
  have kk0 : ∀ x, (w1.alloc x).cell? ⟨b, 0, none⟩ = some (.int .i64 3) := fun x => (at_three (A1.out.alloc (by simp) x)).1.1
  obtain ⟨g, off, N, cap', hv, hNa, hNb, ⟨y0, y1, y2⟩, _⟩ := D1.out.last
  injection hv with hv1 hv2 hv3
  subst hv1
  rw [Hn.out] at y0 y1 y2
  simp only at y0 y1 y2
  clear hNa hNb hv2 hv3
  have HF : Hid (∀ x, WmAt M B (w1.alloc x) b ((⟨false, bc, bh⟩ : Bx) :: r) false ∧ Bew B b w (w1.alloc x)) := Lib.hid (fun x => HH.out.same (up_alloc hbw2.out x))
  go_wp2
  go_ret2
  exact ⟨rfl, HF.out _⟩
set_option maxRecDepth 100000 in
set_option maxHeartbeats 4000000 in
/-- An end of a map that has not so many parts as its count says. -/
theorem wm_shutM {M B b : Nat} {w : World} {bc : Int} {bh : Nat} {r : List Bx} (h : WmAt M B w b ((⟨true, bc, bh⟩ : Bx) :: r) false) (y : Bool) (m : Nat) (t : ByteArray) (c : Int) (he : bh % 2 = 0) (hc : 0 ≤ bc ∧ bc ≤ 9223372036854775807) (hne : (bh : Int) ≠ 2 * bc) :
    Calls Try.prog 13 #[.pointer (some ⟨b, 0, none⟩), evV ⟨7, y, m, t, c⟩] w fun q w' => q = .returned (.tuple #[.string ⟨#[]⟩, .int .i64 14]) ∧ WmAt M B w' b ((⟨true, bc, bh⟩ : Bx) :: r) false ∧ Bew B b w w' := by
  obtain ⟨a, cp, hA, hS⟩ := h.cells
  rw [show ((⟨true, bc, bh⟩ : Bx) :: r).length = r.length + 1 from rfl] at hA hS
  have HM : Hid (∀ X, Calls Try.prog 16 #[evV ⟨7, y, m, t, c⟩] (w.alloc X) fun r w' => r = .returned (.bool true) ∧ Below (w.alloc X).heap.size (w.alloc X) w') := Lib.hid fun X => by
    have := may_any ⟨7, y, m, t, c⟩ (w.alloc X)
    rwa [decide_eq_true (show mayE ⟨7, y, m, t, c⟩ from ⟨by simp, by simp, by simp⟩)] at this
  simp only [evV] at HM ⊢
  have HH := Lib.hid h
  have HS := Lib.hid hS
  have HA := Lib.hid hA
  obtain ⟨n', hn'⟩ : ∃ n', r.length = n' := ⟨_, rfl⟩
  have Hn := Lib.hid hn'
  have hn15 : n' ≤ 799 := by have := hS.deep; simp only [List.length_cons] at this; omega
  have hA0 := (hA.alloc (by simp) (.cells #[.int .i64 7, .bool y, .int .u64 m, .string t, .int .i64 c] 35))
  rw [hn'] at hA0
  obtain ⟨⟨k0, _⟩, ⟨k1, _⟩, ⟨k2, _⟩⟩ := at_three hA0
  have hbh := Nat.le_trans (hS.ok (⟨true, bc, bh⟩ : Bx) (by simp)).2 hS.most
  simp only at hbh
  have hbr : ((bh : Int) % 2 != 0) = false := by rw [bne_eq_false_iff_eq]; omega
  have hz : (0 ≤ bc) = True := by simp only [eq_iff_iff, iff_true]; omega
  have hw : ((bh : Int) != RowKit.wrap64 (2 * bc)) = true := by rw [bne_iff_ne]; unfold RowKit.wrap64; omega
  have hn1 : ((n' : Int) + 1 == 0) = false := by rw [beq_eq_false_iff_ne]; omega
  clear h hA hS hA0 hn' he hc hne
  go_enter Try.func13, Try.ntmps13
  go_wp2_with fail
  refine (HM.out _).mono ?_
  rintro e w1 ⟨rfl, hb1⟩
  have E1 := Lib.hid ((blk_new w _ _).go hb1)
  obtain ⟨⟨e0, e1, e2, e3, e4⟩, ef⟩ := E1.out.ev
  have hbw1 := up_trans (up_alloc (Below.refl w.heap.size w) (.cells #[.int .i64 7, .bool y, .int .u64 m, .string t, .int .i64 c] 35)) hb1
  have A1 := Lib.hid (HA.out.keep (hbw1.block b HH.out.lt))
  have HB1 := Lib.hid (HH.out.same hbw1)
  have D1 := Lib.hid (HS.out.go hbw1)
  rw [Hn.out] at A1
  have hbw2 := Lib.hid hbw1
  clear hb1 hbw1 k0 k1 k2
  obtain ⟨⟨k0, q0⟩, ⟨k1, q1⟩, ⟨k2, q2⟩⟩ := at_three A1.out
  have kk0 : ∀ x, (w1.alloc x).cell? ⟨b, 0, none⟩ = some (.int .i64 3) := fun x => (at_three (A1.out.alloc (by simp) x)).1.1
  obtain ⟨g, off, N, cap', hv, hNa, hNb, ⟨y0, y1, y2⟩, _⟩ := D1.out.last
  injection hv with hv1 hv2 hv3
  subst hv1
  rw [Hn.out] at y0 y1 y2
  simp only at y0 y1 y2
  clear hNa hNb hv2 hv3
  have HF : Hid (∀ x, WmAt M B (w1.alloc x) b ((⟨true, bc, bh⟩ : Bx) :: r) false ∧ Bew B b w (w1.alloc x)) := Lib.hid (fun x => HH.out.same (up_alloc hbw2.out x))
  go_wp2
  go_ret2
  exact ⟨rfl, HF.out _⟩
set_option maxRecDepth 100000 in
set_option maxHeartbeats 4000000 in
/-- A part more than an array takes. -/
theorem wm_fullA {M B b : Nat} {w : World} {bc : Int} {bh : Nat} {r : List Bx} (h : WmAt M B w b ((⟨false, bc, bh⟩ : Bx) :: r) false) (e : Ev) (hm : mayE e) (h7 : e.k ≠ 7) (hc : 0 ≤ bc) (ho : bc ≤ (bh : Int)) :
    Calls Try.prog 13 #[.pointer (some ⟨b, 0, none⟩), evV e] w fun q w' => q = .returned (.tuple #[.string ⟨#[]⟩, .int .i64 14]) ∧ WmAt M B w' b ((⟨false, bc, bh⟩ : Bx) :: r) false ∧ Bew B b w w' := by
  obtain ⟨a, cp, hA, hS⟩ := h.cells
  rw [show ((⟨false, bc, bh⟩ : Bx) :: r).length = r.length + 1 from rfl] at hA hS
  have HM : Hid (∀ X, Calls Try.prog 16 #[evV e] (w.alloc X) fun r w' => r = .returned (.bool true) ∧ Below (w.alloc X).heap.size (w.alloc X) w') := Lib.hid fun X => by
    have := may_any e (w.alloc X)
    rwa [decide_eq_true hm] at this
  obtain ⟨k, y, m, t, c⟩ := e
  simp only [evV] at HM h7 ⊢
  have n7 : (k == 7) = false := by rw [beq_eq_false_iff_ne]; exact h7
  have HH := Lib.hid h
  have HS := Lib.hid hS
  have HA := Lib.hid hA
  obtain ⟨n', hn'⟩ : ∃ n', r.length = n' := ⟨_, rfl⟩
  have Hn := Lib.hid hn'
  have hn15 : n' ≤ 799 := by have := hS.deep; simp only [List.length_cons] at this; omega
  have hA0 := (hA.alloc (by simp) (.cells #[.int .i64 k, .bool y, .int .u64 m, .string t, .int .i64 c] 35))
  rw [hn'] at hA0
  obtain ⟨⟨k0, _⟩, ⟨k1, _⟩, ⟨k2, _⟩⟩ := at_three hA0
  have hbh := Nat.le_trans (hS.ok (⟨false, bc, bh⟩ : Bx) (by simp)).2 hS.most
  simp only at hbh
  have hz : (0 ≤ bc) = True := by simp only [eq_iff_iff, iff_true]; omega
  have hg : (bc ≤ 2305843009213693952) = True := by simp only [eq_iff_iff, iff_true]; omega
  have hl : (bc ≤ (bh : Int)) = True := by simp only [eq_iff_iff, iff_true]; omega
  have hn1 : ((n' : Int) + 1 == 0) = false := by rw [beq_eq_false_iff_ne]; omega
  have hn2 : ((0 : Int) < (n' : Int) + 1) = True := by rw [eq_iff_iff, iff_true]; omega
  clear h hA hS hA0 hn' hc ho hm h7
  go_enter Try.func13, Try.ntmps13
  go_wp2_with fail
  refine (HM.out _).mono ?_
  rintro e w1 ⟨rfl, hb1⟩
  have E1 := Lib.hid ((blk_new w _ _).go hb1)
  obtain ⟨⟨e0, e1, e2, e3, e4⟩, ef⟩ := E1.out.ev
  have hbw1 := up_trans (up_alloc (Below.refl w.heap.size w) (.cells #[.int .i64 k, .bool y, .int .u64 m, .string t, .int .i64 c] 35)) hb1
  have A1 := Lib.hid (HA.out.keep (hbw1.block b HH.out.lt))
  have D1 := Lib.hid (HS.out.go hbw1)
  rw [Hn.out] at A1
  have hbw2 := Lib.hid hbw1
  have ee0 : ∀ x, (w1.alloc x).cell? ⟨w.heap.size, 0, none⟩ = some (.int .i64 k) := fun x => (E1.out.alloc x).cell 0
  clear hb1 hbw1 k0 k1 k2
  obtain ⟨⟨k0, q0⟩, ⟨k1, q1⟩, ⟨k2, q2⟩⟩ := at_three A1.out
  have kk0 : ∀ x, (w1.alloc x).cell? ⟨b, 0, none⟩ = some (.int .i64 3) := fun x => (at_three (A1.out.alloc (by simp) x)).1.1
  obtain ⟨g, off, N, cap', hv, hNa, hNb, ⟨y0, y1, y2⟩, _⟩ := D1.out.last
  injection hv with hv1 hv2 hv3
  subst hv1
  rw [Hn.out] at y0 y1 y2
  simp only at y0 y1 y2
  clear hNa hNb hv2 hv3
  have HF : Hid (∀ x, WmAt M B (w1.alloc x) b ((⟨false, bc, bh⟩ : Bx) :: r) false ∧ Bew B b w (w1.alloc x)) := Lib.hid (fun x => HH.out.same (up_alloc hbw2.out x))
  go_wp2
  go_ret2
  exact ⟨rfl, HF.out _⟩
set_option maxRecDepth 100000 in
set_option maxHeartbeats 4000000 in
/-- A part more than a map takes. -/
theorem wm_fullM {M B b : Nat} {w : World} {bc : Int} {bh : Nat} {r : List Bx} (h : WmAt M B w b ((⟨true, bc, bh⟩ : Bx) :: r) false) (e : Ev) (hm : mayE e) (h7 : e.k ≠ 7) (hc : 0 ≤ bc) (ho : 2 * bc ≤ (bh : Int)) :
    Calls Try.prog 13 #[.pointer (some ⟨b, 0, none⟩), evV e] w fun q w' => q = .returned (.tuple #[.string ⟨#[]⟩, .int .i64 14]) ∧ WmAt M B w' b ((⟨true, bc, bh⟩ : Bx) :: r) false ∧ Bew B b w w' := by
  obtain ⟨a, cp, hA, hS⟩ := h.cells
  rw [show ((⟨true, bc, bh⟩ : Bx) :: r).length = r.length + 1 from rfl] at hA hS
  have HM : Hid (∀ X, Calls Try.prog 16 #[evV e] (w.alloc X) fun r w' => r = .returned (.bool true) ∧ Below (w.alloc X).heap.size (w.alloc X) w') := Lib.hid fun X => by
    have := may_any e (w.alloc X)
    rwa [decide_eq_true hm] at this
  obtain ⟨k, y, m, t, c⟩ := e
  simp only [evV] at HM h7 ⊢
  have n7 : (k == 7) = false := by rw [beq_eq_false_iff_ne]; exact h7
  have HH := Lib.hid h
  have HS := Lib.hid hS
  have HA := Lib.hid hA
  obtain ⟨n', hn'⟩ : ∃ n', r.length = n' := ⟨_, rfl⟩
  have Hn := Lib.hid hn'
  have hn15 : n' ≤ 799 := by have := hS.deep; simp only [List.length_cons] at this; omega
  have hA0 := (hA.alloc (by simp) (.cells #[.int .i64 k, .bool y, .int .u64 m, .string t, .int .i64 c] 35))
  rw [hn'] at hA0
  obtain ⟨⟨k0, _⟩, ⟨k1, _⟩, ⟨k2, _⟩⟩ := at_three hA0
  have hbh := Nat.le_trans (hS.ok (⟨true, bc, bh⟩ : Bx) (by simp)).2 hS.most
  simp only at hbh
  have hz : (0 ≤ bc) = True := by simp only [eq_iff_iff, iff_true]; omega
  have hg : (bc ≤ 2305843009213693952) = True := by simp only [eq_iff_iff, iff_true]; omega
  have hl : (RowKit.wrap64 (2 * bc) ≤ (bh : Int)) = True := by rw [show RowKit.wrap64 (2 * bc) = 2 * bc by unfold RowKit.wrap64; omega]; simp only [eq_iff_iff, iff_true]; omega
  have hn1 : ((n' : Int) + 1 == 0) = false := by rw [beq_eq_false_iff_ne]; omega
  have hn2 : ((0 : Int) < (n' : Int) + 1) = True := by rw [eq_iff_iff, iff_true]; omega
  clear h hA hS hA0 hn' hc ho hm h7
  go_enter Try.func13, Try.ntmps13
  go_wp2_with fail
  refine (HM.out _).mono ?_
  rintro e w1 ⟨rfl, hb1⟩
  have E1 := Lib.hid ((blk_new w _ _).go hb1)
  obtain ⟨⟨e0, e1, e2, e3, e4⟩, ef⟩ := E1.out.ev
  have hbw1 := up_trans (up_alloc (Below.refl w.heap.size w) (.cells #[.int .i64 k, .bool y, .int .u64 m, .string t, .int .i64 c] 35)) hb1
  have A1 := Lib.hid (HA.out.keep (hbw1.block b HH.out.lt))
  have D1 := Lib.hid (HS.out.go hbw1)
  rw [Hn.out] at A1
  have hbw2 := Lib.hid hbw1
  have ee0 : ∀ x, (w1.alloc x).cell? ⟨w.heap.size, 0, none⟩ = some (.int .i64 k) := fun x => (E1.out.alloc x).cell 0
  clear hb1 hbw1 k0 k1 k2
  obtain ⟨⟨k0, q0⟩, ⟨k1, q1⟩, ⟨k2, q2⟩⟩ := at_three A1.out
  have kk0 : ∀ x, (w1.alloc x).cell? ⟨b, 0, none⟩ = some (.int .i64 3) := fun x => (at_three (A1.out.alloc (by simp) x)).1.1
  obtain ⟨g, off, N, cap', hv, hNa, hNb, ⟨y0, y1, y2⟩, _⟩ := D1.out.last
  injection hv with hv1 hv2 hv3
  subst hv1
  rw [Hn.out] at y0 y1 y2
  simp only at y0 y1 y2
  clear hNa hNb hv2 hv3
  have HF : Hid (∀ x, WmAt M B (w1.alloc x) b ((⟨true, bc, bh⟩ : Bx) :: r) false ∧ Bew B b w (w1.alloc x)) := Lib.hid (fun x => HH.out.same (up_alloc hbw2.out x))
  go_wp2
  go_ret2
  exact ⟨rfl, HF.out _⟩
set_option maxRecDepth 100000 in
set_option maxHeartbeats 4000000 in
/-- At a key's place what is no text; of no known count. -/
theorem wm_nokeyN {M B b : Nat} {w : World} {bc : Int} {bh : Nat} {r : List Bx} (h : WmAt M B w b ((⟨true, bc, bh⟩ : Bx) :: r) false) (e : Ev) (hm : mayE e) (h7 : e.k ≠ 7) (h3 : e.k ≠ 3) (ho : bh % 2 = 0) (hc : bc < 0) :
    Calls Try.prog 13 #[.pointer (some ⟨b, 0, none⟩), evV e] w fun q w' => q = .returned (.tuple #[.string ⟨#[]⟩, .int .i64 8]) ∧ WmAt M B w' b ((⟨true, bc, bh⟩ : Bx) :: r) false ∧ Bew B b w w' := by
  obtain ⟨a, cp, hA, hS⟩ := h.cells
  rw [show ((⟨true, bc, bh⟩ : Bx) :: r).length = r.length + 1 from rfl] at hA hS
  have HM : Hid (∀ X, Calls Try.prog 16 #[evV e] (w.alloc X) fun r w' => r = .returned (.bool true) ∧ Below (w.alloc X).heap.size (w.alloc X) w') := Lib.hid fun X => by
    have := may_any e (w.alloc X)
    rwa [decide_eq_true hm] at this
  obtain ⟨k, y, m, t, c⟩ := e
  simp only [evV] at HM h7 h3 ⊢
  have n7 : (k == 7) = false := by rw [beq_eq_false_iff_ne]; exact h7
  have n3 : (k != 3) = true := by rw [bne_iff_ne]; exact h3
  have HH := Lib.hid h
  have HS := Lib.hid hS
  have HA := Lib.hid hA
  obtain ⟨n', hn'⟩ : ∃ n', r.length = n' := ⟨_, rfl⟩
  have Hn := Lib.hid hn'
  have hn15 : n' ≤ 799 := by have := hS.deep; simp only [List.length_cons] at this; omega
  have hA0 := (hA.alloc (by simp) (.cells #[.int .i64 k, .bool y, .int .u64 m, .string t, .int .i64 c] 35))
  rw [hn'] at hA0
  obtain ⟨⟨k0, _⟩, ⟨k1, _⟩, ⟨k2, _⟩⟩ := at_three hA0
  have hbh := Nat.le_trans (hS.ok (⟨true, bc, bh⟩ : Bx) (by simp)).2 hS.most
  simp only at hbh
  have hbr : ((bh : Int) % 2 == 0) = true := by rw [beq_iff_eq]; omega
  have hz : (0 ≤ bc) = False := by simp only [eq_iff_iff, iff_false]; omega
  have hn1 : ((n' : Int) + 1 == 0) = false := by rw [beq_eq_false_iff_ne]; omega
  have hn2 : ((0 : Int) < (n' : Int) + 1) = True := by rw [eq_iff_iff, iff_true]; omega
  clear h hA hS hA0 hn' ho hc hm h7 h3
  go_enter Try.func13, Try.ntmps13
  go_wp2_with fail
  refine (HM.out _).mono ?_
  rintro e w1 ⟨rfl, hb1⟩
  have E1 := Lib.hid ((blk_new w _ _).go hb1)
  obtain ⟨⟨e0, e1, e2, e3, e4⟩, ef⟩ := E1.out.ev
  have hbw1 := up_trans (up_alloc (Below.refl w.heap.size w) (.cells #[.int .i64 k, .bool y, .int .u64 m, .string t, .int .i64 c] 35)) hb1
  have A1 := Lib.hid (HA.out.keep (hbw1.block b HH.out.lt))
  have D1 := Lib.hid (HS.out.go hbw1)
  rw [Hn.out] at A1
  have hbw2 := Lib.hid hbw1
  have ee0 : ∀ x, (w1.alloc x).cell? ⟨w.heap.size, 0, none⟩ = some (.int .i64 k) := fun x => (E1.out.alloc x).cell 0
  clear hb1 hbw1 k0 k1 k2
  obtain ⟨⟨k0, q0⟩, ⟨k1, q1⟩, ⟨k2, q2⟩⟩ := at_three A1.out
  have kk0 : ∀ x, (w1.alloc x).cell? ⟨b, 0, none⟩ = some (.int .i64 3) := fun x => (at_three (A1.out.alloc (by simp) x)).1.1
  obtain ⟨g, off, N, cap', hv, hNa, hNb, ⟨y0, y1, y2⟩, _⟩ := D1.out.last
  injection hv with hv1 hv2 hv3
  subst hv1
  rw [Hn.out] at y0 y1 y2
  simp only at y0 y1 y2
  clear hNa hNb hv2 hv3
  have HF : Hid (∀ x, WmAt M B (w1.alloc x) b ((⟨true, bc, bh⟩ : Bx) :: r) false ∧ Bew B b w (w1.alloc x)) := Lib.hid (fun x => HH.out.same (up_alloc hbw2.out x))
  go_wp2
  go_ret2
  exact ⟨rfl, HF.out _⟩
set_option maxRecDepth 100000 in
set_option maxHeartbeats 4000000 in
/-- At a key's place what is no text; of a count. -/
theorem wm_nokeyC {M B b : Nat} {w : World} {bc : Int} {bh : Nat} {r : List Bx} (h : WmAt M B w b ((⟨true, bc, bh⟩ : Bx) :: r) false) (e : Ev) (hm : mayE e) (h7 : e.k ≠ 7) (h3 : e.k ≠ 3) (ho : bh % 2 = 0) (hc : 0 ≤ bc) (hcc : bc ≤ 2305843009213693952) (hlim : (bh : Int) < 2 * bc) :
    Calls Try.prog 13 #[.pointer (some ⟨b, 0, none⟩), evV e] w fun q w' => q = .returned (.tuple #[.string ⟨#[]⟩, .int .i64 8]) ∧ WmAt M B w' b ((⟨true, bc, bh⟩ : Bx) :: r) false ∧ Bew B b w w' := by
  obtain ⟨a, cp, hA, hS⟩ := h.cells
  rw [show ((⟨true, bc, bh⟩ : Bx) :: r).length = r.length + 1 from rfl] at hA hS
  have HM : Hid (∀ X, Calls Try.prog 16 #[evV e] (w.alloc X) fun r w' => r = .returned (.bool true) ∧ Below (w.alloc X).heap.size (w.alloc X) w') := Lib.hid fun X => by
    have := may_any e (w.alloc X)
    rwa [decide_eq_true hm] at this
  obtain ⟨k, y, m, t, c⟩ := e
  simp only [evV] at HM h7 h3 ⊢
  have n7 : (k == 7) = false := by rw [beq_eq_false_iff_ne]; exact h7
  have n3 : (k != 3) = true := by rw [bne_iff_ne]; exact h3
  have HH := Lib.hid h
  have HS := Lib.hid hS
  have HA := Lib.hid hA
  obtain ⟨n', hn'⟩ : ∃ n', r.length = n' := ⟨_, rfl⟩
  have Hn := Lib.hid hn'
  have hn15 : n' ≤ 799 := by have := hS.deep; simp only [List.length_cons] at this; omega
  have hA0 := (hA.alloc (by simp) (.cells #[.int .i64 k, .bool y, .int .u64 m, .string t, .int .i64 c] 35))
  rw [hn'] at hA0
  obtain ⟨⟨k0, _⟩, ⟨k1, _⟩, ⟨k2, _⟩⟩ := at_three hA0
  have hbh := Nat.le_trans (hS.ok (⟨true, bc, bh⟩ : Bx) (by simp)).2 hS.most
  simp only at hbh
  have hbr : ((bh : Int) % 2 == 0) = true := by rw [beq_iff_eq]; omega
  have hz : (0 ≤ bc) = True := by simp only [eq_iff_iff, iff_true]; omega
  have hg : (bc ≤ 2305843009213693952) = True := by simp only [eq_iff_iff, iff_true]; omega
  have hl : (RowKit.wrap64 (2 * bc) ≤ (bh : Int)) = False := by rw [show RowKit.wrap64 (2 * bc) = 2 * bc by unfold RowKit.wrap64; omega]; simp only [eq_iff_iff, iff_false]; omega
  have hn1 : ((n' : Int) + 1 == 0) = false := by rw [beq_eq_false_iff_ne]; omega
  have hn2 : ((0 : Int) < (n' : Int) + 1) = True := by rw [eq_iff_iff, iff_true]; omega
  clear h hA hS hA0 hn' ho hc hcc hlim hm h7 h3
  go_enter Try.func13, Try.ntmps13
  go_wp2_with fail
  refine (HM.out _).mono ?_
  rintro e w1 ⟨rfl, hb1⟩
  have E1 := Lib.hid ((blk_new w _ _).go hb1)
  obtain ⟨⟨e0, e1, e2, e3, e4⟩, ef⟩ := E1.out.ev
  have hbw1 := up_trans (up_alloc (Below.refl w.heap.size w) (.cells #[.int .i64 k, .bool y, .int .u64 m, .string t, .int .i64 c] 35)) hb1
  have A1 := Lib.hid (HA.out.keep (hbw1.block b HH.out.lt))
  have D1 := Lib.hid (HS.out.go hbw1)
  rw [Hn.out] at A1
  have hbw2 := Lib.hid hbw1
  have ee0 : ∀ x, (w1.alloc x).cell? ⟨w.heap.size, 0, none⟩ = some (.int .i64 k) := fun x => (E1.out.alloc x).cell 0
  clear hb1 hbw1 k0 k1 k2
  obtain ⟨⟨k0, q0⟩, ⟨k1, q1⟩, ⟨k2, q2⟩⟩ := at_three A1.out
  have kk0 : ∀ x, (w1.alloc x).cell? ⟨b, 0, none⟩ = some (.int .i64 3) := fun x => (at_three (A1.out.alloc (by simp) x)).1.1
  obtain ⟨g, off, N, cap', hv, hNa, hNb, ⟨y0, y1, y2⟩, _⟩ := D1.out.last
  injection hv with hv1 hv2 hv3
  subst hv1
  rw [Hn.out] at y0 y1 y2
  simp only at y0 y1 y2
  clear hNa hNb hv2 hv3
  have HF : Hid (∀ x, WmAt M B (w1.alloc x) b ((⟨true, bc, bh⟩ : Bx) :: r) false ∧ Bew B b w (w1.alloc x)) := Lib.hid (fun x => HH.out.same (up_alloc hbw2.out x))
  go_wp2
  go_ret2
  exact ⟨rfl, HF.out _⟩
set_option maxRecDepth 100000 in
set_option maxHeartbeats 4000000 in
/-- At a key's place what is no text; of a count greater than can be. -/
theorem wm_nokeyG {M B b : Nat} {w : World} {bc : Int} {bh : Nat} {r : List Bx} (h : WmAt M B w b ((⟨true, bc, bh⟩ : Bx) :: r) false) (e : Ev) (hm : mayE e) (h7 : e.k ≠ 7) (h3 : e.k ≠ 3) (ho : bh % 2 = 0) (hcc : 2305843009213693952 < bc) :
    Calls Try.prog 13 #[.pointer (some ⟨b, 0, none⟩), evV e] w fun q w' => q = .returned (.tuple #[.string ⟨#[]⟩, .int .i64 8]) ∧ WmAt M B w' b ((⟨true, bc, bh⟩ : Bx) :: r) false ∧ Bew B b w w' := by
  obtain ⟨a, cp, hA, hS⟩ := h.cells
  rw [show ((⟨true, bc, bh⟩ : Bx) :: r).length = r.length + 1 from rfl] at hA hS
  have HM : Hid (∀ X, Calls Try.prog 16 #[evV e] (w.alloc X) fun r w' => r = .returned (.bool true) ∧ Below (w.alloc X).heap.size (w.alloc X) w') := Lib.hid fun X => by
    have := may_any e (w.alloc X)
    rwa [decide_eq_true hm] at this
  obtain ⟨k, y, m, t, c⟩ := e
  simp only [evV] at HM h7 h3 ⊢
  have n7 : (k == 7) = false := by rw [beq_eq_false_iff_ne]; exact h7
  have n3 : (k != 3) = true := by rw [bne_iff_ne]; exact h3
  have HH := Lib.hid h
  have HS := Lib.hid hS
  have HA := Lib.hid hA
  obtain ⟨n', hn'⟩ : ∃ n', r.length = n' := ⟨_, rfl⟩
  have Hn := Lib.hid hn'
  have hn15 : n' ≤ 799 := by have := hS.deep; simp only [List.length_cons] at this; omega
  have hA0 := (hA.alloc (by simp) (.cells #[.int .i64 k, .bool y, .int .u64 m, .string t, .int .i64 c] 35))
  rw [hn'] at hA0
  obtain ⟨⟨k0, _⟩, ⟨k1, _⟩, ⟨k2, _⟩⟩ := at_three hA0
  have hbh := Nat.le_trans (hS.ok (⟨true, bc, bh⟩ : Bx) (by simp)).2 hS.most
  simp only at hbh
  have hbr : ((bh : Int) % 2 == 0) = true := by rw [beq_iff_eq]; omega
  have hz : (0 ≤ bc) = True := by simp only [eq_iff_iff, iff_true]; omega
  have hg : (bc ≤ 2305843009213693952) = False := by simp only [eq_iff_iff, iff_false]; omega
  have hn1 : ((n' : Int) + 1 == 0) = false := by rw [beq_eq_false_iff_ne]; omega
  have hn2 : ((0 : Int) < (n' : Int) + 1) = True := by rw [eq_iff_iff, iff_true]; omega
  clear h hA hS hA0 hn' ho hcc hm h7 h3
  go_enter Try.func13, Try.ntmps13
  go_wp2_with fail
  refine (HM.out _).mono ?_
  rintro e w1 ⟨rfl, hb1⟩
  have E1 := Lib.hid ((blk_new w _ _).go hb1)
  obtain ⟨⟨e0, e1, e2, e3, e4⟩, ef⟩ := E1.out.ev
  have hbw1 := up_trans (up_alloc (Below.refl w.heap.size w) (.cells #[.int .i64 k, .bool y, .int .u64 m, .string t, .int .i64 c] 35)) hb1
  have A1 := Lib.hid (HA.out.keep (hbw1.block b HH.out.lt))
  have D1 := Lib.hid (HS.out.go hbw1)
  rw [Hn.out] at A1
  have hbw2 := Lib.hid hbw1
  have ee0 : ∀ x, (w1.alloc x).cell? ⟨w.heap.size, 0, none⟩ = some (.int .i64 k) := fun x => (E1.out.alloc x).cell 0
  clear hb1 hbw1 k0 k1 k2
  obtain ⟨⟨k0, q0⟩, ⟨k1, q1⟩, ⟨k2, q2⟩⟩ := at_three A1.out
  have kk0 : ∀ x, (w1.alloc x).cell? ⟨b, 0, none⟩ = some (.int .i64 3) := fun x => (at_three (A1.out.alloc (by simp) x)).1.1
  obtain ⟨g, off, N, cap', hv, hNa, hNb, ⟨y0, y1, y2⟩, _⟩ := D1.out.last
  injection hv with hv1 hv2 hv3
  subst hv1
  rw [Hn.out] at y0 y1 y2
  simp only at y0 y1 y2
  clear hNa hNb hv2 hv3
  have HF : Hid (∀ x, WmAt M B (w1.alloc x) b ((⟨true, bc, bh⟩ : Bx) :: r) false ∧ Bew B b w (w1.alloc x)) := Lib.hid (fun x => HH.out.same (up_alloc hbw2.out x))
  go_wp2
  go_ret2
  exact ⟨rfl, HF.out _⟩
end Go.Proofs.Ytonjdnahplphhaa
