/-
  CONTRACT of the document's own Writer, for MessagePack: a container whose count it cannot hold, within another (written by tools/mkrefx.py).
-/
import Derived.Test.YtonjdnahplphhaaHRefPe
import Derived.Test.YtonjdnahplphhaaG0c
/-
  CONTRACT of the document's own Writer, for MessagePack: a container whose count it cannot hold, within another (written by tools/mkrefx.py).
-/
namespace Go.Proofs.Ytonjdnahplphhaa
open Go.RowKit
open Go.Lib
set_option maxRecDepth 100000 in
set_option maxHeartbeats 8000000 in
theorem wm_rangeA_5n {M B b : Nat} {w : World} {bc : Int} {bh : Nat} {r : List Bx} (h : WmAt M B w b ((⟨false, bc, bh⟩ : Bx) :: r) false) (y : Bool) (m : Nat) (t : ByteArray) (c : Int) (hneg : c < 0) (hc1 : -1 ≤ c) (hc : 0 ≤ bc) (hcc : bc ≤ 2305843009213693952) (hlim : (bh : Int) < bc) :
    Calls Try.prog 13 #[.pointer (some ⟨b, 0, none⟩), evV ⟨5, y, m, t, c⟩] w fun q w' => q = .returned (.tuple #[.string ⟨#[]⟩, .int .i64 7]) ∧ WmAt M B w' b ((⟨false, bc, bh⟩ : Bx) :: r) false ∧ Bew B b w w' := by
  obtain ⟨a, cp, hA, hS⟩ := h.cells
  rw [show ((⟨false, bc, bh⟩ : Bx) :: r).length = r.length + 1 from rfl] at hA hS
  have HM : Hid (∀ X, Calls Try.prog 16 #[evV ⟨5, y, m, t, c⟩] (w.alloc X) fun r w' => r = .returned (.bool true) ∧ Below (w.alloc X).heap.size (w.alloc X) w') := Lib.hid fun X => by
    have := may_any ⟨5, y, m, t, c⟩ (w.alloc X)
    rwa [decide_eq_true (show mayE ⟨5, y, m, t, c⟩ from ⟨by simp, by simp, fun _ => by simp only; omega⟩)] at this
  simp only [evV] at HM ⊢
  have HH := Lib.hid h
  have HS := Lib.hid hS
  have HA := Lib.hid hA
  obtain ⟨n', hn'⟩ : ∃ n', r.length = n' := ⟨_, rfl⟩
  have Hn := Lib.hid hn'
  have hn15 : n' ≤ 799 := by have := hS.deep; simp only [List.length_cons] at this; omega
  have hA0 := (hA.alloc (by simp) (.cells #[.int .i64 5, .bool y, .int .u64 m, .string t, .int .i64 c] 35))
  rw [hn'] at hA0
  obtain ⟨⟨k0, _⟩, ⟨k1, _⟩, ⟨k2, _⟩⟩ := at_three hA0
  have hbh := Nat.le_trans (hS.ok (⟨false, bc, bh⟩ : Bx) (by simp)).2 hS.most
  simp only at hbh
  have hz : (0 ≤ bc) = True := by simp only [eq_iff_iff, iff_true]; omega
  have hg : (bc ≤ 2305843009213693952) = True := by simp only [eq_iff_iff, iff_true]; omega
  have hl : (bc ≤ (bh : Int)) = False := by simp only [eq_iff_iff, iff_false]; omega
  have hzn : (c < 0) = True := by simp only [eq_iff_iff, iff_true]; omega
  have hn1 : ((n' : Int) + 1 == 0) = false := by rw [beq_eq_false_iff_ne]; omega
  have hn2 : ((0 : Int) < (n' : Int) + 1) = True := by rw [eq_iff_iff, iff_true]; omega
  clear h hA hS hA0 hn' hc hcc hlim hneg hc1
  go_enter Try.func13, Try.ntmps13
  go_wp2_with fail
  refine (HM.out _).mono ?_
  rintro e w1 ⟨rfl, hb1⟩
  have E1 := Lib.hid ((blk_new w _ _).go hb1)
  obtain ⟨⟨e0, e1, e2, e3, e4⟩, ef⟩ := E1.out.ev
  have hbw1 := up_trans (up_alloc (Below.refl w.heap.size w) (.cells #[.int .i64 5, .bool y, .int .u64 m, .string t, .int .i64 c] 35)) hb1
  have A1 := Lib.hid (HA.out.keep (hbw1.block b HH.out.lt))
  have D1 := Lib.hid (HS.out.go hbw1)
  rw [Hn.out] at A1
  have hbw2 := Lib.hid hbw1
  have ee0 : ∀ x, (w1.alloc x).cell? ⟨w.heap.size, 0, none⟩ = some (.int .i64 5) := fun x => (E1.out.alloc x).cell 0
  have ee4 : ∀ x, (w1.alloc x).cell? ⟨w.heap.size, 4, none⟩ = some (.int .i64 c) := fun x => (E1.out.alloc x).cell 4
  clear hb1 hbw1 k0 k1 k2
  obtain ⟨⟨k0, q0⟩, ⟨k1, q1⟩, ⟨k2, q2⟩⟩ := at_three A1.out
  have kk0 : ∀ x, (w1.alloc x).cell? ⟨b, 0, none⟩ = some (.int .i64 3) := fun x => (at_three (A1.out.alloc (by simp) x)).1.1
  obtain ⟨g, off, N, cap', hv, hNa, hNb, ⟨y0, y1, y2⟩, _⟩ := D1.out.last
  injection hv with hv1 hv2 hv3
  subst hv1
  rw [Hn.out] at y0 y1 y2
  simp only at y0 y1 y2
  clear hNa hNb hv2 hv3
  have HF : Hid (∀ x, WmAt M B (w1.alloc x) b ((⟨false, bc, bh⟩ : Bx) :: r) false ∧ Bew B b w (w1.alloc x)) := Lib.hid (fun x => HH.out.same (up_alloc hbw2.out x))
  go_wp2
  go_ret2
  exact ⟨rfl, HF.out _⟩
set_option maxRecDepth 100000 in
set_option maxHeartbeats 8000000 in
theorem wm_rangeA_5g {M B b : Nat} {w : World} {bc : Int} {bh : Nat} {r : List Bx} (h : WmAt M B w b ((⟨false, bc, bh⟩ : Bx) :: r) false) (y : Bool) (m : Nat) (t : ByteArray) (c : Int) (hgr : 4294967295 < c) (hc1 : c ≤ 9223372036854775807) (hc : 0 ≤ bc) (hcc : bc ≤ 2305843009213693952) (hlim : (bh : Int) < bc) :
    Calls Try.prog 13 #[.pointer (some ⟨b, 0, none⟩), evV ⟨5, y, m, t, c⟩] w fun q w' => q = .returned (.tuple #[.string ⟨#[]⟩, .int .i64 7]) ∧ WmAt M B w' b ((⟨false, bc, bh⟩ : Bx) :: r) false ∧ Bew B b w w' := by
  obtain ⟨a, cp, hA, hS⟩ := h.cells
  rw [show ((⟨false, bc, bh⟩ : Bx) :: r).length = r.length + 1 from rfl] at hA hS
  have HM : Hid (∀ X, Calls Try.prog 16 #[evV ⟨5, y, m, t, c⟩] (w.alloc X) fun r w' => r = .returned (.bool true) ∧ Below (w.alloc X).heap.size (w.alloc X) w') := Lib.hid fun X => by
    have := may_any ⟨5, y, m, t, c⟩ (w.alloc X)
    rwa [decide_eq_true (show mayE ⟨5, y, m, t, c⟩ from ⟨by simp, by simp, fun _ => by simp only; omega⟩)] at this
  simp only [evV] at HM ⊢
  have HH := Lib.hid h
  have HS := Lib.hid hS
  have HA := Lib.hid hA
  obtain ⟨n', hn'⟩ : ∃ n', r.length = n' := ⟨_, rfl⟩
  have Hn := Lib.hid hn'
  have hn15 : n' ≤ 799 := by have := hS.deep; simp only [List.length_cons] at this; omega
  have hA0 := (hA.alloc (by simp) (.cells #[.int .i64 5, .bool y, .int .u64 m, .string t, .int .i64 c] 35))
  rw [hn'] at hA0
  obtain ⟨⟨k0, _⟩, ⟨k1, _⟩, ⟨k2, _⟩⟩ := at_three hA0
  have hbh := Nat.le_trans (hS.ok (⟨false, bc, bh⟩ : Bx) (by simp)).2 hS.most
  simp only at hbh
  have hz : (0 ≤ bc) = True := by simp only [eq_iff_iff, iff_true]; omega
  have hg : (bc ≤ 2305843009213693952) = True := by simp only [eq_iff_iff, iff_true]; omega
  have hl : (bc ≤ (bh : Int)) = False := by simp only [eq_iff_iff, iff_false]; omega
  have hzn : (c < 0) = False := by simp only [eq_iff_iff, iff_false]; omega
  have hzg : (4294967295 < c) = True := by simp only [eq_iff_iff, iff_true]; omega
  have hwc : IntKind.u64.wrap c = c := wrapI_u64 _ (by omega) (by omega)
  have hn1 : ((n' : Int) + 1 == 0) = false := by rw [beq_eq_false_iff_ne]; omega
  have hn2 : ((0 : Int) < (n' : Int) + 1) = True := by rw [eq_iff_iff, iff_true]; omega
  clear h hA hS hA0 hn' hc hcc hlim hgr hc1
  go_enter Try.func13, Try.ntmps13
  go_wp2_with fail
  refine (HM.out _).mono ?_
  rintro e w1 ⟨rfl, hb1⟩
  have E1 := Lib.hid ((blk_new w _ _).go hb1)
  obtain ⟨⟨e0, e1, e2, e3, e4⟩, ef⟩ := E1.out.ev
  have hbw1 := up_trans (up_alloc (Below.refl w.heap.size w) (.cells #[.int .i64 5, .bool y, .int .u64 m, .string t, .int .i64 c] 35)) hb1
  have A1 := Lib.hid (HA.out.keep (hbw1.block b HH.out.lt))
  have D1 := Lib.hid (HS.out.go hbw1)
  rw [Hn.out] at A1
  have hbw2 := Lib.hid hbw1
  have ee0 : ∀ x, (w1.alloc x).cell? ⟨w.heap.size, 0, none⟩ = some (.int .i64 5) := fun x => (E1.out.alloc x).cell 0
  have ee4 : ∀ x, (w1.alloc x).cell? ⟨w.heap.size, 4, none⟩ = some (.int .i64 c) := fun x => (E1.out.alloc x).cell 4
  clear hb1 hbw1 k0 k1 k2
  obtain ⟨⟨k0, q0⟩, ⟨k1, q1⟩, ⟨k2, q2⟩⟩ := at_three A1.out
  have kk0 : ∀ x, (w1.alloc x).cell? ⟨b, 0, none⟩ = some (.int .i64 3) := fun x => (at_three (A1.out.alloc (by simp) x)).1.1
  obtain ⟨g, off, N, cap', hv, hNa, hNb, ⟨y0, y1, y2⟩, _⟩ := D1.out.last
  injection hv with hv1 hv2 hv3
  subst hv1
  rw [Hn.out] at y0 y1 y2
  simp only at y0 y1 y2
  clear hNa hNb hv2 hv3
  have HF : Hid (∀ x, WmAt M B (w1.alloc x) b ((⟨false, bc, bh⟩ : Bx) :: r) false ∧ Bew B b w (w1.alloc x)) := Lib.hid (fun x => HH.out.same (up_alloc hbw2.out x))
  go_wp2
  go_ret2
  exact ⟨rfl, HF.out _⟩
set_option maxRecDepth 100000 in
set_option maxHeartbeats 8000000 in
theorem wm_rangeA_6n {M B b : Nat} {w : World} {bc : Int} {bh : Nat} {r : List Bx} (h : WmAt M B w b ((⟨false, bc, bh⟩ : Bx) :: r) false) (y : Bool) (m : Nat) (t : ByteArray) (c : Int) (hneg : c < 0) (hc1 : -1 ≤ c) (hc : 0 ≤ bc) (hcc : bc ≤ 2305843009213693952) (hlim : (bh : Int) < bc) :
    Calls Try.prog 13 #[.pointer (some ⟨b, 0, none⟩), evV ⟨6, y, m, t, c⟩] w fun q w' => q = .returned (.tuple #[.string ⟨#[]⟩, .int .i64 7]) ∧ WmAt M B w' b ((⟨false, bc, bh⟩ : Bx) :: r) false ∧ Bew B b w w' := by
  obtain ⟨a, cp, hA, hS⟩ := h.cells
  rw [show ((⟨false, bc, bh⟩ : Bx) :: r).length = r.length + 1 from rfl] at hA hS
  have HM : Hid (∀ X, Calls Try.prog 16 #[evV ⟨6, y, m, t, c⟩] (w.alloc X) fun r w' => r = .returned (.bool true) ∧ Below (w.alloc X).heap.size (w.alloc X) w') := Lib.hid fun X => by
    have := may_any ⟨6, y, m, t, c⟩ (w.alloc X)
    rwa [decide_eq_true (show mayE ⟨6, y, m, t, c⟩ from ⟨by simp, by simp, fun _ => by simp only; omega⟩)] at this
  simp only [evV] at HM ⊢
  have HH := Lib.hid h
  have HS := Lib.hid hS
  have HA := Lib.hid hA
  obtain ⟨n', hn'⟩ : ∃ n', r.length = n' := ⟨_, rfl⟩
  have Hn := Lib.hid hn'
  have hn15 : n' ≤ 799 := by have := hS.deep; simp only [List.length_cons] at this; omega
  have hA0 := (hA.alloc (by simp) (.cells #[.int .i64 6, .bool y, .int .u64 m, .string t, .int .i64 c] 35))
  rw [hn'] at hA0
  obtain ⟨⟨k0, _⟩, ⟨k1, _⟩, ⟨k2, _⟩⟩ := at_three hA0
  have hbh := Nat.le_trans (hS.ok (⟨false, bc, bh⟩ : Bx) (by simp)).2 hS.most
  simp only at hbh
  have hz : (0 ≤ bc) = True := by simp only [eq_iff_iff, iff_true]; omega
  have hg : (bc ≤ 2305843009213693952) = True := by simp only [eq_iff_iff, iff_true]; omega
  have hl : (bc ≤ (bh : Int)) = False := by simp only [eq_iff_iff, iff_false]; omega
  have hzn : (c < 0) = True := by simp only [eq_iff_iff, iff_true]; omega
  have hn1 : ((n' : Int) + 1 == 0) = false := by rw [beq_eq_false_iff_ne]; omega
  have hn2 : ((0 : Int) < (n' : Int) + 1) = True := by rw [eq_iff_iff, iff_true]; omega
  clear h hA hS hA0 hn' hc hcc hlim hneg hc1
  go_enter Try.func13, Try.ntmps13
  go_wp2_with fail
  refine (HM.out _).mono ?_
  rintro e w1 ⟨rfl, hb1⟩
  have E1 := Lib.hid ((blk_new w _ _).go hb1)
  obtain ⟨⟨e0, e1, e2, e3, e4⟩, ef⟩ := E1.out.ev
  have hbw1 := up_trans (up_alloc (Below.refl w.heap.size w) (.cells #[.int .i64 6, .bool y, .int .u64 m, .string t, .int .i64 c] 35)) hb1
  have A1 := Lib.hid (HA.out.keep (hbw1.block b HH.out.lt))
  have D1 := Lib.hid (HS.out.go hbw1)
  rw [Hn.out] at A1
  have hbw2 := Lib.hid hbw1
  have ee0 : ∀ x, (w1.alloc x).cell? ⟨w.heap.size, 0, none⟩ = some (.int .i64 6) := fun x => (E1.out.alloc x).cell 0
  have ee4 : ∀ x, (w1.alloc x).cell? ⟨w.heap.size, 4, none⟩ = some (.int .i64 c) := fun x => (E1.out.alloc x).cell 4
  clear hb1 hbw1 k0 k1 k2
  obtain ⟨⟨k0, q0⟩, ⟨k1, q1⟩, ⟨k2, q2⟩⟩ := at_three A1.out
  have kk0 : ∀ x, (w1.alloc x).cell? ⟨b, 0, none⟩ = some (.int .i64 3) := fun x => (at_three (A1.out.alloc (by simp) x)).1.1
  obtain ⟨g, off, N, cap', hv, hNa, hNb, ⟨y0, y1, y2⟩, _⟩ := D1.out.last
  injection hv with hv1 hv2 hv3
  subst hv1
  rw [Hn.out] at y0 y1 y2
  simp only at y0 y1 y2
  clear hNa hNb hv2 hv3
  have HF : Hid (∀ x, WmAt M B (w1.alloc x) b ((⟨false, bc, bh⟩ : Bx) :: r) false ∧ Bew B b w (w1.alloc x)) := Lib.hid (fun x => HH.out.same (up_alloc hbw2.out x))
  go_wp2
  go_ret2
  exact ⟨rfl, HF.out _⟩
set_option maxRecDepth 100000 in
set_option maxHeartbeats 8000000 in
theorem wm_rangeA_6g {M B b : Nat} {w : World} {bc : Int} {bh : Nat} {r : List Bx} (h : WmAt M B w b ((⟨false, bc, bh⟩ : Bx) :: r) false) (y : Bool) (m : Nat) (t : ByteArray) (c : Int) (hgr : 4294967295 < c) (hc1 : c ≤ 9223372036854775807) (hc : 0 ≤ bc) (hcc : bc ≤ 2305843009213693952) (hlim : (bh : Int) < bc) :
    Calls Try.prog 13 #[.pointer (some ⟨b, 0, none⟩), evV ⟨6, y, m, t, c⟩] w fun q w' => q = .returned (.tuple #[.string ⟨#[]⟩, .int .i64 7]) ∧ WmAt M B w' b ((⟨false, bc, bh⟩ : Bx) :: r) false ∧ Bew B b w w' := by
  obtain ⟨a, cp, hA, hS⟩ := h.cells
  rw [show ((⟨false, bc, bh⟩ : Bx) :: r).length = r.length + 1 from rfl] at hA hS
  have HM : Hid (∀ X, Calls Try.prog 16 #[evV ⟨6, y, m, t, c⟩] (w.alloc X) fun r w' => r = .returned (.bool true) ∧ Below (w.alloc X).heap.size (w.alloc X) w') := Lib.hid fun X => by
    have := may_any ⟨6, y, m, t, c⟩ (w.alloc X)
    rwa [decide_eq_true (show mayE ⟨6, y, m, t, c⟩ from ⟨by simp, by simp, fun _ => by simp only; omega⟩)] at this
  simp only [evV] at HM ⊢
  have HH := Lib.hid h
  have HS := Lib.hid hS
  have HA := Lib.hid hA
  obtain ⟨n', hn'⟩ : ∃ n', r.length = n' := ⟨_, rfl⟩
  have Hn := Lib.hid hn'
  have hn15 : n' ≤ 799 := by have := hS.deep; simp only [List.length_cons] at this; omega
  have hA0 := (hA.alloc (by simp) (.cells #[.int .i64 6, .bool y, .int .u64 m, .string t, .int .i64 c] 35))
  rw [hn'] at hA0
  obtain ⟨⟨k0, _⟩, ⟨k1, _⟩, ⟨k2, _⟩⟩ := at_three hA0
  have hbh := Nat.le_trans (hS.ok (⟨false, bc, bh⟩ : Bx) (by simp)).2 hS.most
  simp only at hbh
  have hz : (0 ≤ bc) = True := by simp only [eq_iff_iff, iff_true]; omega
  have hg : (bc ≤ 2305843009213693952) = True := by simp only [eq_iff_iff, iff_true]; omega
  have hl : (bc ≤ (bh : Int)) = False := by simp only [eq_iff_iff, iff_false]; omega
  have hzn : (c < 0) = False := by simp only [eq_iff_iff, iff_false]; omega
  have hzg : (4294967295 < c) = True := by simp only [eq_iff_iff, iff_true]; omega
  have hwc : IntKind.u64.wrap c = c := wrapI_u64 _ (by omega) (by omega)
  have hn1 : ((n' : Int) + 1 == 0) = false := by rw [beq_eq_false_iff_ne]; omega
  have hn2 : ((0 : Int) < (n' : Int) + 1) = True := by rw [eq_iff_iff, iff_true]; omega
  clear h hA hS hA0 hn' hc hcc hlim hgr hc1
  go_enter Try.func13, Try.ntmps13
  go_wp2_with fail
  refine (HM.out _).mono ?_
  rintro e w1 ⟨rfl, hb1⟩
  have E1 := Lib.hid ((blk_new w _ _).go hb1)
  obtain ⟨⟨e0, e1, e2, e3, e4⟩, ef⟩ := E1.out.ev
  have hbw1 := up_trans (up_alloc (Below.refl w.heap.size w) (.cells #[.int .i64 6, .bool y, .int .u64 m, .string t, .int .i64 c] 35)) hb1
  have A1 := Lib.hid (HA.out.keep (hbw1.block b HH.out.lt))
  have D1 := Lib.hid (HS.out.go hbw1)
  rw [Hn.out] at A1
  have hbw2 := Lib.hid hbw1
  have ee0 : ∀ x, (w1.alloc x).cell? ⟨w.heap.size, 0, none⟩ = some (.int .i64 6) := fun x => (E1.out.alloc x).cell 0
  have ee4 : ∀ x, (w1.alloc x).cell? ⟨w.heap.size, 4, none⟩ = some (.int .i64 c) := fun x => (E1.out.alloc x).cell 4
  clear hb1 hbw1 k0 k1 k2
  obtain ⟨⟨k0, q0⟩, ⟨k1, q1⟩, ⟨k2, q2⟩⟩ := at_three A1.out
  have kk0 : ∀ x, (w1.alloc x).cell? ⟨b, 0, none⟩ = some (.int .i64 3) := fun x => (at_three (A1.out.alloc (by simp) x)).1.1
  obtain ⟨g, off, N, cap', hv, hNa, hNb, ⟨y0, y1, y2⟩, _⟩ := D1.out.last
  injection hv with hv1 hv2 hv3
  subst hv1
  rw [Hn.out] at y0 y1 y2
  simp only at y0 y1 y2
  clear hNa hNb hv2 hv3
  have HF : Hid (∀ x, WmAt M B (w1.alloc x) b ((⟨false, bc, bh⟩ : Bx) :: r) false ∧ Bew B b w (w1.alloc x)) := Lib.hid (fun x => HH.out.same (up_alloc hbw2.out x))
  go_wp2
  go_ret2
  exact ⟨rfl, HF.out _⟩
end Go.Proofs.Ytonjdnahplphhaa
