/-
  CONTRACT of the document's own Writer, for MessagePack: a value that it cannot hold, within a container.
-/
import Derived.Test.YtonjdnahplphhaaHRefPe
import Derived.Deep.RegionWith
/-
  CONTRACT of the document's own Writer, for MessagePack: a value that it cannot hold, within a container.
-/
namespace Go.Proofs.Ytonjdnahplphhaa
open Go.RowKit
open Go.Lib
set_option maxRecDepth 100000 in
set_option maxHeartbeats 8000000 in
theorem wm_valbadA {M B b : Nat} {w : World} {bc : Int} {bh : Nat} {r : List Bx} (h : WmAt M B w b ((⟨false, bc, bh⟩ : Bx) :: r) false) (e : Ev) (hk : e.k = 0 ∨ e.k = 1 ∨ e.k = 2 ∨ e.k = 3 ∨ e.k = 4) (hc : 0 ≤ bc) (hcc : bc ≤ 2305843009213693952) (hlim : (bh : Int) < bc)
    (hP : ∀ W, Calls Try.prog 28 #[.int .i64 3, evV e] W fun r w' => r = .returned (.tuple #[.string ⟨#[]⟩, .int .i64 7]) ∧ Below W.heap.size W w') :
    Calls Try.prog 13 #[.pointer (some ⟨b, 0, none⟩), evV e] w fun q w' => q = .returned (.tuple #[.string ⟨#[]⟩, .int .i64 7]) ∧ WmAt M B w' b ((⟨false, bc, bh⟩ : Bx) :: r) false ∧ Bew B b w w' := by
  obtain ⟨a, cp, hA, hS⟩ := h.cells
  have hBw : B ≤ w.heap.size := h.low
  rw [show ((⟨false, bc, bh⟩ : Bx) :: r).length = r.length + 1 from rfl] at hA hS
  have HM : Hid (∀ X, Calls Try.prog 16 #[evV e] (w.alloc X) fun r w' => r = .returned (.bool true) ∧ Below (w.alloc X).heap.size (w.alloc X) w') := Lib.hid fun X => by
    have := may_any e (w.alloc X)
    rwa [decide_eq_true (show mayE e from ⟨by omega, by omega, by omega⟩)] at this
  have HP := Lib.hid hP
  obtain ⟨k, y, m, t, c⟩ := e
  simp only [evV] at HM HP hk ⊢
  have n7 : (k == 7) = false := by rw [beq_eq_false_iff_ne]; omega
  have n5 : (k == 5) = false := by rw [beq_eq_false_iff_ne]; omega
  have n6 : (k == 6) = false := by rw [beq_eq_false_iff_ne]; omega
  have HH := Lib.hid h
  have HS := Lib.hid hS
  have HA := Lib.hid hA
  obtain ⟨n', hn'⟩ : ∃ n', r.length = n' := ⟨_, rfl⟩
  have Hn := Lib.hid hn'
  have hn15 : n' ≤ 799 := by have := hS.deep; simp only [List.length_cons] at this; omega
  have hA0 := (hA.alloc (by simp) (.cells #[.int .i64 k, .bool y, .int .u64 m, .string t, .int .i64 c] 35))
  rw [hn'] at hA0
  obtain ⟨⟨k0, _⟩, ⟨k1, _⟩, ⟨k2, _⟩⟩ := at_three hA0
  have hbh := Nat.le_trans (hS.ok (⟨false, bc, bh⟩ : Bx) (by simp)).2 hS.most
  simp only at hbh
  have hz : (0 ≤ bc) = True := by simp only [eq_iff_iff, iff_true]; omega
  have hg : (bc ≤ 2305843009213693952) = True := by simp only [eq_iff_iff, iff_true]; omega
  have hl : (bc ≤ (bh : Int)) = False := by simp only [eq_iff_iff, iff_false]; omega
  have hn1 : ((n' : Int) + 1 == 0) = false := by rw [beq_eq_false_iff_ne]; omega
  have hn2 : ((0 : Int) < (n' : Int) + 1) = True := by rw [eq_iff_iff, iff_true]; omega
  clear h hA hS hA0 hn' hc hcc hlim hP hk
  go_enter Try.func13, Try.ntmps13
  go_wp2_with fail
  refine (HM.out _).mono ?_
  rintro e w1 ⟨rfl, hb1⟩
  have E1 := Lib.hid ((blk_new w _ _).go hb1)
  obtain ⟨⟨e0, e1, e2, e3, e4⟩, ef⟩ := E1.out.ev
  have hbw1 := up_trans (up_alloc (Below.refl w.heap.size w) (.cells #[.int .i64 k, .bool y, .int .u64 m, .string t, .int .i64 c] 35)) hb1
  have A1 := Lib.hid (HA.out.keep (hbw1.block b HH.out.lt))
  have D1 := Lib.hid (HS.out.go hbw1)
  rw [Hn.out] at A1
  have hbw2 := Lib.hid hbw1
  have ee0 : ∀ x, (w1.alloc x).cell? ⟨w.heap.size, 0, none⟩ = some (.int .i64 k) := fun x => (E1.out.alloc x).cell 0
  have ee1 : ∀ x, (w1.alloc x).cell? ⟨w.heap.size, 1, none⟩ = some (.bool y) := fun x => (E1.out.alloc x).cell 1
  have ee2 : ∀ x, (w1.alloc x).cell? ⟨w.heap.size, 2, none⟩ = some (.int .u64 m) := fun x => (E1.out.alloc x).cell 2
  have ee3 : ∀ x, (w1.alloc x).cell? ⟨w.heap.size, 3, none⟩ = some (.string t) := fun x => (E1.out.alloc x).cell 3
  have ee4 : ∀ x, (w1.alloc x).cell? ⟨w.heap.size, 4, none⟩ = some (.int .i64 c) := fun x => (E1.out.alloc x).cell 4
  clear hb1 hbw1 k0 k1 k2
  obtain ⟨⟨k0, q0⟩, ⟨k1, q1⟩, ⟨k2, q2⟩⟩ := at_three A1.out
  have kk0 : ∀ x, (w1.alloc x).cell? ⟨b, 0, none⟩ = some (.int .i64 3) := fun x => (at_three (A1.out.alloc (by simp) x)).1.1
  obtain ⟨g, off, N, cap', hv, hNa, hNb, ⟨y0, y1, y2⟩, _⟩ := D1.out.last
  injection hv with hv1 hv2 hv3
  subst hv1
  rw [Hn.out] at y0 y1 y2
  simp only at y0 y1 y2
  clear hNa hNb hv2 hv3
  go_wp2
  go_region_with (go_at_call 28; refine (HP.out _).mono ?_; rintro r w2 ⟨rfl, hb2⟩)
  all_goals
    have HBB : Hid (Below w.heap.size w w2) := Lib.hid (by
      have h3 : Below w.heap.size w (w1.alloc (.cells #[.bool false, .int .i64 bc, .int .i64 (bh : Int)] 73)) := up_alloc hbw2.out _
      exact ⟨hb2.os.trans h3.os, hb2.tape.trans h3.tape, hb2.output.trans h3.output, Nat.le_trans h3.size hb2.size, fun k hk => (hb2.block k (Nat.lt_of_lt_of_le hk h3.size)).trans (h3.block k hk)⟩)
    clear hb2
    go_wp2
    go_ret2
    exact ⟨rfl, HH.out.go HBB.out, (HBB.out.mono hBw).bew⟩
set_option maxRecDepth 100000 in
set_option maxHeartbeats 8000000 in
theorem wm_valbadM {M B b : Nat} {w : World} {bc : Int} {bh : Nat} {r : List Bx} (h : WmAt M B w b ((⟨true, bc, bh⟩ : Bx) :: r) false) (e : Ev) (hk : e.k = 0 ∨ e.k = 1 ∨ e.k = 2 ∨ e.k = 3 ∨ e.k = 4) (hc : 0 ≤ bc) (hcc : bc ≤ 2305843009213693952) (hlim : (bh : Int) < 2 * bc) (ho : bh % 2 = 1)
    (hP : ∀ W, Calls Try.prog 28 #[.int .i64 3, evV e] W fun r w' => r = .returned (.tuple #[.string ⟨#[]⟩, .int .i64 7]) ∧ Below W.heap.size W w') :
    Calls Try.prog 13 #[.pointer (some ⟨b, 0, none⟩), evV e] w fun q w' => q = .returned (.tuple #[.string ⟨#[]⟩, .int .i64 7]) ∧ WmAt M B w' b ((⟨true, bc, bh⟩ : Bx) :: r) false ∧ Bew B b w w' := by
  obtain ⟨a, cp, hA, hS⟩ := h.cells
  have hBw : B ≤ w.heap.size := h.low
  rw [show ((⟨true, bc, bh⟩ : Bx) :: r).length = r.length + 1 from rfl] at hA hS
  have HM : Hid (∀ X, Calls Try.prog 16 #[evV e] (w.alloc X) fun r w' => r = .returned (.bool true) ∧ Below (w.alloc X).heap.size (w.alloc X) w') := Lib.hid fun X => by
    have := may_any e (w.alloc X)
    rwa [decide_eq_true (show mayE e from ⟨by omega, by omega, by omega⟩)] at this
  have HP := Lib.hid hP
  obtain ⟨k, y, m, t, c⟩ := e
  simp only [evV] at HM HP hk ⊢
  have n7 : (k == 7) = false := by rw [beq_eq_false_iff_ne]; omega
  have n5 : (k == 5) = false := by rw [beq_eq_false_iff_ne]; omega
  have n6 : (k == 6) = false := by rw [beq_eq_false_iff_ne]; omega
  have HH := Lib.hid h
  have HS := Lib.hid hS
  have HA := Lib.hid hA
  obtain ⟨n', hn'⟩ : ∃ n', r.length = n' := ⟨_, rfl⟩
  have Hn := Lib.hid hn'
  have hn15 : n' ≤ 799 := by have := hS.deep; simp only [List.length_cons] at this; omega
  have hA0 := (hA.alloc (by simp) (.cells #[.int .i64 k, .bool y, .int .u64 m, .string t, .int .i64 c] 35))
  rw [hn'] at hA0
  obtain ⟨⟨k0, _⟩, ⟨k1, _⟩, ⟨k2, _⟩⟩ := at_three hA0
  have hbh := Nat.le_trans (hS.ok (⟨true, bc, bh⟩ : Bx) (by simp)).2 hS.most
  simp only at hbh
  have hz : (0 ≤ bc) = True := by simp only [eq_iff_iff, iff_true]; omega
  have hg : (bc ≤ 2305843009213693952) = True := by simp only [eq_iff_iff, iff_true]; omega
  have hbr : ((bh : Int) % 2 == 0) = false := by rw [beq_eq_false_iff_ne]; omega
  have hl : (RowKit.wrap64 (2 * bc) ≤ (bh : Int)) = False := by rw [show RowKit.wrap64 (2 * bc) = 2 * bc by unfold RowKit.wrap64; omega]; simp only [eq_iff_iff, iff_false]; omega
  have hn1 : ((n' : Int) + 1 == 0) = false := by rw [beq_eq_false_iff_ne]; omega
  have hn2 : ((0 : Int) < (n' : Int) + 1) = True := by rw [eq_iff_iff, iff_true]; omega
  clear h hA hS hA0 hn' hc hcc hlim ho hP hk
  go_enter Try.func13, Try.ntmps13
  go_wp2_with fail
  refine (HM.out _).mono ?_
  rintro e w1 ⟨rfl, hb1⟩
  have E1 := Lib.hid ((blk_new w _ _).go hb1)
  obtain ⟨⟨e0, e1, e2, e3, e4⟩, ef⟩ := E1.out.ev
  have hbw1 := up_trans (up_alloc (Below.refl w.heap.size w) (.cells #[.int .i64 k, .bool y, .int .u64 m, .string t, .int .i64 c] 35)) hb1
  have A1 := Lib.hid (HA.out.keep (hbw1.block b HH.out.lt))
  have D1 := Lib.hid (HS.out.go hbw1)
  rw [Hn.out] at A1
  have hbw2 := Lib.hid hbw1
  have ee0 : ∀ x, (w1.alloc x).cell? ⟨w.heap.size, 0, none⟩ = some (.int .i64 k) := fun x => (E1.out.alloc x).cell 0
  have ee1 : ∀ x, (w1.alloc x).cell? ⟨w.heap.size, 1, none⟩ = some (.bool y) := fun x => (E1.out.alloc x).cell 1
  have ee2 : ∀ x, (w1.alloc x).cell? ⟨w.heap.size, 2, none⟩ = some (.int .u64 m) := fun x => (E1.out.alloc x).cell 2
  have ee3 : ∀ x, (w1.alloc x).cell? ⟨w.heap.size, 3, none⟩ = some (.string t) := fun x => (E1.out.alloc x).cell 3
  have ee4 : ∀ x, (w1.alloc x).cell? ⟨w.heap.size, 4, none⟩ = some (.int .i64 c) := fun x => (E1.out.alloc x).cell 4
  clear hb1 hbw1 k0 k1 k2
  obtain ⟨⟨k0, q0⟩, ⟨k1, q1⟩, ⟨k2, q2⟩⟩ := at_three A1.out
  have kk0 : ∀ x, (w1.alloc x).cell? ⟨b, 0, none⟩ = some (.int .i64 3) := fun x => (at_three (A1.out.alloc (by simp) x)).1.1
  obtain ⟨g, off, N, cap', hv, hNa, hNb, ⟨y0, y1, y2⟩, _⟩ := D1.out.last
  injection hv with hv1 hv2 hv3
  subst hv1
  rw [Hn.out] at y0 y1 y2
  simp only at y0 y1 y2
  clear hNa hNb hv2 hv3
  go_wp2
  go_region_with (go_at_call 28; refine (HP.out _).mono ?_; rintro r w2 ⟨rfl, hb2⟩)
  all_goals
    have HBB : Hid (Below w.heap.size w w2) := Lib.hid (by
      have h3 : Below w.heap.size w (w1.alloc (.cells #[.bool true, .int .i64 bc, .int .i64 (bh : Int)] 73)) := up_alloc hbw2.out _
      exact ⟨hb2.os.trans h3.os, hb2.tape.trans h3.tape, hb2.output.trans h3.output, Nat.le_trans h3.size hb2.size, fun k hk => (hb2.block k (Nat.lt_of_lt_of_le hk h3.size)).trans (h3.block k hk)⟩)
    clear hb2
    go_wp2
    go_ret2
    exact ⟨rfl, HH.out.go HBB.out, (HBB.out.mono hBw).bew⟩
end Go.Proofs.Ytonjdnahplphhaa
