/-
  CONTRACT of package event's take: a container within one.
-/
import Derived.Test.YtebnhelejebobaaHEvD
/-
  CONTRACT of package event's take: a container within one.
-/
namespace Go.Proofs.Ytebnhelejebobaa
open Go.RowKit
open Go.Lib
set_option maxHeartbeats 1000000 in
theorem take_more_5 (M B : Nat) (w : World) (d : Nat) (b : Bx) (l : List Bx) (v : Value) (hD : Doc M B w d (b :: l) false v) (y : Bool) (m : Nat) (t : ByteArray) (c : Int) (X : Value)
    (hO : ∀ w, Calls Try.prog 39 #[evV ⟨5, y, m, t, c⟩] w fun r w' => r = .returned (.tuple #[X, .bool true]) ∧ Below w.heap.size w w') (hM : M + 1 ≤ 1000) (hc : -1 ≤ c ∧ c ≤ 9223372036854775807) (hk : keyB (b :: l) = false) (hs : l.length + 1 < 16) :
    Calls Try.prog 27 #[.pointer (some ⟨d, 0, none⟩), evV ⟨5, y, m, t, c⟩] w fun r w' => r = .returned (.int .i64 0) ∧ Below B w w' ∧ CkAt (M + 1) B w' d (.live (⟨false, c, 0⟩ :: incB (b :: l))) := by
  have HO := Lib.hid hO
  clear hO
  simp only [evV] at HO ⊢
  obtain ⟨g, off, N, cap, rfl, hN, hN2, hx, hy⟩ := hD.last
  clear hx hy
  have hgw : w.heap.size ≠ g := fun e => by have := hD.win.lt g (by simp [Value.owner]); omega
  have hl : (N : Int) - 1 = (l.length : Int) := by omega
  have hl3 : l.length < N := by omega
  have hl4 : ((N : Int) == 16) = false := by rw [beq_eq_false_iff_ne]; omega
  have hl6 : ((N : Int) + 1 == 0) = false := by rw [beq_eq_false_iff_ne]; omega
  have hl5 : (0 < (N : Int)) = True := by simp; omega
  have hq : (b.have_ : Int) ≤ 1000 := by have := Nat.le_trans (hD.ok b (by simp)).2 hD.most; omega
  have hNs : N ≤ 15 := by omega
  obtain ⟨S, hS⟩ : ∃ S, S = incB (b :: l) := ⟨_, rfl⟩
  rw [← hS]
  have hin : S.length = N := by rw [hS, hN]; rfl
  have Hin := Lib.hid hin
  have HSS := Lib.hid hS
  clear hin hS
  have HN := Lib.hid hN
  have HM := Lib.hid hM
  have HC := Lib.hid hc
  have HG := Lib.hid hgw
  clear hM hc hN hgw hs
  go_enter Try.func27, Try.ntmps27
  go_wp2_with fail
  refine (HO.out _).mono ?_
  rintro e w1 ⟨rfl, hb⟩
  have D1 := Lib.hid ((hD.go (up_alloc (Below.refl _ _) _)).go hb)
  obtain ⟨⟨e0, e1, e2, e3, e4⟩, _⟩ := ((blk_new w _ _).go hb).ev
  have B1 := Lib.hid ((up_trans (up_alloc (Below.refl _ _) _) hb).mono hD.lt)
  have k0 := D1.out.own.cell 0
  have k1 := D1.out.own.cell 1
  have E1 := Lib.hid ((blk_new w _ _).go hb)
  obtain ⟨_, _, _, _, hv, hNa, hNb, ⟨x0, x1, x2⟩, ⟨y0, y1, y2⟩⟩ := D1.out.last
  simp only [Value.slice.injEq, Option.some.injEq, Addr.mk.injEq, and_true] at hv
  obtain ⟨⟨rfl, rfl⟩, rfl, rfl⟩ := hv
  obtain ⟨i1, i2, i3⟩ := D1.out.inc HM.out HN.out
  rw [← HSS.out] at i1
  have I1 := Lib.hid i1
  have I2 := Lib.hid i2
  have I3 := Lib.hid i3
  clear i1 i2 i3 hNa hNb hb hD
  have HK := Lib.hid (at_key M B w1 d (b :: l) false _ D1.out)
  simp only [hk] at HK
  go_wp2_with fail
  refine HK.out.mono ?_
  rintro e w2 ⟨rfl, rfl⟩
  clear HK hk
  have E2 : Hid (Blk (w2.setCell ⟨g, off + l.length * 3 + 2, none⟩ (.int .i64 ((b.have_ : Int) + 1))) w.heap.size _ _) := Lib.hid (E1.out.far HG.out _)
  have B2 : Hid (Below B w2 (w2.setCell ⟨g, off + l.length * 3 + 2, none⟩ (.int .i64 ((b.have_ : Int) + 1)))) := Lib.hid ((Below.refl B w2).setCell I3.out _)
  obtain ⟨m', c', q⟩ := b
  simp only at *
  generalize hn : l.length = n at *
  have Hn := Lib.hid hn
  clear hn
  go_wp2
  clear x0 x1 x2 y0 y1 y2 e0 e1 e2 e3 e4 k0 k1 hl hl3 hq E1
  generalize w2.setCell ⟨g, off + n * 3 + 2, none⟩ (.int .i64 ((q : Int) + 1)) = W at E2 B2 I1 ⊢
  have WN : Hid (Win W 95 3 (.slice (some ⟨g, off, none⟩) N cap) N (bxsL S)) := Lib.hid (by have h := I1.out.win; rw [Hin.out] at h; exact h)
  have DD := fun o => Lib.hid (Doc.drew (Doc.alloc I1.out o))
  have WD : ∀ o, Hid (Win (W.alloc o).drew 95 3 (.slice (some ⟨g, off, none⟩) N cap) N (bxsL S)) := fun o => Lib.hid (WN.out.alloc o)
  have f0 : ∀ o, (W.alloc o).cell? ⟨w.heap.size, 0, none⟩ = some (.int .i64 5) := fun o => (E2.out.alloc o).cell 0
  have f4 : ∀ o, (W.alloc o).cell? ⟨w.heap.size, 4, none⟩ = some (.int .i64 c) := fun o => (E2.out.alloc o).cell 4
  have f5 : ∀ o, (W.alloc o).cell? ⟨d, 0, none⟩ = some (.slice (some ⟨g, off, none⟩) N cap) := fun o => (I1.out.own.alloc o).cell 0
  have h0 : W.cell? ⟨w.heap.size, 0, none⟩ = some (.int .i64 5) := E2.out.cell 0
  have h4 : W.cell? ⟨w.heap.size, 4, none⟩ = some (.int .i64 c) := E2.out.cell 4
  have h5 : W.cell? ⟨d, 0, none⟩ = some (.slice (some ⟨g, off, none⟩) N cap) := I1.out.own.cell 0
  go_region_law (first
    | (refine step_append_win rfl _ _ _ rfl Try.underlying62 info_box rfl rfl (WD _).out _ rfl 1 _ (src_new _ Try.underlying62 3 1 (bxL ⟨false, c, 0⟩) 95 _ rfl (bxsL_one [⟨false, c, 0⟩]) (heap_alloc_new W _)) (by unfold maxLen; omega) (by omega) ?_; intro v3 w3 hW3 hG3 hO3; obtain ⟨a3, c3, rfl, _, _⟩ := Win.slice_form hW3.out; have O3 := (DD _).out.own.lift hG3.out (fun e => I1.out.apart ((ob_iff _ _).1 e)); have g0 := O3.cell 0; have g1 := O3.froz 0; have g2 := O3.cell 1; have g3 := O3.froz 1; clear O3; have HP := Lib.hid ((DD _).out.push ⟨false, c, 0⟩ HC.out rfl (by have := Hin.out; omega) Hin.out.symm hW3.out hG3.out hO3.out); clear hW3 hG3 hO3))
  all_goals
    go_wp2
    go_ret
    have DU := HP.out.1
    exact ⟨rfl, (B1.out.trans (B2.out.trans ((below_drw ((Below.refl B W).alloc I1.out.lt _)).trans HP.out.2))).setCell I1.out.dB _, _, DU.own.set 1 _, DU.win.setCell_far DU.apart _, DU.dB, DU.vB, DU.ok, DU.deep, DU.most⟩
set_option maxHeartbeats 1000000 in
theorem take_more_6 (M B : Nat) (w : World) (d : Nat) (b : Bx) (l : List Bx) (v : Value) (hD : Doc M B w d (b :: l) false v) (y : Bool) (m : Nat) (t : ByteArray) (c : Int) (X : Value)
    (hO : ∀ w, Calls Try.prog 39 #[evV ⟨6, y, m, t, c⟩] w fun r w' => r = .returned (.tuple #[X, .bool true]) ∧ Below w.heap.size w w') (hM : M + 1 ≤ 1000) (hc : -1 ≤ c ∧ c ≤ 9223372036854775807) (hk : keyB (b :: l) = false) (hs : l.length + 1 < 16) :
    Calls Try.prog 27 #[.pointer (some ⟨d, 0, none⟩), evV ⟨6, y, m, t, c⟩] w fun r w' => r = .returned (.int .i64 0) ∧ Below B w w' ∧ CkAt (M + 1) B w' d (.live (⟨true, c, 0⟩ :: incB (b :: l))) := by
  have HO := Lib.hid hO
  clear hO
  simp only [evV] at HO ⊢
  obtain ⟨g, off, N, cap, rfl, hN, hN2, hx, hy⟩ := hD.last
  clear hx hy
  have hgw : w.heap.size ≠ g := fun e => by have := hD.win.lt g (by simp [Value.owner]); omega
  have hl : (N : Int) - 1 = (l.length : Int) := by omega
  have hl3 : l.length < N := by omega
  have hl4 : ((N : Int) == 16) = false := by rw [beq_eq_false_iff_ne]; omega
  have hl6 : ((N : Int) + 1 == 0) = false := by rw [beq_eq_false_iff_ne]; omega
  have hl5 : (0 < (N : Int)) = True := by simp; omega
  have hq : (b.have_ : Int) ≤ 1000 := by have := Nat.le_trans (hD.ok b (by simp)).2 hD.most; omega
  have hNs : N ≤ 15 := by omega
  obtain ⟨S, hS⟩ : ∃ S, S = incB (b :: l) := ⟨_, rfl⟩
  rw [← hS]
  have hin : S.length = N := by rw [hS, hN]; rfl
  have Hin := Lib.hid hin
  have HSS := Lib.hid hS
  clear hin hS
  have HN := Lib.hid hN
  have HM := Lib.hid hM
  have HC := Lib.hid hc
  have HG := Lib.hid hgw
  clear hM hc hN hgw hs
  go_enter Try.func27, Try.ntmps27
  go_wp2_with fail
  refine (HO.out _).mono ?_
  rintro e w1 ⟨rfl, hb⟩
  have D1 := Lib.hid ((hD.go (up_alloc (Below.refl _ _) _)).go hb)
  obtain ⟨⟨e0, e1, e2, e3, e4⟩, _⟩ := ((blk_new w _ _).go hb).ev
  have B1 := Lib.hid ((up_trans (up_alloc (Below.refl _ _) _) hb).mono hD.lt)
  have k0 := D1.out.own.cell 0
  have k1 := D1.out.own.cell 1
  have E1 := Lib.hid ((blk_new w _ _).go hb)
  obtain ⟨_, _, _, _, hv, hNa, hNb, ⟨x0, x1, x2⟩, ⟨y0, y1, y2⟩⟩ := D1.out.last
  simp only [Value.slice.injEq, Option.some.injEq, Addr.mk.injEq, and_true] at hv
  obtain ⟨⟨rfl, rfl⟩, rfl, rfl⟩ := hv
  obtain ⟨i1, i2, i3⟩ := D1.out.inc HM.out HN.out
  rw [← HSS.out] at i1
  have I1 := Lib.hid i1
  have I2 := Lib.hid i2
  have I3 := Lib.hid i3
  clear i1 i2 i3 hNa hNb hb hD
  have HK := Lib.hid (at_key M B w1 d (b :: l) false _ D1.out)
  simp only [hk] at HK
  go_wp2_with fail
  refine HK.out.mono ?_
  rintro e w2 ⟨rfl, rfl⟩
  clear HK hk
  have E2 : Hid (Blk (w2.setCell ⟨g, off + l.length * 3 + 2, none⟩ (.int .i64 ((b.have_ : Int) + 1))) w.heap.size _ _) := Lib.hid (E1.out.far HG.out _)
  have B2 : Hid (Below B w2 (w2.setCell ⟨g, off + l.length * 3 + 2, none⟩ (.int .i64 ((b.have_ : Int) + 1)))) := Lib.hid ((Below.refl B w2).setCell I3.out _)
  obtain ⟨m', c', q⟩ := b
  simp only at *
  generalize hn : l.length = n at *
  have Hn := Lib.hid hn
  clear hn
  go_wp2
  clear x0 x1 x2 y0 y1 y2 e0 e1 e2 e3 e4 k0 k1 hl hl3 hq E1
  generalize w2.setCell ⟨g, off + n * 3 + 2, none⟩ (.int .i64 ((q : Int) + 1)) = W at E2 B2 I1 ⊢
  have WN : Hid (Win W 95 3 (.slice (some ⟨g, off, none⟩) N cap) N (bxsL S)) := Lib.hid (by have h := I1.out.win; rw [Hin.out] at h; exact h)
  have DD := fun o => Lib.hid (Doc.drew (Doc.alloc I1.out o))
  have WD : ∀ o, Hid (Win (W.alloc o).drew 95 3 (.slice (some ⟨g, off, none⟩) N cap) N (bxsL S)) := fun o => Lib.hid (WN.out.alloc o)
  have f0 : ∀ o, (W.alloc o).cell? ⟨w.heap.size, 0, none⟩ = some (.int .i64 6) := fun o => (E2.out.alloc o).cell 0
  have f4 : ∀ o, (W.alloc o).cell? ⟨w.heap.size, 4, none⟩ = some (.int .i64 c) := fun o => (E2.out.alloc o).cell 4
  have f5 : ∀ o, (W.alloc o).cell? ⟨d, 0, none⟩ = some (.slice (some ⟨g, off, none⟩) N cap) := fun o => (I1.out.own.alloc o).cell 0
  have h0 : W.cell? ⟨w.heap.size, 0, none⟩ = some (.int .i64 6) := E2.out.cell 0
  have h4 : W.cell? ⟨w.heap.size, 4, none⟩ = some (.int .i64 c) := E2.out.cell 4
  have h5 : W.cell? ⟨d, 0, none⟩ = some (.slice (some ⟨g, off, none⟩) N cap) := I1.out.own.cell 0
  go_region_law (first
    | (refine step_append_win rfl _ _ _ rfl Try.underlying62 info_box rfl rfl (WD _).out _ rfl 1 _ (src_new _ Try.underlying62 3 1 (bxL ⟨true, c, 0⟩) 95 _ rfl (bxsL_one [⟨true, c, 0⟩]) (heap_alloc_new W _)) (by unfold maxLen; omega) (by omega) ?_; intro v3 w3 hW3 hG3 hO3; obtain ⟨a3, c3, rfl, _, _⟩ := Win.slice_form hW3.out; have O3 := (DD _).out.own.lift hG3.out (fun e => I1.out.apart ((ob_iff _ _).1 e)); have g0 := O3.cell 0; have g1 := O3.froz 0; have g2 := O3.cell 1; have g3 := O3.froz 1; clear O3; have HP := Lib.hid ((DD _).out.push ⟨true, c, 0⟩ HC.out rfl (by have := Hin.out; omega) Hin.out.symm hW3.out hG3.out hO3.out); clear hW3 hG3 hO3))
  all_goals
    go_wp2
    go_ret
    have DU := HP.out.1
    exact ⟨rfl, (B1.out.trans (B2.out.trans ((below_drw ((Below.refl B W).alloc I1.out.lt _)).trans HP.out.2))).setCell I1.out.dB _, _, DU.own.set 1 _, DU.win.setCell_far DU.apart _, DU.dB, DU.vB, DU.ok, DU.deep, DU.most⟩
end Go.Proofs.Ytebnhelejebobaa
