/-
  CONTRACT of the document's own Writer, for MessagePack (written by tools/mkrefk.py): a key of a map.
-/
import Derived.Test.YtonjdnahplphhaaHRefPs
/-
  CONTRACT of the document's own Writer, for MessagePack (written by tools/mkrefk.py): a key of a map.
-/
namespace Go.Proofs.Ytonjdnahplphhaa
open Go.RowKit
open Go.Lib
set_option maxRecDepth 100000 in
set_option maxHeartbeats 8000000 in
theorem wm_v5 {M B b : Nat} {w : World} {bc : Int} {bh : Nat} {r : List Bx} (h : WmAt M B w b ((⟨true, bc, bh⟩ : Bx) :: r) false) (hM1 : M + 1 ≤ 1000) (e : Ev) (hk : e.k = 0 ∨ e.k = 1 ∨ e.k = 2 ∨ e.k = 3 ∨ e.k = 4) (hkey : ¬ (keyB ((⟨true, bc, bh⟩ : Bx) :: r) = true ∧ e.k ≠ 3)) (X : ByteArray) (hX : X.size ≤ 100000) (hn : bc < 0) (he0 : bh % 2 = 0) (hk3 : e.k = 3)
    (hP : ∀ W, Calls Try.prog 28 #[.int .i64 3, evV e] W fun r w' => r = .returned (.tuple #[.string X, .int .i64 0]) ∧ Below W.heap.size W w') :
    Calls Try.prog 13 #[.pointer (some ⟨b, 0, none⟩), evV e] w fun q w' => q = .returned (.tuple #[.string X, .int .i64 0]) ∧ WmAt (M + 1) B w' b (incB ((⟨true, bc, bh⟩ : Bx) :: r)) false ∧ Bew B b w w' := by
  obtain ⟨a, cp, hA, hS⟩ := h.cells
  rw [show ((⟨true, bc, bh⟩ : Bx) :: r).length = r.length + 1 from rfl] at hA hS
  have hBw : B ≤ w.heap.size := h.low
  have HM : Hid (∀ X, Calls Try.prog 16 #[evV e] (w.alloc X) fun r w' => r = .returned (.bool true) ∧ Below (w.alloc X).heap.size (w.alloc X) w') := Lib.hid fun X => by
    have := may_any e (w.alloc X)
    rwa [decide_eq_true (show mayE e from ⟨by omega, by omega, by omega⟩)] at this
  have HP := Lib.hid hP
  obtain ⟨k, y, m, t, c⟩ := e
  obtain rfl : k = 3 := hk3
  simp only [evV] at HM HP hk hkey ⊢
  have HH := Lib.hid h
  have HS := Lib.hid hS
  have HA := Lib.hid hA
  obtain ⟨n', hn'⟩ : ∃ n', r.length = n' := ⟨_, rfl⟩
  have Hn := Lib.hid hn'
  have hn15 : n' ≤ 799 := by have := hS.deep; simp only [List.length_cons] at this; omega
  have hA0 := (hA.alloc (by simp) (.cells #[.int .i64 3, .bool y, .int .u64 m, .string t, .int .i64 c] 35))
  rw [hn'] at hA0
  obtain ⟨⟨k0, _⟩, ⟨k1, _⟩, ⟨k2, _⟩⟩ := at_three hA0
  have hbh := Nat.le_trans (hS.ok (⟨true, bc, bh⟩ : Bx) (by simp)).2 hS.most
  clear h hA hS hA0 hP hn'
  simp only [keyB] at hkey hbh
  have hn1 : ((n' : Int) + 1 == 0) = false := by rw [beq_eq_false_iff_ne]; omega
  have hz : (0 ≤ bc) = False := by simp only [eq_iff_iff, iff_false]; omega
  have fo : (((bh : Int) % 2) != 0) = false := by rw [bne_eq_false_iff_eq]; omega
  have fe : (((bh : Int) % 2) == 0) = true := by rw [beq_iff_eq]; omega
  clear hn he0
  have hcat : (⟨#[]⟩ : ByteArray) ++ X = X := by apply ByteArray.ext; simp
  have HC := Lib.hid hcat
  clear hcat
  go_enter Try.func13, Try.ntmps13
  go_wp2_with fail
  refine (HM.out _).mono ?_
  rintro e w1 ⟨rfl, hb1⟩
  have E1 := Lib.hid ((blk_new w _ _).go hb1)
  obtain ⟨⟨e0, e1, e2, e3, e4⟩, ef⟩ := E1.out.ev
  have hbw1 := up_trans (up_alloc (Below.refl w.heap.size w) (.cells #[.int .i64 3, .bool y, .int .u64 m, .string t, .int .i64 c] 35)) hb1
  have A1 := Lib.hid (HA.out.keep (hbw1.block b HH.out.lt))
  have HB1 := Lib.hid hbw1
  have D1 := Lib.hid (HS.out.go hbw1)
  rw [Hn.out] at A1
  clear hb1 ef k0 k1 k2 hbw1
  obtain ⟨⟨k0, q0⟩, ⟨k1, q1⟩, ⟨k2, q2⟩⟩ := at_three A1.out
  obtain ⟨g, off, N, cap', hv, hNa, hNb, ⟨y0, y1, y2⟩, _⟩ := D1.out.last
  injection hv with hv1 hv2 hv3
  subst hv1
  rw [Hn.out] at y0 y1 y2
  simp only at y0 y1 y2
  have kk0 : ∀ x, (w1.alloc x).cell? ⟨b, 0, none⟩ = some (.int .i64 3) := fun x => (at_three (A1.out.alloc (by simp) x)).1.1
  have kk1 : ∀ x, (w1.alloc x).cell? ⟨b, 1, none⟩ = some (.slice (some ⟨g, off, none⟩) (n' + 1) cp) := fun x => (at_three (A1.out.alloc (by simp) x)).2.1.1
  have ee0 : ∀ x, (w1.alloc x).cell? ⟨w.heap.size, 0, none⟩ = some (.int .i64 3) := fun x => (E1.out.alloc x).cell 0
  have ee1 : ∀ x, (w1.alloc x).cell? ⟨w.heap.size, 1, none⟩ = some (.bool y) := fun x => (E1.out.alloc x).cell 1
  have ee2 : ∀ x, (w1.alloc x).cell? ⟨w.heap.size, 2, none⟩ = some (.int .u64 m) := fun x => (E1.out.alloc x).cell 2
  have ee3 : ∀ x, (w1.alloc x).cell? ⟨w.heap.size, 3, none⟩ = some (.string t) := fun x => (E1.out.alloc x).cell 3
  have ee4 : ∀ x, (w1.alloc x).cell? ⟨w.heap.size, 4, none⟩ = some (.int .i64 c) := fun x => (E1.out.alloc x).cell 4
  clear hNa hNb hv2 hv3
  clear hkey hk
  go_wp2
  go_region_with (go_at_call 28; refine (HP.out _).mono ?_; rintro q w2 ⟨rfl, hb2⟩)
  all_goals
    have hb2' : Below (w1.alloc (.cells #[.bool true, .int .i64 bc, .int .i64 (bh : Int)] 73)).heap.size (w1.alloc (.cells #[.bool true, .int .i64 bc, .int .i64 (bh : Int)] 73)) w2 := ⟨hb2.os, hb2.tape, hb2.output, hb2.size, hb2.block⟩
    have hw12 : Below w1.heap.size w1 w2 := up_trans (up_alloc (Below.refl _ _) _) hb2'
    have HW2 := Lib.hid ((HH.out.go HB1.out).go hw12)
    have HE2 := Lib.hid (E1.out.go hw12)
    have HBB := Lib.hid (up_trans HB1.out hw12)
    obtain ⟨⟨p0, r0⟩, ⟨p1, r1⟩, ⟨p2, r2⟩⟩ := at_three (A1.out.keep (hw12.block b (Nat.lt_of_lt_of_le HH.out.lt HB1.out.size)))
    clear hb2 hb2' hw12 e0 e1 e2 e3 e4 k0 k1 k2 q0 q1 q2 kk0 kk1 ee0 ee1 ee2 ee3 ee4 y0 y1 y2
    obtain ⟨V, hV⟩ : ∃ V, w2.setCell ⟨b, 2, none⟩ (.bool false) = V := ⟨_, rfl⟩
    have hfin := HW2.out.fin false
    rw [hV] at hfin
    obtain ⟨a4, cp4, hA4, hS4⟩ := hfin.1.cells
    have hgl : w.heap.size ≠ b := by have := HH.out.lt; omega
    have v1 : V.cell? ⟨b, 1, none⟩ = some (.slice (some ⟨g, off, none⟩) (n' + 1) cp) := by
      rw [← hV, World.cell?_setCell_other _ _ _ _ (fun e => by have := congrArg Addr.off e; simp at this)]
      exact p1
    have e41 := ((at_three hA4).2.1.1.symm.trans v1)
    injection e41 with e41
    injection e41 with e41 _ e42
    subst e41 e42
    have hWin := hS4.win
    have hlr : (⟨true, bc, bh⟩ :: r : List Bx).length = n' + 1 := by rw [List.length_cons, Hn.out]
    rw [hlr] at hWin
    have HWV : Hid (Win V 73 3 (.slice (some ⟨g, off, none⟩) (n' + 1) cp4) (n' + 1) (bxsL (⟨true, bc, bh⟩ :: r))) := Lib.hid hWin
    have HFV := Lib.hid hfin
    have HEV : Hid (V.cell? ⟨w.heap.size, 0, none⟩ = some (.int .i64 3) ∧ w.heap.size < V.heap.size) := Lib.hid (by
      rw [← hV]
      refine ⟨?_, by simp only [World.setCell, Array.size_modify]; exact HE2.out.lt⟩
      rw [World.cell?_setCell_other _ _ _ _ (fun e => hgl (congrArg Addr.block e).symm)]
      exact HE2.out.cell 0)
    have v0 := (at_three hA4).1.1
    have v1f := (at_three hA4).2.1.2
    clear hA4 hS4 hfin hWin p1
    go_wp2_with (first | (rw [hV]) | (at_builtin; refine wpList_append_win rfl _ _ _ rfl Try.underlying30 info_rbox rfl rfl (Win.nil_ _ _ _) _ rfl (n' + 1) _ (Win.src HWV.out Try.underlying30 (bxsL_one _)) ?e1 ?e2 ?_))
    case e1 => unfold maxLen; omega
    case e2 => omega
    intro v3 w3 hW3 hG3 hO3
    obtain ⟨g3, off3, c3, rfl, ⟨s0, ⟨u1, s1, s1'⟩, s2⟩, hg3, ⟨x2, x2'⟩, hWF, hBF⟩ := wm_inc Hn.out HFV.out.1 hM1 (by simpa using hW3.out) hG3.out (by simpa using hO3.out)
    simp only at x2 x2' hWF hBF
    have hgw : w.heap.size ≠ g3 := fun e => by
      have h1 := HEV.out.2
      rcases hO3.out with h | ⟨h, _⟩
      · simp [Value.ownBlock] at h
      · simp only [Value.ownBlock, Option.some.injEq] at h
        omega
    have hE5 : w3.cell? ⟨w.heap.size, 0, none⟩ = some (.int .i64 3) := (World.cell?_of_block (w := V) (a := ⟨w.heap.size, 0, none⟩) (hG3.out.block _ HEV.out.2 (by simp [Value.ownBlock]))).trans HEV.out.1
    have hg3' : b ≠ g3 := fun e => hg3 e.symm
    have hgw' : g3 ≠ w.heap.size := fun e => hgw e.symm
    have hgl' : b ≠ w.heap.size := fun e => hgl e.symm
    have HWF := Lib.hid (And.intro hWF ((HBB.out.mono hBw).bew.trans (HFV.out.2.trans hBF)))
    clear hWF hBF hW3 hG3 hO3 HWV v0 v1 v1f
    go_wp2
    go_ret2
    refine ⟨by rw [HC.out]; rfl, ?_⟩
    exact HWF.out
set_option maxRecDepth 100000 in
set_option maxHeartbeats 8000000 in
theorem wm_v6 {M B b : Nat} {w : World} {bc : Int} {bh : Nat} {r : List Bx} (h : WmAt M B w b ((⟨true, bc, bh⟩ : Bx) :: r) false) (hM1 : M + 1 ≤ 1000) (e : Ev) (hk : e.k = 0 ∨ e.k = 1 ∨ e.k = 2 ∨ e.k = 3 ∨ e.k = 4) (hkey : ¬ (keyB ((⟨true, bc, bh⟩ : Bx) :: r) = true ∧ e.k ≠ 3)) (X : ByteArray) (hX : X.size ≤ 100000) (hc0 : 0 ≤ bc) (hcc : bc ≤ 2305843009213693952) (hlim : (bh : Int) < 2 * bc) (he0 : bh % 2 = 0) (hk3 : e.k = 3)
    (hP : ∀ W, Calls Try.prog 28 #[.int .i64 3, evV e] W fun r w' => r = .returned (.tuple #[.string X, .int .i64 0]) ∧ Below W.heap.size W w') :
    Calls Try.prog 13 #[.pointer (some ⟨b, 0, none⟩), evV e] w fun q w' => q = .returned (.tuple #[.string X, .int .i64 0]) ∧ WmAt (M + 1) B w' b (incB ((⟨true, bc, bh⟩ : Bx) :: r)) false ∧ Bew B b w w' := by
  obtain ⟨a, cp, hA, hS⟩ := h.cells
  rw [show ((⟨true, bc, bh⟩ : Bx) :: r).length = r.length + 1 from rfl] at hA hS
  have hBw : B ≤ w.heap.size := h.low
  have HM : Hid (∀ X, Calls Try.prog 16 #[evV e] (w.alloc X) fun r w' => r = .returned (.bool true) ∧ Below (w.alloc X).heap.size (w.alloc X) w') := Lib.hid fun X => by
    have := may_any e (w.alloc X)
    rwa [decide_eq_true (show mayE e from ⟨by omega, by omega, by omega⟩)] at this
  have HP := Lib.hid hP
  obtain ⟨k, y, m, t, c⟩ := e
  obtain rfl : k = 3 := hk3
  simp only [evV] at HM HP hk hkey ⊢
  have HH := Lib.hid h
  have HS := Lib.hid hS
  have HA := Lib.hid hA
  obtain ⟨n', hn'⟩ : ∃ n', r.length = n' := ⟨_, rfl⟩
  have Hn := Lib.hid hn'
  have hn15 : n' ≤ 799 := by have := hS.deep; simp only [List.length_cons] at this; omega
  have hA0 := (hA.alloc (by simp) (.cells #[.int .i64 3, .bool y, .int .u64 m, .string t, .int .i64 c] 35))
  rw [hn'] at hA0
  obtain ⟨⟨k0, _⟩, ⟨k1, _⟩, ⟨k2, _⟩⟩ := at_three hA0
  have hbh := Nat.le_trans (hS.ok (⟨true, bc, bh⟩ : Bx) (by simp)).2 hS.most
  clear h hA hS hA0 hP hn'
  simp only [keyB] at hkey hbh
  have hn1 : ((n' : Int) + 1 == 0) = false := by rw [beq_eq_false_iff_ne]; omega
  have hz : (0 ≤ bc) = True := by simp only [eq_iff_iff, iff_true]; omega
  have hg : (bc ≤ 2305843009213693952) = True := by simp only [eq_iff_iff, iff_true]; omega
  have hl : (RowKit.wrap64 (2 * bc) ≤ (bh : Int)) = False := by rw [show RowKit.wrap64 (2 * bc) = 2 * bc by unfold RowKit.wrap64; omega]; simp only [eq_iff_iff, iff_false]; omega
  have fo : (((bh : Int) % 2) != 0) = false := by rw [bne_eq_false_iff_eq]; omega
  have fe : (((bh : Int) % 2) == 0) = true := by rw [beq_iff_eq]; omega
  clear hc0 hcc hlim he0
  have hcat : (⟨#[]⟩ : ByteArray) ++ X = X := by apply ByteArray.ext; simp
  have HC := Lib.hid hcat
  clear hcat
  go_enter Try.func13, Try.ntmps13
  go_wp2_with fail
  refine (HM.out _).mono ?_
  rintro e w1 ⟨rfl, hb1⟩
  have E1 := Lib.hid ((blk_new w _ _).go hb1)
  obtain ⟨⟨e0, e1, e2, e3, e4⟩, ef⟩ := E1.out.ev
  have hbw1 := up_trans (up_alloc (Below.refl w.heap.size w) (.cells #[.int .i64 3, .bool y, .int .u64 m, .string t, .int .i64 c] 35)) hb1
  have A1 := Lib.hid (HA.out.keep (hbw1.block b HH.out.lt))
  have HB1 := Lib.hid hbw1
  have D1 := Lib.hid (HS.out.go hbw1)
  rw [Hn.out] at A1
  clear hb1 ef k0 k1 k2 hbw1
  obtain ⟨⟨k0, q0⟩, ⟨k1, q1⟩, ⟨k2, q2⟩⟩ := at_three A1.out
  obtain ⟨g, off, N, cap', hv, hNa, hNb, ⟨y0, y1, y2⟩, _⟩ := D1.out.last
  injection hv with hv1 hv2 hv3
  subst hv1
  rw [Hn.out] at y0 y1 y2
  simp only at y0 y1 y2
  have kk0 : ∀ x, (w1.alloc x).cell? ⟨b, 0, none⟩ = some (.int .i64 3) := fun x => (at_three (A1.out.alloc (by simp) x)).1.1
  have kk1 : ∀ x, (w1.alloc x).cell? ⟨b, 1, none⟩ = some (.slice (some ⟨g, off, none⟩) (n' + 1) cp) := fun x => (at_three (A1.out.alloc (by simp) x)).2.1.1
  have ee0 : ∀ x, (w1.alloc x).cell? ⟨w.heap.size, 0, none⟩ = some (.int .i64 3) := fun x => (E1.out.alloc x).cell 0
  have ee1 : ∀ x, (w1.alloc x).cell? ⟨w.heap.size, 1, none⟩ = some (.bool y) := fun x => (E1.out.alloc x).cell 1
  have ee2 : ∀ x, (w1.alloc x).cell? ⟨w.heap.size, 2, none⟩ = some (.int .u64 m) := fun x => (E1.out.alloc x).cell 2
  have ee3 : ∀ x, (w1.alloc x).cell? ⟨w.heap.size, 3, none⟩ = some (.string t) := fun x => (E1.out.alloc x).cell 3
  have ee4 : ∀ x, (w1.alloc x).cell? ⟨w.heap.size, 4, none⟩ = some (.int .i64 c) := fun x => (E1.out.alloc x).cell 4
  clear hNa hNb hv2 hv3
  clear hkey hk
  go_wp2
  go_region_with (go_at_call 28; refine (HP.out _).mono ?_; rintro q w2 ⟨rfl, hb2⟩)
  all_goals
    have hb2' : Below (w1.alloc (.cells #[.bool true, .int .i64 bc, .int .i64 (bh : Int)] 73)).heap.size (w1.alloc (.cells #[.bool true, .int .i64 bc, .int .i64 (bh : Int)] 73)) w2 := ⟨hb2.os, hb2.tape, hb2.output, hb2.size, hb2.block⟩
    have hw12 : Below w1.heap.size w1 w2 := up_trans (up_alloc (Below.refl _ _) _) hb2'
    have HW2 := Lib.hid ((HH.out.go HB1.out).go hw12)
    have HE2 := Lib.hid (E1.out.go hw12)
    have HBB := Lib.hid (up_trans HB1.out hw12)
    obtain ⟨⟨p0, r0⟩, ⟨p1, r1⟩, ⟨p2, r2⟩⟩ := at_three (A1.out.keep (hw12.block b (Nat.lt_of_lt_of_le HH.out.lt HB1.out.size)))
    clear hb2 hb2' hw12 e0 e1 e2 e3 e4 k0 k1 k2 q0 q1 q2 kk0 kk1 ee0 ee1 ee2 ee3 ee4 y0 y1 y2
    obtain ⟨V, hV⟩ : ∃ V, w2.setCell ⟨b, 2, none⟩ (.bool false) = V := ⟨_, rfl⟩
    have hfin := HW2.out.fin false
    rw [hV] at hfin
    obtain ⟨a4, cp4, hA4, hS4⟩ := hfin.1.cells
    have hgl : w.heap.size ≠ b := by have := HH.out.lt; omega
    have v1 : V.cell? ⟨b, 1, none⟩ = some (.slice (some ⟨g, off, none⟩) (n' + 1) cp) := by
      rw [← hV, World.cell?_setCell_other _ _ _ _ (fun e => by have := congrArg Addr.off e; simp at this)]
      exact p1
    have e41 := ((at_three hA4).2.1.1.symm.trans v1)
    injection e41 with e41
    injection e41 with e41 _ e42
    subst e41 e42
    have hWin := hS4.win
    have hlr : (⟨true, bc, bh⟩ :: r : List Bx).length = n' + 1 := by rw [List.length_cons, Hn.out]
    rw [hlr] at hWin
    have HWV : Hid (Win V 73 3 (.slice (some ⟨g, off, none⟩) (n' + 1) cp4) (n' + 1) (bxsL (⟨true, bc, bh⟩ :: r))) := Lib.hid hWin
    have HFV := Lib.hid hfin
    have HEV : Hid (V.cell? ⟨w.heap.size, 0, none⟩ = some (.int .i64 3) ∧ w.heap.size < V.heap.size) := Lib.hid (by
      rw [← hV]
      refine ⟨?_, by simp only [World.setCell, Array.size_modify]; exact HE2.out.lt⟩
      rw [World.cell?_setCell_other _ _ _ _ (fun e => hgl (congrArg Addr.block e).symm)]
      exact HE2.out.cell 0)
    have v0 := (at_three hA4).1.1
    have v1f := (at_three hA4).2.1.2
    clear hA4 hS4 hfin hWin p1
    go_wp2_with (first | (rw [hV]) | (at_builtin; refine wpList_append_win rfl _ _ _ rfl Try.underlying30 info_rbox rfl rfl (Win.nil_ _ _ _) _ rfl (n' + 1) _ (Win.src HWV.out Try.underlying30 (bxsL_one _)) ?e1 ?e2 ?_))
    case e1 => unfold maxLen; omega
    case e2 => omega
    intro v3 w3 hW3 hG3 hO3
    obtain ⟨g3, off3, c3, rfl, ⟨s0, ⟨u1, s1, s1'⟩, s2⟩, hg3, ⟨x2, x2'⟩, hWF, hBF⟩ := wm_inc Hn.out HFV.out.1 hM1 (by simpa using hW3.out) hG3.out (by simpa using hO3.out)
    simp only at x2 x2' hWF hBF
    have hgw : w.heap.size ≠ g3 := fun e => by
      have h1 := HEV.out.2
      rcases hO3.out with h | ⟨h, _⟩
      · simp [Value.ownBlock] at h
      · simp only [Value.ownBlock, Option.some.injEq] at h
        omega
    have hE5 : w3.cell? ⟨w.heap.size, 0, none⟩ = some (.int .i64 3) := (World.cell?_of_block (w := V) (a := ⟨w.heap.size, 0, none⟩) (hG3.out.block _ HEV.out.2 (by simp [Value.ownBlock]))).trans HEV.out.1
    have hg3' : b ≠ g3 := fun e => hg3 e.symm
    have hgw' : g3 ≠ w.heap.size := fun e => hgw e.symm
    have hgl' : b ≠ w.heap.size := fun e => hgl e.symm
    have HWF := Lib.hid (And.intro hWF ((HBB.out.mono hBw).bew.trans (HFV.out.2.trans hBF)))
    clear hWF hBF hW3 hG3 hO3 HWV v0 v1 v1f
    go_wp2
    go_ret2
    refine ⟨by rw [HC.out]; rfl, ?_⟩
    exact HWF.out
end Go.Proofs.Ytonjdnahplphhaa
