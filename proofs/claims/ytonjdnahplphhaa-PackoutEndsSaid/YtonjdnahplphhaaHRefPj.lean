/-
  CONTRACT of the document's own Writer, for MessagePack (written by tools/mkrefg.py): a container begins as a value of a map (s: of a count below 16; l: of a greater one).
-/
import Derived.Test.YtonjdnahplphhaaHRefPg
import Derived.Test.YtonjdnahplphhaaHHeadRh
/-
  CONTRACT of the document's own Writer, for MessagePack (written by tools/mkrefg.py): a container begins as a value of a map (s: of a count below 16; l: of a greater one).
-/
namespace Go.Proofs.Ytonjdnahplphhaa
open Go.RowKit
open Go.Lib
set_option maxRecDepth 100000 in
set_option maxHeartbeats 8000000 in
theorem wm_omc_6l {M B b : Nat} {w : World} {bc : Int} {bh : Nat} {r : List Bx} (h : WmAt M B w b ((⟨true, bc, bh⟩ : Bx) :: r) false) (hM1 : M + 1 ≤ 1000) (hd : r.length + 1 < 800) (y : Bool) (m : Nat) (t : ByteArray) (c : Int) (hc : -1 ≤ c ∧ c ≤ 9223372036854775807) (hpos : 16 ≤ c) (hmax : c ≤ 4294967295) (X : ByteArray) (hX : X.size ≤ 100000)
    (hH : ∀ W, Calls Try.prog 27 #[.int .u64 c, .int .u8 0, .int .u8 222, .int .u8 223] W fun r w' => r = .returned (.string X) ∧ Below W.heap.size W w') (hc0 : 0 ≤ bc) (hcc : bc ≤ 2305843009213693952) (hlim : (bh : Int) < 2 * bc) (ho : bh % 2 = 1) :
    Calls Try.prog 13 #[.pointer (some ⟨b, 0, none⟩), evV ⟨6, y, m, t, c⟩] w fun q w' => q = .returned (.tuple #[.string X, .int .i64 0]) ∧ WmAt (M + 1) B w' b (⟨true, c, 0⟩ :: incB ((⟨true, bc, bh⟩ : Bx) :: r)) false ∧ Bew B b w w' := by
  obtain ⟨a, cp, hA, hS⟩ := h.cells
  rw [show ((⟨true, bc, bh⟩ : Bx) :: r).length = r.length + 1 from rfl] at hA hS
  have hBw : B ≤ w.heap.size := h.low
  have HM : Hid (∀ X, Calls Try.prog 16 #[evV ⟨6, y, m, t, c⟩] (w.alloc X) fun r w' => r = .returned (.bool true) ∧ Below (w.alloc X).heap.size (w.alloc X) w') := Lib.hid fun X => by
    have := may_any ⟨6, y, m, t, c⟩ (w.alloc X)
    rwa [decide_eq_true (show mayE ⟨6, y, m, t, c⟩ from ⟨by simp, by simp, fun _ => hc.1⟩)] at this
  simp only [evV] at HM ⊢
  have HH := Lib.hid h
  have HS := Lib.hid hS
  have HA := Lib.hid hA
  obtain ⟨n', hn'⟩ : ∃ n', r.length = n' := ⟨_, rfl⟩
  have Hn := Lib.hid hn'
  have hn15 : n' ≤ 798 := by omega
  have hA0 := (hA.alloc (by simp) (.cells #[.int .i64 6, .bool y, .int .u64 m, .string t, .int .i64 c] 35))
  rw [hn'] at hA0
  obtain ⟨⟨k0, _⟩, ⟨k1, _⟩, ⟨k2, _⟩⟩ := at_three hA0
  have hbh := Nat.le_trans (hS.ok (⟨true, bc, bh⟩ : Bx) (by simp)).2 hS.most
  clear h hA hS hA0 hn' hd
  simp only at hbh
  have hn1 : ((n' : Int) + 1 == 0) = false := by rw [beq_eq_false_iff_ne]; omega
  have hz : (0 ≤ bc) = True := by simp only [eq_iff_iff, iff_true]; omega
  have hg : (bc ≤ 2305843009213693952) = True := by simp only [eq_iff_iff, iff_true]; omega
  have hl : (RowKit.wrap64 (2 * bc) ≤ (bh : Int)) = False := by rw [show RowKit.wrap64 (2 * bc) = 2 * bc by unfold RowKit.wrap64; omega]; simp only [eq_iff_iff, iff_false]; omega
  have fo : (((bh : Int) % 2) != 0) = true := by rw [bne_iff_ne]; omega
  have fe : (((bh : Int) % 2) == 0) = false := by rw [beq_eq_false_iff_ne]; omega
  have hzn : (c < 0) = False := by simp only [eq_iff_iff, iff_false]; omega
  have hzg : (4294967295 < c) = False := by simp only [eq_iff_iff, iff_false]; omega
  have hz16 : (c < 16) = False := by simp only [eq_iff_iff, iff_false]; omega
  have hwc : IntKind.u64.wrap c = c := by simp [IntKind.wrap, IntKind.bits, IntKind.signed]; omega
  have HH4 := Lib.hid hH
  have HP4 := Lib.hid hpos
  have hcat : (⟨#[]⟩ : ByteArray) ++ X = X := by apply ByteArray.ext; simp
  have HC := Lib.hid hcat
  clear hcat hH hpos hmax
  clear hc0 hcc hlim ho
  go_enter Try.func13, Try.ntmps13
  go_wp2_with fail
  refine (HM.out _).mono ?_
  rintro e w1 ⟨rfl, hb1⟩
  have E1 := Lib.hid ((blk_new w _ _).go hb1)
  obtain ⟨⟨e0, e1, e2, e3, e4⟩, ef⟩ := E1.out.ev
  have hbw1 := up_trans (up_alloc (Below.refl w.heap.size w) (.cells #[.int .i64 6, .bool y, .int .u64 m, .string t, .int .i64 c] 35)) hb1
  have A1 := Lib.hid (HA.out.keep (hbw1.block b HH.out.lt))
  have HB1 := Lib.hid hbw1
  have D1 := Lib.hid (HS.out.go hbw1)
  rw [Hn.out] at A1
  clear hb1 ef k0 k1 k2 hbw1
  obtain ⟨⟨k0, q0⟩, ⟨k1, q1⟩, ⟨k2, q2⟩⟩ := at_three A1.out
  obtain ⟨g, off, N, cap', hv, hNa, hNb, ⟨y0, y1, y2⟩, _⟩ := D1.out.last
  injection hv with hv1 hv2 hv3
  subst hv1
  rw [Hn.out] at y0 y1 y2
  simp only at y0 y1 y2
  have kk0 : ∀ x, (w1.alloc x).cell? ⟨b, 0, none⟩ = some (.int .i64 3) := fun x => (at_three (A1.out.alloc (by simp) x)).1.1
  have kk1 : ∀ x, (w1.alloc x).cell? ⟨b, 1, none⟩ = some (.slice (some ⟨g, off, none⟩) (n' + 1) cp) := fun x => (at_three (A1.out.alloc (by simp) x)).2.1.1
  have ff1 : ∀ x, (w1.alloc x).frozen? ⟨b, 1, none⟩ = false := fun x => (at_three (A1.out.alloc (by simp) x)).2.1.2
  have ee0 : ∀ x, (w1.alloc x).cell? ⟨w.heap.size, 0, none⟩ = some (.int .i64 6) := fun x => (E1.out.alloc x).cell 0
  have ee4 : ∀ x, (w1.alloc x).cell? ⟨w.heap.size, 4, none⟩ = some (.int .i64 c) := fun x => (E1.out.alloc x).cell 4
  clear hNa hNb hv2 hv3
  go_wp2_with fail
  refine (HH4.out _).mono ?_
  rintro r9 w2 ⟨rfl, hb2⟩
  have hb2' : Below w1.heap.size w1 w2 := up_trans (up_alloc (Below.refl _ _) _) hb2
  have HB2 := Lib.hid (up_trans HB1.out hb2')
  have E2 := Lib.hid (E1.out.go hb2')
  have D2 := Lib.hid (D1.out.go hb2')
  have A2 := Lib.hid (A1.out.keep (hb2'.block b (Nat.lt_of_lt_of_le HH.out.lt HB1.out.size)))
  clear k0 q0 k1 q1 k2 q2 e0 e1 e2 e3 e4
  obtain ⟨⟨e0, e1, e2, e3, e4⟩, ef⟩ := E2.out.ev
  obtain ⟨⟨k0, q0⟩, ⟨k1, q1⟩, ⟨k2, q2⟩⟩ := at_three A2.out
  clear hb2 hb2' ef
  have hWin := D2.out.win
  have hlr : ((⟨true, bc, bh⟩ : Bx) :: r : List Bx).length = n' + 1 := by rw [List.length_cons, Hn.out]
  rw [hlr, Hn.out] at hWin
  have HWV := Lib.hid hWin
  have HFV := Lib.hid (HH.out.go HB2.out)
  have HEV := E2
  have hgl : w.heap.size ≠ b := by have := HH.out.lt; omega
  clear hWin
  go_wp2_with (at_builtin; refine wpList_append_win rfl _ _ _ rfl Try.underlying30 info_rbox rfl rfl (Win.nil_ _ _ _) _ rfl (n' + 1) _ (Win.src HWV.out Try.underlying30 (bxsL_one _)) ?e1 ?e2 ?_)
  case e1 => unfold maxLen; omega
  case e2 => omega
  intro v3 w3 hW3 hG3 hO3
  obtain ⟨g3, off3, c3, rfl, ⟨s0, ⟨u1, s1, s1'⟩, s2⟩, hg3, ⟨x2, x2'⟩, hWF, hBF⟩ := wm_inc Hn.out HFV.out hM1 (by simpa using hW3.out) hG3.out (by simpa using hO3.out)
  simp only at x2 x2' hWF hBF
  have hgw : w.heap.size ≠ g3 := fun e => by
    have h1 := E2.out.lt
    rcases hO3.out with h | ⟨h, _⟩
    · simp [Value.ownBlock] at h
    · simp only [Value.ownBlock, Option.some.injEq] at h
      omega
  have hE3 := HEV.out.lift hG3.out (by simp [Value.ownBlock])
  have hE5 := hE3.cell 0
  have hg3' : b ≠ g3 := fun e => hg3 e.symm
  have hgw' : g3 ≠ w.heap.size := fun e => hgw e.symm
  have hgl' : b ≠ w.heap.size := fun e => hgl e.symm
  have HE7 := Lib.hid ((hE3.far (p := ⟨b, 1, none⟩) hgl (.slice (some ⟨g3, off3, none⟩) (n' + 1) c3)).far (p := ⟨g3, off3 + n' * 3 + 2, none⟩) hgw (.int .i64 ((bh : Int) + 1)))
  have HWF := Lib.hid (And.intro hWF ((HB2.out.mono hBw).bew.trans hBF))
  clear hWF hBF hW3 hG3 hO3 HWV hE3 e0 e1 e2 e3 e4 k0 k1 k2 q0 q1 q2 kk0 kk1 ff1 ee0 ee4 y0 y1 y2
  try simp only [Int.natCast_zero, Int.zero_add] at x2 HE7
  go_wp2
  refine wm_grow (k := 6) (c := c) (mp := true) (n := n' + 1) HWF.out.1 (by rw [← hlr]; rfl) HE7.out rfl (by omega) (by omega) _ _ _ _ _ _ _ _ _ _ _ _ _ _ _ _ _ _ _ _ _ _ _ _ _ _ _ _ _ _ _ _ _ _ _ _ _ _ _ _ _ _ _ _ _ _ _ _ _ _ _ _ _ _ _ _ _ _ _ _ _ _ _ _ _ _ _ _ _ _ _ _ _ _ _ _ _ _ _ _ _ _ _ _ _ _ _ _ _ _ _ _ _ _ _ _ _ _ _ _ _ _ _ _ _ _ _ _ _ _ _ _ _ _ _ _ _ _ _ _ _ _ _ _ _ _ _ _ _ _ _ _ _ _ _ _ _ _ _ _ _ _ _ _ _ _ _ _ _ _ _ _ _ _ _ _ _ _ _ _ _ _ _ _ _ _ _ _ _ _ _ _ _ _ _ _ _ _ _ _ _ _ _ _ _ _ _ _ _ _ _ _ _ _ _ _ _ _ _ _ _ _ _ _ _ _ _ _ _ _ _ _ _ _ _ _ _ _ _ _ _ _ _ _ _ _ _ _ _ _ _ _ _ _ _ _ _ _ _ _ _ _ _ _ _ _ _ _ _ _ _ _ _ _ _ _ _ _ _ _ _ _ _ _ _ _ _ _ _ _ _ _ _ _ _ _ _ _ _ _ _ _ _ _ _ _ _ _ _ _ _ _ _ _ _ _ _ _ _ _ _ _ _ _ _ _ _ _ _ _ _ _ _ _ _ _ _ _ _ _ _ _ _ _ _ _ _ _ _ _ _ _ _ _ _ _ _ _ _ _ _ _ _ _ _ _ _ _ _ _ _ _ _ _ _ _ _ _ _ _ _ _ _ _ _ _ _ ?_
  intro a4 c4 w4 _ _ _ _ _ _ _ _ _ _ _ _ _ _ _ _ hWr hBl
  have HWr := Lib.hid hWr
  have HBl := Lib.hid hBl
  clear hWr hBl s0 s1 s1' s2 x2 x2' hE5
  go_wp2
  go_ret2
  exact ⟨by rw [HC.out]; rfl, HWr.out, HWF.out.2.trans HBl.out⟩
set_option maxRecDepth 100000 in
set_option maxHeartbeats 8000000 in
theorem wm_omc_5l {M B b : Nat} {w : World} {bc : Int} {bh : Nat} {r : List Bx} (h : WmAt M B w b ((⟨true, bc, bh⟩ : Bx) :: r) false) (hM1 : M + 1 ≤ 1000) (hd : r.length + 1 < 800) (y : Bool) (m : Nat) (t : ByteArray) (c : Int) (hc : -1 ≤ c ∧ c ≤ 9223372036854775807) (hpos : 16 ≤ c) (hmax : c ≤ 4294967295) (X : ByteArray) (hX : X.size ≤ 100000)
    (hH : ∀ W, Calls Try.prog 27 #[.int .u64 c, .int .u8 0, .int .u8 220, .int .u8 221] W fun r w' => r = .returned (.string X) ∧ Below W.heap.size W w') (hc0 : 0 ≤ bc) (hcc : bc ≤ 2305843009213693952) (hlim : (bh : Int) < 2 * bc) (ho : bh % 2 = 1) :
    Calls Try.prog 13 #[.pointer (some ⟨b, 0, none⟩), evV ⟨5, y, m, t, c⟩] w fun q w' => q = .returned (.tuple #[.string X, .int .i64 0]) ∧ WmAt (M + 1) B w' b (⟨false, c, 0⟩ :: incB ((⟨true, bc, bh⟩ : Bx) :: r)) false ∧ Bew B b w w' := by
  obtain ⟨a, cp, hA, hS⟩ := h.cells
  rw [show ((⟨true, bc, bh⟩ : Bx) :: r).length = r.length + 1 from rfl] at hA hS
  have hBw : B ≤ w.heap.size := h.low
  have HM : Hid (∀ X, Calls Try.prog 16 #[evV ⟨5, y, m, t, c⟩] (w.alloc X) fun r w' => r = .returned (.bool true) ∧ Below (w.alloc X).heap.size (w.alloc X) w') := Lib.hid fun X => by
    have := may_any ⟨5, y, m, t, c⟩ (w.alloc X)
    rwa [decide_eq_true (show mayE ⟨5, y, m, t, c⟩ from ⟨by simp, by simp, fun _ => hc.1⟩)] at this
  simp only [evV] at HM ⊢
  have HH := Lib.hid h
  have HS := Lib.hid hS
  have HA := Lib.hid hA
  obtain ⟨n', hn'⟩ : ∃ n', r.length = n' := ⟨_, rfl⟩
  have Hn := Lib.hid hn'
  have hn15 : n' ≤ 798 := by omega
  have hA0 := (hA.alloc (by simp) (.cells #[.int .i64 5, .bool y, .int .u64 m, .string t, .int .i64 c] 35))
  rw [hn'] at hA0
  obtain ⟨⟨k0, _⟩, ⟨k1, _⟩, ⟨k2, _⟩⟩ := at_three hA0
  have hbh := Nat.le_trans (hS.ok (⟨true, bc, bh⟩ : Bx) (by simp)).2 hS.most
  clear h hA hS hA0 hn' hd
  simp only at hbh
  have hn1 : ((n' : Int) + 1 == 0) = false := by rw [beq_eq_false_iff_ne]; omega
  have hz : (0 ≤ bc) = True := by simp only [eq_iff_iff, iff_true]; omega
  have hg : (bc ≤ 2305843009213693952) = True := by simp only [eq_iff_iff, iff_true]; omega
  have hl : (RowKit.wrap64 (2 * bc) ≤ (bh : Int)) = False := by rw [show RowKit.wrap64 (2 * bc) = 2 * bc by unfold RowKit.wrap64; omega]; simp only [eq_iff_iff, iff_false]; omega
  have fo : (((bh : Int) % 2) != 0) = true := by rw [bne_iff_ne]; omega
  have fe : (((bh : Int) % 2) == 0) = false := by rw [beq_eq_false_iff_ne]; omega
  have hzn : (c < 0) = False := by simp only [eq_iff_iff, iff_false]; omega
  have hzg : (4294967295 < c) = False := by simp only [eq_iff_iff, iff_false]; omega
  have hz16 : (c < 16) = False := by simp only [eq_iff_iff, iff_false]; omega
  have hwc : IntKind.u64.wrap c = c := by simp [IntKind.wrap, IntKind.bits, IntKind.signed]; omega
  have HH4 := Lib.hid hH
  have HP4 := Lib.hid hpos
  have hcat : (⟨#[]⟩ : ByteArray) ++ X = X := by apply ByteArray.ext; simp
  have HC := Lib.hid hcat
  clear hcat hH hpos hmax
  clear hc0 hcc hlim ho
  go_enter Try.func13, Try.ntmps13
  go_wp2_with fail
  refine (HM.out _).mono ?_
  rintro e w1 ⟨rfl, hb1⟩
  have E1 := Lib.hid ((blk_new w _ _).go hb1)
  obtain ⟨⟨e0, e1, e2, e3, e4⟩, ef⟩ := E1.out.ev
  have hbw1 := up_trans (up_alloc (Below.refl w.heap.size w) (.cells #[.int .i64 5, .bool y, .int .u64 m, .string t, .int .i64 c] 35)) hb1
  have A1 := Lib.hid (HA.out.keep (hbw1.block b HH.out.lt))
  have HB1 := Lib.hid hbw1
  have D1 := Lib.hid (HS.out.go hbw1)
  rw [Hn.out] at A1
  clear hb1 ef k0 k1 k2 hbw1
  obtain ⟨⟨k0, q0⟩, ⟨k1, q1⟩, ⟨k2, q2⟩⟩ := at_three A1.out
  obtain ⟨g, off, N, cap', hv, hNa, hNb, ⟨y0, y1, y2⟩, _⟩ := D1.out.last
  injection hv with hv1 hv2 hv3
  subst hv1
  rw [Hn.out] at y0 y1 y2
  simp only at y0 y1 y2
  have kk0 : ∀ x, (w1.alloc x).cell? ⟨b, 0, none⟩ = some (.int .i64 3) := fun x => (at_three (A1.out.alloc (by simp) x)).1.1
  have kk1 : ∀ x, (w1.alloc x).cell? ⟨b, 1, none⟩ = some (.slice (some ⟨g, off, none⟩) (n' + 1) cp) := fun x => (at_three (A1.out.alloc (by simp) x)).2.1.1
  have ff1 : ∀ x, (w1.alloc x).frozen? ⟨b, 1, none⟩ = false := fun x => (at_three (A1.out.alloc (by simp) x)).2.1.2
  have ee0 : ∀ x, (w1.alloc x).cell? ⟨w.heap.size, 0, none⟩ = some (.int .i64 5) := fun x => (E1.out.alloc x).cell 0
  have ee4 : ∀ x, (w1.alloc x).cell? ⟨w.heap.size, 4, none⟩ = some (.int .i64 c) := fun x => (E1.out.alloc x).cell 4
  clear hNa hNb hv2 hv3
  go_wp2_with fail
  refine (HH4.out _).mono ?_
  rintro r9 w2 ⟨rfl, hb2⟩
  have hb2' : Below w1.heap.size w1 w2 := up_trans (up_alloc (Below.refl _ _) _) hb2
  have HB2 := Lib.hid (up_trans HB1.out hb2')
  have E2 := Lib.hid (E1.out.go hb2')
  have D2 := Lib.hid (D1.out.go hb2')
  have A2 := Lib.hid (A1.out.keep (hb2'.block b (Nat.lt_of_lt_of_le HH.out.lt HB1.out.size)))
  clear k0 q0 k1 q1 k2 q2 e0 e1 e2 e3 e4
  obtain ⟨⟨e0, e1, e2, e3, e4⟩, ef⟩ := E2.out.ev
  obtain ⟨⟨k0, q0⟩, ⟨k1, q1⟩, ⟨k2, q2⟩⟩ := at_three A2.out
  clear hb2 hb2' ef
  have hWin := D2.out.win
  have hlr : ((⟨true, bc, bh⟩ : Bx) :: r : List Bx).length = n' + 1 := by rw [List.length_cons, Hn.out]
  rw [hlr, Hn.out] at hWin
  have HWV := Lib.hid hWin
  have HFV := Lib.hid (HH.out.go HB2.out)
  have HEV := E2
  have hgl : w.heap.size ≠ b := by have := HH.out.lt; omega
  clear hWin
  go_wp2_with (at_builtin; refine wpList_append_win rfl _ _ _ rfl Try.underlying30 info_rbox rfl rfl (Win.nil_ _ _ _) _ rfl (n' + 1) _ (Win.src HWV.out Try.underlying30 (bxsL_one _)) ?e1 ?e2 ?_)
  case e1 => unfold maxLen; omega
  case e2 => omega
  intro v3 w3 hW3 hG3 hO3
  obtain ⟨g3, off3, c3, rfl, ⟨s0, ⟨u1, s1, s1'⟩, s2⟩, hg3, ⟨x2, x2'⟩, hWF, hBF⟩ := wm_inc Hn.out HFV.out hM1 (by simpa using hW3.out) hG3.out (by simpa using hO3.out)
  simp only at x2 x2' hWF hBF
  have hgw : w.heap.size ≠ g3 := fun e => by
    have h1 := E2.out.lt
    rcases hO3.out with h | ⟨h, _⟩
    · simp [Value.ownBlock] at h
    · simp only [Value.ownBlock, Option.some.injEq] at h
      omega
  have hE3 := HEV.out.lift hG3.out (by simp [Value.ownBlock])
  have hE5 := hE3.cell 0
  have hg3' : b ≠ g3 := fun e => hg3 e.symm
  have hgw' : g3 ≠ w.heap.size := fun e => hgw e.symm
  have hgl' : b ≠ w.heap.size := fun e => hgl e.symm
  have HE7 := Lib.hid ((hE3.far (p := ⟨b, 1, none⟩) hgl (.slice (some ⟨g3, off3, none⟩) (n' + 1) c3)).far (p := ⟨g3, off3 + n' * 3 + 2, none⟩) hgw (.int .i64 ((bh : Int) + 1)))
  have HWF := Lib.hid (And.intro hWF ((HB2.out.mono hBw).bew.trans hBF))
  clear hWF hBF hW3 hG3 hO3 HWV hE3 e0 e1 e2 e3 e4 k0 k1 k2 q0 q1 q2 kk0 kk1 ff1 ee0 ee4 y0 y1 y2
  try simp only [Int.natCast_zero, Int.zero_add] at x2 HE7
  go_wp2
  refine wm_grow (k := 5) (c := c) (mp := false) (n := n' + 1) HWF.out.1 (by rw [← hlr]; rfl) HE7.out rfl (by omega) (by omega) _ _ _ _ _ _ _ _ _ _ _ _ _ _ _ _ _ _ _ _ _ _ _ _ _ _ _ _ _ _ _ _ _ _ _ _ _ _ _ _ _ _ _ _ _ _ _ _ _ _ _ _ _ _ _ _ _ _ _ _ _ _ _ _ _ _ _ _ _ _ _ _ _ _ _ _ _ _ _ _ _ _ _ _ _ _ _ _ _ _ _ _ _ _ _ _ _ _ _ _ _ _ _ _ _ _ _ _ _ _ _ _ _ _ _ _ _ _ _ _ _ _ _ _ _ _ _ _ _ _ _ _ _ _ _ _ _ _ _ _ _ _ _ _ _ _ _ _ _ _ _ _ _ _ _ _ _ _ _ _ _ _ _ _ _ _ _ _ _ _ _ _ _ _ _ _ _ _ _ _ _ _ _ _ _ _ _ _ _ _ _ _ _ _ _ _ _ _ _ _ _ _ _ _ _ _ _ _ _ _ _ _ _ _ _ _ _ _ _ _ _ _ _ _ _ _ _ _ _ _ _ _ _ _ _ _ _ _ _ _ _ _ _ _ _ _ _ _ _ _ _ _ _ _ _ _ _ _ _ _ _ _ _ _ _ _ _ _ _ _ _ _ _ _ _ _ _ _ _ _ _ _ _ _ _ _ _ _ _ _ _ _ _ _ _ _ _ _ _ _ _ _ _ _ _ _ _ _ _ _ _ _ _ _ _ _ _ _ _ _ _ _ _ _ _ _ _ _ _ _ _ _ _ _ _ _ _ _ _ _ _ _ _ _ _ _ _ _ _ _ _ _ _ _ _ _ _ _ _ _ _ _ _ _ _ _ _ ?_
  intro a4 c4 w4 _ _ _ _ _ _ _ _ _ _ _ _ _ _ _ _ hWr hBl
  have HWr := Lib.hid hWr
  have HBl := Lib.hid hBl
  clear hWr hBl s0 s1 s1' s2 x2 x2' hE5
  go_wp2
  go_ret2
  exact ⟨by rw [HC.out]; rfl, HWr.out, HWF.out.2.trans HBl.out⟩
set_option maxRecDepth 100000 in
set_option maxHeartbeats 8000000 in
theorem wm_omc_6s {M B b : Nat} {w : World} {bc : Int} {bh : Nat} {r : List Bx} (h : WmAt M B w b ((⟨true, bc, bh⟩ : Bx) :: r) false) (hM1 : M + 1 ≤ 1000) (hd : r.length + 1 < 800) (y : Bool) (m : Nat) (t : ByteArray) (c : Int) (hc : -1 ≤ c ∧ c ≤ 9223372036854775807) (hpos : 0 ≤ c ∧ c < 16) (hc0 : 0 ≤ bc) (hcc : bc ≤ 2305843009213693952) (hlim : (bh : Int) < 2 * bc) (ho : bh % 2 = 1) :
    Calls Try.prog 13 #[.pointer (some ⟨b, 0, none⟩), evV ⟨6, y, m, t, c⟩] w fun q w' => q = .returned (.tuple #[.string ⟨#[UInt8.ofNat (128 + c.toNat)]⟩, .int .i64 0]) ∧ WmAt (M + 1) B w' b (⟨true, c, 0⟩ :: incB ((⟨true, bc, bh⟩ : Bx) :: r)) false ∧ Bew B b w w' := by
  obtain ⟨a, cp, hA, hS⟩ := h.cells
  rw [show ((⟨true, bc, bh⟩ : Bx) :: r).length = r.length + 1 from rfl] at hA hS
  have hBw : B ≤ w.heap.size := h.low
  have HM : Hid (∀ X, Calls Try.prog 16 #[evV ⟨6, y, m, t, c⟩] (w.alloc X) fun r w' => r = .returned (.bool true) ∧ Below (w.alloc X).heap.size (w.alloc X) w') := Lib.hid fun X => by
    have := may_any ⟨6, y, m, t, c⟩ (w.alloc X)
    rwa [decide_eq_true (show mayE ⟨6, y, m, t, c⟩ from ⟨by simp, by simp, fun _ => hc.1⟩)] at this
  simp only [evV] at HM ⊢
  have HH := Lib.hid h
  have HS := Lib.hid hS
  have HA := Lib.hid hA
  obtain ⟨n', hn'⟩ : ∃ n', r.length = n' := ⟨_, rfl⟩
  have Hn := Lib.hid hn'
  have hn15 : n' ≤ 798 := by omega
  have hA0 := (hA.alloc (by simp) (.cells #[.int .i64 6, .bool y, .int .u64 m, .string t, .int .i64 c] 35))
  rw [hn'] at hA0
  obtain ⟨⟨k0, _⟩, ⟨k1, _⟩, ⟨k2, _⟩⟩ := at_three hA0
  have hbh := Nat.le_trans (hS.ok (⟨true, bc, bh⟩ : Bx) (by simp)).2 hS.most
  clear h hA hS hA0 hn' hd
  simp only at hbh
  have hn1 : ((n' : Int) + 1 == 0) = false := by rw [beq_eq_false_iff_ne]; omega
  have hz : (0 ≤ bc) = True := by simp only [eq_iff_iff, iff_true]; omega
  have hg : (bc ≤ 2305843009213693952) = True := by simp only [eq_iff_iff, iff_true]; omega
  have hl : (RowKit.wrap64 (2 * bc) ≤ (bh : Int)) = False := by rw [show RowKit.wrap64 (2 * bc) = 2 * bc by unfold RowKit.wrap64; omega]; simp only [eq_iff_iff, iff_false]; omega
  have fo : (((bh : Int) % 2) != 0) = true := by rw [bne_iff_ne]; omega
  have fe : (((bh : Int) % 2) == 0) = false := by rw [beq_eq_false_iff_ne]; omega
  have hzn : (c < 0) = False := by simp only [eq_iff_iff, iff_false]; omega
  have hwc : IntKind.u64.wrap c = c := by simp [IntKind.wrap, IntKind.bits, IntKind.signed]; omega
  have hzg : (4294967295 < c) = False := by simp only [eq_iff_iff, iff_false]; omega
  have hz16 : (c < 16) = True := by simp only [eq_iff_iff, iff_true]; omega
  have hw1 : IntKind.u64.wrap (128 + c) = 128 + c := by simp [IntKind.wrap, IntKind.bits, IntKind.signed]; omega
  have hw2 : IntKind.u8.wrap (128 + c) = 128 + c := by simp [IntKind.wrap, IntKind.bits, IntKind.signed]; omega
  have hcx : (128 : Int) + c = (((UInt8.ofNat (128 + c.toNat)).toNat : Nat) : Int) := by simp; omega
  obtain ⟨X, hX⟩ : ∃ X : ByteArray, (⟨#[UInt8.ofNat (128 + c.toNat)]⟩ : ByteArray) = X := ⟨_, rfl⟩
  rw [hX]
  have hXs : X.size ≤ 100000 := by rw [← hX]; show 1 ≤ 100000; omega
  have hcat : (⟨#[]⟩ : ByteArray) ++ X = X := by apply ByteArray.ext; simp
  have HC := Lib.hid hcat
  have HCX := Lib.hid hcx
  have HXX := Lib.hid hX
  clear hcat hpos hcx hX
  clear hc0 hcc hlim ho
  go_enter Try.func13, Try.ntmps13
  go_wp2_with fail
  refine (HM.out _).mono ?_
  rintro e w1 ⟨rfl, hb1⟩
  have E1 := Lib.hid ((blk_new w _ _).go hb1)
  obtain ⟨⟨e0, e1, e2, e3, e4⟩, ef⟩ := E1.out.ev
  have hbw1 := up_trans (up_alloc (Below.refl w.heap.size w) (.cells #[.int .i64 6, .bool y, .int .u64 m, .string t, .int .i64 c] 35)) hb1
  have A1 := Lib.hid (HA.out.keep (hbw1.block b HH.out.lt))
  have HB1 := Lib.hid hbw1
  have D1 := Lib.hid (HS.out.go hbw1)
  rw [Hn.out] at A1
  clear hb1 ef k0 k1 k2 hbw1
  obtain ⟨⟨k0, q0⟩, ⟨k1, q1⟩, ⟨k2, q2⟩⟩ := at_three A1.out
  obtain ⟨g, off, N, cap', hv, hNa, hNb, ⟨y0, y1, y2⟩, _⟩ := D1.out.last
  injection hv with hv1 hv2 hv3
  subst hv1
  rw [Hn.out] at y0 y1 y2
  simp only at y0 y1 y2
  have kk0 : ∀ x, (w1.alloc x).cell? ⟨b, 0, none⟩ = some (.int .i64 3) := fun x => (at_three (A1.out.alloc (by simp) x)).1.1
  have kk1 : ∀ x, (w1.alloc x).cell? ⟨b, 1, none⟩ = some (.slice (some ⟨g, off, none⟩) (n' + 1) cp) := fun x => (at_three (A1.out.alloc (by simp) x)).2.1.1
  have ff1 : ∀ x, (w1.alloc x).frozen? ⟨b, 1, none⟩ = false := fun x => (at_three (A1.out.alloc (by simp) x)).2.1.2
  have ee0 : ∀ x, (w1.alloc x).cell? ⟨w.heap.size, 0, none⟩ = some (.int .i64 6) := fun x => (E1.out.alloc x).cell 0
  have ee4 : ∀ x, (w1.alloc x).cell? ⟨w.heap.size, 4, none⟩ = some (.int .i64 c) := fun x => (E1.out.alloc x).cell 4
  clear hNa hNb hv2 hv3
  obtain ⟨w2, hw2'⟩ : ∃ w2, (w1.alloc (.cells #[.bool true, .int .i64 bc, .int .i64 (bh : Int)] 73)).alloc (.cells #[.int .u8 ((128 : Int) + c)] 5) = w2 := ⟨_, rfl⟩
  have hcv : (convert 60 9 (.slice (some ⟨w1.heap.size + 1, 0, none⟩) 1 1)).run Try.prog ((w1.alloc (.cells #[.bool true, .int .i64 bc, .int .i64 (bh : Int)] 73)).alloc (.cells #[.int .u8 ((128 : Int) + c)] 5)) = .ok (.string X) w2 := by
    have h9 := ho_new (w1.alloc (.cells #[.bool true, .int .i64 bc, .int .i64 (bh : Int)] 73)) (UInt8.ofNat (128 + c.toNat)) ((128 : Int) + c) HCX.out
    rw [HXX.out, hw2'] at h9
    rw [hw2']
    rw [show (w1.alloc (.cells #[.bool true, .int .i64 bc, .int .i64 (bh : Int)] 73)).heap.size = w1.heap.size + 1 by simp] at h9
    exact h9
  have hb2 : Below (w1.alloc (.cells #[.bool true, .int .i64 bc, .int .i64 (bh : Int)] 73)).heap.size (w1.alloc (.cells #[.bool true, .int .i64 bc, .int .i64 (bh : Int)] 73)) w2 := hw2' ▸ up_alloc (Below.refl _ _) _
  have hb2' : Below w1.heap.size w1 w2 := up_trans (up_alloc (Below.refl _ _) _) hb2
  have HB2 := Lib.hid (up_trans HB1.out hb2')
  have E2 := Lib.hid (E1.out.go hb2')
  have D2 := Lib.hid (D1.out.go hb2')
  have A2 := Lib.hid (A1.out.keep (hb2'.block b (Nat.lt_of_lt_of_le HH.out.lt HB1.out.size)))
  obtain ⟨⟨e0', e1', e2', e3', e4'⟩, ef'⟩ := E2.out.ev
  obtain ⟨⟨k0', q0'⟩, ⟨k1', q1'⟩, ⟨k2', q2'⟩⟩ := at_three A2.out
  have HW2 := Lib.hid hw2'
  clear hb2 hb2' hw2'
  have hWin := D2.out.win
  have hlr : ((⟨true, bc, bh⟩ : Bx) :: r : List Bx).length = n' + 1 := by rw [List.length_cons, Hn.out]
  rw [hlr, Hn.out] at hWin
  have HWV := Lib.hid hWin
  have HFV := Lib.hid (HH.out.go HB2.out)
  have HEV := E2
  have hgl : w.heap.size ≠ b := by have := HH.out.lt; omega
  clear hWin
  go_wp2_with (at_builtin; refine wpList_append_win rfl _ _ _ rfl Try.underlying30 info_rbox rfl rfl (Win.nil_ _ _ _) _ rfl (n' + 1) _ (Win.src HWV.out Try.underlying30 (bxsL_one _)) ?e1 ?e2 ?_)
  case e1 => unfold maxLen; omega
  case e2 => omega
  intro v3 w3 hW3 hG3 hO3
  obtain ⟨g3, off3, c3, rfl, ⟨s0, ⟨u1, s1, s1'⟩, s2⟩, hg3, ⟨x2, x2'⟩, hWF, hBF⟩ := wm_inc Hn.out HFV.out hM1 (by simpa using hW3.out) hG3.out (by simpa using hO3.out)
  simp only at x2 x2' hWF hBF
  have hgw : w.heap.size ≠ g3 := fun e => by
    have h1 := E2.out.lt
    rcases hO3.out with h | ⟨h, _⟩
    · simp [Value.ownBlock] at h
    · simp only [Value.ownBlock, Option.some.injEq] at h
      omega
  have hE3 := HEV.out.lift hG3.out (by simp [Value.ownBlock])
  have hE5 := hE3.cell 0
  have hg3' : b ≠ g3 := fun e => hg3 e.symm
  have hgw' : g3 ≠ w.heap.size := fun e => hgw e.symm
  have hgl' : b ≠ w.heap.size := fun e => hgl e.symm
  have HE7 := Lib.hid ((hE3.far (p := ⟨b, 1, none⟩) hgl (.slice (some ⟨g3, off3, none⟩) (n' + 1) c3)).far (p := ⟨g3, off3 + n' * 3 + 2, none⟩) hgw (.int .i64 ((bh : Int) + 1)))
  have HWF := Lib.hid (And.intro hWF ((HB2.out.mono hBw).bew.trans hBF))
  clear hWF hBF hW3 hG3 hO3 HWV hE3 e0 e1 e2 e3 e4 k0 k1 k2 q0 q1 q2 kk0 kk1 ff1 ee0 ee4 y0 y1 y2
  try simp only [Int.natCast_zero, Int.zero_add] at x2 HE7
  go_wp2
  refine wm_grow (k := 6) (c := c) (mp := true) (n := n' + 1) HWF.out.1 (by rw [← hlr]; rfl) HE7.out rfl (by omega) (by omega) _ _ _ _ _ _ _ _ _ _ _ _ _ _ _ _ _ _ _ _ _ _ _ _ _ _ _ _ _ _ _ _ _ _ _ _ _ _ _ _ _ _ _ _ _ _ _ _ _ _ _ _ _ _ _ _ _ _ _ _ _ _ _ _ _ _ _ _ _ _ _ _ _ _ _ _ _ _ _ _ _ _ _ _ _ _ _ _ _ _ _ _ _ _ _ _ _ _ _ _ _ _ _ _ _ _ _ _ _ _ _ _ _ _ _ _ _ _ _ _ _ _ _ _ _ _ _ _ _ _ _ _ _ _ _ _ _ _ _ _ _ _ _ _ _ _ _ _ _ _ _ _ _ _ _ _ _ _ _ _ _ _ _ _ _ _ _ _ _ _ _ _ _ _ _ _ _ _ _ _ _ _ _ _ _ _ _ _ _ _ _ _ _ _ _ _ _ _ _ _ _ _ _ _ _ _ _ _ _ _ _ _ _ _ _ _ _ _ _ _ _ _ _ _ _ _ _ _ _ _ _ _ _ _ _ _ _ _ _ _ _ _ _ _ _ _ _ _ _ _ _ _ _ _ _ _ _ _ _ _ _ _ _ _ _ _ _ _ _ _ _ _ _ _ _ _ _ _ _ _ _ _ _ _ _ _ _ _ _ _ _ _ _ _ _ _ _ _ _ _ _ _ _ _ _ _ _ _ _ _ _ _ _ _ _ _ _ _ _ _ _ _ _ _ _ _ _ _ _ _ _ _ _ _ _ _ _ _ _ _ _ _ _ _ _ _ _ _ _ _ _ _ _ _ _ _ _ _ _ _ _ _ _ _ _ _ _ ?_
  intro a4 c4 w4 _ _ _ _ _ _ _ _ _ _ _ _ _ _ _ _ hWr hBl
  have HWr := Lib.hid hWr
  have HBl := Lib.hid hBl
  clear hWr hBl s0 s1 s1' s2 x2 x2' hE5
  go_wp2
  go_ret2
  exact ⟨by rw [HC.out]; rfl, HWr.out, HWF.out.2.trans HBl.out⟩
set_option maxRecDepth 100000 in
set_option maxHeartbeats 8000000 in
theorem wm_omc_5s {M B b : Nat} {w : World} {bc : Int} {bh : Nat} {r : List Bx} (h : WmAt M B w b ((⟨true, bc, bh⟩ : Bx) :: r) false) (hM1 : M + 1 ≤ 1000) (hd : r.length + 1 < 800) (y : Bool) (m : Nat) (t : ByteArray) (c : Int) (hc : -1 ≤ c ∧ c ≤ 9223372036854775807) (hpos : 0 ≤ c ∧ c < 16) (hc0 : 0 ≤ bc) (hcc : bc ≤ 2305843009213693952) (hlim : (bh : Int) < 2 * bc) (ho : bh % 2 = 1) :
    Calls Try.prog 13 #[.pointer (some ⟨b, 0, none⟩), evV ⟨5, y, m, t, c⟩] w fun q w' => q = .returned (.tuple #[.string ⟨#[UInt8.ofNat (144 + c.toNat)]⟩, .int .i64 0]) ∧ WmAt (M + 1) B w' b (⟨false, c, 0⟩ :: incB ((⟨true, bc, bh⟩ : Bx) :: r)) false ∧ Bew B b w w' := by
  obtain ⟨a, cp, hA, hS⟩ := h.cells
  rw [show ((⟨true, bc, bh⟩ : Bx) :: r).length = r.length + 1 from rfl] at hA hS
  have hBw : B ≤ w.heap.size := h.low
  have HM : Hid (∀ X, Calls Try.prog 16 #[evV ⟨5, y, m, t, c⟩] (w.alloc X) fun r w' => r = .returned (.bool true) ∧ Below (w.alloc X).heap.size (w.alloc X) w') := Lib.hid fun X => by
    have := may_any ⟨5, y, m, t, c⟩ (w.alloc X)
    rwa [decide_eq_true (show mayE ⟨5, y, m, t, c⟩ from ⟨by simp, by simp, fun _ => hc.1⟩)] at this
  simp only [evV] at HM ⊢
  have HH := Lib.hid h
  have HS := Lib.hid hS
  have HA := Lib.hid hA
  obtain ⟨n', hn'⟩ : ∃ n', r.length = n' := ⟨_, rfl⟩
  have Hn := Lib.hid hn'
  have hn15 : n' ≤ 798 := by omega
  have hA0 := (hA.alloc (by simp) (.cells #[.int .i64 5, .bool y, .int .u64 m, .string t, .int .i64 c] 35))
  rw [hn'] at hA0
  obtain ⟨⟨k0, _⟩, ⟨k1, _⟩, ⟨k2, _⟩⟩ := at_three hA0
  have hbh := Nat.le_trans (hS.ok (⟨true, bc, bh⟩ : Bx) (by simp)).2 hS.most
  clear h hA hS hA0 hn' hd
  simp only at hbh
  have hn1 : ((n' : Int) + 1 == 0) = false := by rw [beq_eq_false_iff_ne]; omega
  have hz : (0 ≤ bc) = True := by simp only [eq_iff_iff, iff_true]; omega
  have hg : (bc ≤ 2305843009213693952) = True := by simp only [eq_iff_iff, iff_true]; omega
  have hl : (RowKit.wrap64 (2 * bc) ≤ (bh : Int)) = False := by rw [show RowKit.wrap64 (2 * bc) = 2 * bc by unfold RowKit.wrap64; omega]; simp only [eq_iff_iff, iff_false]; omega
  have fo : (((bh : Int) % 2) != 0) = true := by rw [bne_iff_ne]; omega
  have fe : (((bh : Int) % 2) == 0) = false := by rw [beq_eq_false_iff_ne]; omega
  have hzn : (c < 0) = False := by simp only [eq_iff_iff, iff_false]; omega
  have hwc : IntKind.u64.wrap c = c := by simp [IntKind.wrap, IntKind.bits, IntKind.signed]; omega
  have hzg : (4294967295 < c) = False := by simp only [eq_iff_iff, iff_false]; omega
  have hz16 : (c < 16) = True := by simp only [eq_iff_iff, iff_true]; omega
  have hw1 : IntKind.u64.wrap (144 + c) = 144 + c := by simp [IntKind.wrap, IntKind.bits, IntKind.signed]; omega
  have hw2 : IntKind.u8.wrap (144 + c) = 144 + c := by simp [IntKind.wrap, IntKind.bits, IntKind.signed]; omega
  have hcx : (144 : Int) + c = (((UInt8.ofNat (144 + c.toNat)).toNat : Nat) : Int) := by simp; omega
  obtain ⟨X, hX⟩ : ∃ X : ByteArray, (⟨#[UInt8.ofNat (144 + c.toNat)]⟩ : ByteArray) = X := ⟨_, rfl⟩
  rw [hX]
  have hXs : X.size ≤ 100000 := by rw [← hX]; show 1 ≤ 100000; omega
  have hcat : (⟨#[]⟩ : ByteArray) ++ X = X := by apply ByteArray.ext; simp
  have HC := Lib.hid hcat
  have HCX := Lib.hid hcx
  have HXX := Lib.hid hX
  clear hcat hpos hcx hX
  clear hc0 hcc hlim ho
  go_enter Try.func13, Try.ntmps13
  go_wp2_with fail
  refine (HM.out _).mono ?_
  rintro e w1 ⟨rfl, hb1⟩
  have E1 := Lib.hid ((blk_new w _ _).go hb1)
  obtain ⟨⟨e0, e1, e2, e3, e4⟩, ef⟩ := E1.out.ev
  have hbw1 := up_trans (up_alloc (Below.refl w.heap.size w) (.cells #[.int .i64 5, .bool y, .int .u64 m, .string t, .int .i64 c] 35)) hb1
  have A1 := Lib.hid (HA.out.keep (hbw1.block b HH.out.lt))
  have HB1 := Lib.hid hbw1
  have D1 := Lib.hid (HS.out.go hbw1)
  rw [Hn.out] at A1
  clear hb1 ef k0 k1 k2 hbw1
  obtain ⟨⟨k0, q0⟩, ⟨k1, q1⟩, ⟨k2, q2⟩⟩ := at_three A1.out
  obtain ⟨g, off, N, cap', hv, hNa, hNb, ⟨y0, y1, y2⟩, _⟩ := D1.out.last
  injection hv with hv1 hv2 hv3
  subst hv1
  rw [Hn.out] at y0 y1 y2
  simp only at y0 y1 y2
  have kk0 : ∀ x, (w1.alloc x).cell? ⟨b, 0, none⟩ = some (.int .i64 3) := fun x => (at_three (A1.out.alloc (by simp) x)).1.1
  have kk1 : ∀ x, (w1.alloc x).cell? ⟨b, 1, none⟩ = some (.slice (some ⟨g, off, none⟩) (n' + 1) cp) := fun x => (at_three (A1.out.alloc (by simp) x)).2.1.1
  have ff1 : ∀ x, (w1.alloc x).frozen? ⟨b, 1, none⟩ = false := fun x => (at_three (A1.out.alloc (by simp) x)).2.1.2
  have ee0 : ∀ x, (w1.alloc x).cell? ⟨w.heap.size, 0, none⟩ = some (.int .i64 5) := fun x => (E1.out.alloc x).cell 0
  have ee4 : ∀ x, (w1.alloc x).cell? ⟨w.heap.size, 4, none⟩ = some (.int .i64 c) := fun x => (E1.out.alloc x).cell 4
  clear hNa hNb hv2 hv3
  obtain ⟨w2, hw2'⟩ : ∃ w2, (w1.alloc (.cells #[.bool true, .int .i64 bc, .int .i64 (bh : Int)] 73)).alloc (.cells #[.int .u8 ((144 : Int) + c)] 5) = w2 := ⟨_, rfl⟩
  have hcv : (convert 60 9 (.slice (some ⟨w1.heap.size + 1, 0, none⟩) 1 1)).run Try.prog ((w1.alloc (.cells #[.bool true, .int .i64 bc, .int .i64 (bh : Int)] 73)).alloc (.cells #[.int .u8 ((144 : Int) + c)] 5)) = .ok (.string X) w2 := by
    have h9 := ho_new (w1.alloc (.cells #[.bool true, .int .i64 bc, .int .i64 (bh : Int)] 73)) (UInt8.ofNat (144 + c.toNat)) ((144 : Int) + c) HCX.out
    rw [HXX.out, hw2'] at h9
    rw [hw2']
    rw [show (w1.alloc (.cells #[.bool true, .int .i64 bc, .int .i64 (bh : Int)] 73)).heap.size = w1.heap.size + 1 by simp] at h9
    exact h9
  have hb2 : Below (w1.alloc (.cells #[.bool true, .int .i64 bc, .int .i64 (bh : Int)] 73)).heap.size (w1.alloc (.cells #[.bool true, .int .i64 bc, .int .i64 (bh : Int)] 73)) w2 := hw2' ▸ up_alloc (Below.refl _ _) _
  have hb2' : Below w1.heap.size w1 w2 := up_trans (up_alloc (Below.refl _ _) _) hb2
  have HB2 := Lib.hid (up_trans HB1.out hb2')
  have E2 := Lib.hid (E1.out.go hb2')
  have D2 := Lib.hid (D1.out.go hb2')
  have A2 := Lib.hid (A1.out.keep (hb2'.block b (Nat.lt_of_lt_of_le HH.out.lt HB1.out.size)))
  obtain ⟨⟨e0', e1', e2', e3', e4'⟩, ef'⟩ := E2.out.ev
  obtain ⟨⟨k0', q0'⟩, ⟨k1', q1'⟩, ⟨k2', q2'⟩⟩ := at_three A2.out
  have HW2 := Lib.hid hw2'
  clear hb2 hb2' hw2'
  have hWin := D2.out.win
  have hlr : ((⟨true, bc, bh⟩ : Bx) :: r : List Bx).length = n' + 1 := by rw [List.length_cons, Hn.out]
  rw [hlr, Hn.out] at hWin
  have HWV := Lib.hid hWin
  have HFV := Lib.hid (HH.out.go HB2.out)
  have HEV := E2
  have hgl : w.heap.size ≠ b := by have := HH.out.lt; omega
  clear hWin
  go_wp2_with (at_builtin; refine wpList_append_win rfl _ _ _ rfl Try.underlying30 info_rbox rfl rfl (Win.nil_ _ _ _) _ rfl (n' + 1) _ (Win.src HWV.out Try.underlying30 (bxsL_one _)) ?e1 ?e2 ?_)
  case e1 => unfold maxLen; omega
  case e2 => omega
  intro v3 w3 hW3 hG3 hO3
  obtain ⟨g3, off3, c3, rfl, ⟨s0, ⟨u1, s1, s1'⟩, s2⟩, hg3, ⟨x2, x2'⟩, hWF, hBF⟩ := wm_inc Hn.out HFV.out hM1 (by simpa using hW3.out) hG3.out (by simpa using hO3.out)
  simp only at x2 x2' hWF hBF
  have hgw : w.heap.size ≠ g3 := fun e => by
    have h1 := E2.out.lt
    rcases hO3.out with h | ⟨h, _⟩
    · simp [Value.ownBlock] at h
    · simp only [Value.ownBlock, Option.some.injEq] at h
      omega
  have hE3 := HEV.out.lift hG3.out (by simp [Value.ownBlock])
  have hE5 := hE3.cell 0
  have hg3' : b ≠ g3 := fun e => hg3 e.symm
  have hgw' : g3 ≠ w.heap.size := fun e => hgw e.symm
  have hgl' : b ≠ w.heap.size := fun e => hgl e.symm
  have HE7 := Lib.hid ((hE3.far (p := ⟨b, 1, none⟩) hgl (.slice (some ⟨g3, off3, none⟩) (n' + 1) c3)).far (p := ⟨g3, off3 + n' * 3 + 2, none⟩) hgw (.int .i64 ((bh : Int) + 1)))
  have HWF := Lib.hid (And.intro hWF ((HB2.out.mono hBw).bew.trans hBF))
  clear hWF hBF hW3 hG3 hO3 HWV hE3 e0 e1 e2 e3 e4 k0 k1 k2 q0 q1 q2 kk0 kk1 ff1 ee0 ee4 y0 y1 y2
  try simp only [Int.natCast_zero, Int.zero_add] at x2 HE7
  go_wp2
  refine wm_grow (k := 5) (c := c) (mp := false) (n := n' + 1) HWF.out.1 (by rw [← hlr]; rfl) HE7.out rfl (by omega) (by omega) _ _ _ _ _ _ _ _ _ _ _ _ _ _ _ _ _ _ _ _ _ _ _ _ _ _ _ _ _ _ _ _ _ _ _ _ _ _ _ _ _ _ _ _ _ _ _ _ _ _ _ _ _ _ _ _ _ _ _ _ _ _ _ _ _ _ _ _ _ _ _ _ _ _ _ _ _ _ _ _ _ _ _ _ _ _ _ _ _ _ _ _ _ _ _ _ _ _ _ _ _ _ _ _ _ _ _ _ _ _ _ _ _ _ _ _ _ _ _ _ _ _ _ _ _ _ _ _ _ _ _ _ _ _ _ _ _ _ _ _ _ _ _ _ _ _ _ _ _ _ _ _ _ _ _ _ _ _ _ _ _ _ _ _ _ _ _ _ _ _ _ _ _ _ _ _ _ _ _ _ _ _ _ _ _ _ _ _ _ _ _ _ _ _ _ _ _ _ _ _ _ _ _ _ _ _ _ _ _ _ _ _ _ _ _ _ _ _ _ _ _ _ _ _ _ _ _ _ _ _ _ _ _ _ _ _ _ _ _ _ _ _ _ _ _ _ _ _ _ _ _ _ _ _ _ _ _ _ _ _ _ _ _ _ _ _ _ _ _ _ _ _ _ _ _ _ _ _ _ _ _ _ _ _ _ _ _ _ _ _ _ _ _ _ _ _ _ _ _ _ _ _ _ _ _ _ _ _ _ _ _ _ _ _ _ _ _ _ _ _ _ _ _ _ _ _ _ _ _ _ _ _ _ _ _ _ _ _ _ _ _ _ _ _ _ _ _ _ _ _ _ _ _ _ _ _ _ _ _ _ _ _ _ _ _ _ _ ?_
  intro a4 c4 w4 _ _ _ _ _ _ _ _ _ _ _ _ _ _ _ _ hWr hBl
  have HWr := Lib.hid hWr
  have HBl := Lib.hid hBl
  clear hWr hBl s0 s1 s1' s2 x2 x2' hE5
  go_wp2
  go_ret2
  exact ⟨by rw [HC.out]; rfl, HWr.out, HWF.out.2.trans HBl.out⟩
end Go.Proofs.Ytonjdnahplphhaa
