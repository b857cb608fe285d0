/-
  CONTRACT of the document's own Writer, for MessagePack (written from XRefKr): an end.
-/
import Derived.Test.YtonjdnahplphhaaG0c
import Derived.Test.YtonjdnahplphhaaG0b
/-
  CONTRACT of the document's own Writer, for MessagePack (written from XRefKr): an end.
-/
namespace Go.Proofs.Ytonjdnahplphhaa
open Go.RowKit
open Go.Lib
/-- A Writer of CBOR in block b: the containers that are open, whether the document is at its end. -/
structure WmAt (M B : Nat) (w : World) (b : Nat) (s : List Bx) (dn : Bool) : Prop where
  cells : ∃ a cp, At w b 0 [.int .i64 3, .slice a s.length cp, .bool dn] ∧ Stk M 0 w s (.slice a s.length cp)
  blk : ∃ cs, w.heap[b]? = some (.cells cs 32 (0, 0))
  low : B ≤ w.heap.size
theorem WmAt.lt {M B : Nat} {w : World} {b : Nat} {s : List Bx} {dn : Bool} (h : WmAt M B w b s dn) : b < w.heap.size := by
  obtain ⟨cs, hc⟩ := h.blk
  exact (Array.getElem?_eq_some_iff.1 hc).1
theorem WmAt.go {M B : Nat} {w w' : World} {b : Nat} {s : List Bx} {dn : Bool} (h : WmAt M B w b s dn) (k : Below w.heap.size w w') : WmAt M B w' b s dn := by
  have hk := k.block b h.lt
  obtain ⟨a, cp, h1, h2⟩ := h.cells
  obtain ⟨cs, hc⟩ := h.blk
  exact ⟨⟨a, cp, h1.keep hk, h2.go k⟩, ⟨cs, hk.trans hc⟩, Nat.le_trans h.low k.size⟩
theorem WmAt.at_ {M B C : Nat} {w : World} {b : Nat} {s : List Bx} {dn : Bool} (h : WmAt M B w b s dn) (hC : C ≤ w.heap.size) : WmAt M C w b s dn := ⟨h.cells, h.blk, hC⟩
theorem WmAt.fin {M B : Nat} {w : World} {b : Nat} {s : List Bx} {dn : Bool} (h : WmAt M B w b s dn) (q : Bool) : WmAt M B (w.setCell ⟨b, 2, none⟩ (.bool q)) b s q ∧ Bew B b w (w.setCell ⟨b, 2, none⟩ (.bool q)) := by
  obtain ⟨a, cp, h1, h2⟩ := h.cells
  obtain ⟨cs, hc⟩ := h.blk
  have hap : b ∉ Value.owner (.slice a s.length cp) := h2.win.apart (t := 32) hc (by decide)
  have hset := h1.set 2 (by simp) (.bool q)
  refine ⟨⟨⟨a, cp, by simpa using hset, ⟨h2.win.setCell_far hap _, h2.vB, h2.ok, h2.deep, h2.most⟩⟩, ⟨_, heap_setCell_at w ⟨b, 2, none⟩ _ _ _ _ rfl hc⟩, by simpa [World.setCell] using h.low⟩, (Below.refl B w).bew.set _ _⟩
set_option maxRecDepth 100000 in
set_option maxHeartbeats 4000000 in
theorem wm_end {M B b : Nat} {w : World} {bx : Bx} {r : List Bx} (h : WmAt M B w b (bx :: r) false) (y : Bool) (m : Nat) (t : ByteArray) (c : Int) (hsh : ¬ shutB bx) (hcc : bx.c ≤ 1000000) :
    Calls Try.prog 13 #[.pointer (some ⟨b, 0, none⟩), evV ⟨7, y, m, t, c⟩] w fun q w' => q = .returned (.tuple #[.string ⟨#[]⟩, .int .i64 0]) ∧ WmAt M B w' b r (decide (r = [])) ∧ Bew B b w w' := by
  have hlen : (bx :: r).length = r.length + 1 := rfl
  obtain ⟨a, cp, hA, hS⟩ := h.cells
  rw [hlen] at hA hS
  have hBw : B ≤ w.heap.size := h.low
  have HM : Hid (∀ X, Calls Try.prog 16 #[evV ⟨7, y, m, t, c⟩] (w.alloc X) fun r w' => r = .returned (.bool true) ∧ Below (w.alloc X).heap.size (w.alloc X) w') := Lib.hid fun X => by
    have := may_any ⟨7, y, m, t, c⟩ (w.alloc X)
    rwa [decide_eq_true (show mayE ⟨7, y, m, t, c⟩ from ⟨by simp, by simp, by simp⟩)] at this
  simp only [evV] at HM ⊢
  have HH := Lib.hid h
  have HS := Lib.hid hS
  have HA := Lib.hid hA
  have hA0 := (hA.alloc (by simp) (.cells #[.int .i64 7, .bool y, .int .u64 m, .string t, .int .i64 c] 35))
  obtain ⟨⟨k0, _⟩, ⟨k1, _⟩, ⟨k2, _⟩⟩ := at_three hA0
  obtain ⟨n', hn'⟩ : ∃ n', r.length = n' := ⟨_, rfl⟩
  rw [hn'] at k1
  have Hn := Lib.hid hn'
  have hn15 : n' ≤ 799 := by have := hS.deep; simp only [List.length_cons] at this; omega
  clear h hA hS hlen hA0 hn'
  go_enter Try.func13, Try.ntmps13
  go_wp2_with fail
  refine (HM.out _).mono ?_
  rintro e w1 ⟨rfl, hb1⟩
  have E1 := Lib.hid ((blk_new w _ _).go hb1)
  obtain ⟨⟨e0, e1, e2, e3, e4⟩, ef⟩ := E1.out.ev
  have hbw1 := up_trans (up_alloc (Below.refl w.heap.size w) (.cells #[.int .i64 7, .bool y, .int .u64 m, .string t, .int .i64 c] 35)) hb1
  have HB1 := Lib.hid hbw1
  have A1 := Lib.hid (HA.out.keep (hbw1.block b HH.out.lt))
  have D1 := Lib.hid (HS.out.go hbw1)
  rw [Hn.out] at A1
  clear hb1 ef k0 k1 k2 hbw1
  obtain ⟨⟨k0, q0⟩, ⟨k1, q1⟩, ⟨k2, q2⟩⟩ := at_three A1.out
  obtain ⟨g, off, N, cap', hv, hNa, hNb, ⟨y0, y1, y2⟩, _⟩ := D1.out.last
  injection hv with hv1 hv2 hv3
  subst hv1
  rw [Hn.out] at y0 y1 y2
  have hbh : bx.have_ ≤ 1000 := Nat.le_trans (D1.out.ok bx (by simp)).2 D1.out.most
  obtain ⟨bm, bc, bh⟩ := bx
  simp only at y0 y1 y2 hsh hcc hbh
  have kk0 : ∀ x, (w1.alloc x).cell? ⟨b, 0, none⟩ = some (.int .i64 3) := fun x => (at_three (A1.out.alloc (by simp) x)).1.1
  have kk1 : ∀ x, (w1.alloc x).cell? ⟨b, 1, none⟩ = some (.slice (some ⟨g, off, none⟩) (n' + 1) cp) := fun x => (at_three (A1.out.alloc (by simp) x)).2.1.1
  obtain ⟨v', hsl, hw', ho'⟩ := D1.out.win.hi (P := Try.prog) (t := 30) Try.underlying30 (fun w => by kernel_rfl) r.length (by simp)
  rw [bxsL, ← bxsL_length, List.take_left, Hn.out] at hw'
  rw [Hn.out] at hsl
  obtain ⟨a', cap2, rfl, _, _⟩ := hw'.slice_form
  have HW := Lib.hid (fun x => hw'.alloc x)
  have hl1 : ((n' : Int) + 1 == 1) = decide (r = []) := by
    have h1 := Hn.out
    cases r with
    | nil => simp at h1; subst h1; rfl
    | cons x r => simp at h1; simp; omega
  generalize hR : decide (r = []) = R at hl1
  have HR := Lib.hid hR
  have hn1 : ((n' : Int) + 1 == 0) = false := by rw [beq_eq_false_iff_ne]; omega
  clear hw' ho' hNa hNb hv2 hv3 hR
  have hshT : bm = true → ¬ bh % 2 = 1 := fun h h2 => hsh (.inr ⟨h, h2⟩)
  have hshC : 0 ≤ bc → (bh : Int) = if bm = true then 2 * bc else bc := fun h => by
    by_cases h2 : (bh : Int) = if bm = true then 2 * bc else bc
    · exact h2
    · exact absurd (.inl ⟨h, h2⟩) hsh
  clear hsh
  have fin : ∀ (v3 : Value) (w3 : World), Win w3 73 3 v3 n' (bxsL r) → (w1.alloc (.cells #[.bool bm, .int .i64 bc, .int .i64 (bh : Int)] 73)).grownBy w3 (Value.slice none 0 0).ownBlock →
      (v3.ownBlock = (Value.slice none 0 0).ownBlock ∨ v3.ownBlock = some (w1.heap.size + 1) ∧ w1.heap.size + 1 < w3.heap.size) →
      (w3.cell? ⟨b, 0, none⟩ = some (.int .i64 3) ∧ (w3.cell? ⟨b, 1, none⟩ = some (.slice (some ⟨g, off, none⟩) (n' + 1) cp) ∧ w3.frozen? ⟨b, 1, none⟩ = false) ∧ (w3.cell? ⟨b, 2, none⟩ = some (.bool false) ∧ w3.frozen? ⟨b, 2, none⟩ = false)) ∧
      (w3.cell? ⟨w1.heap.size, 0, none⟩ = some (.bool bm) ∧ w3.cell? ⟨w1.heap.size, 1, none⟩ = some (.int .i64 bc)) ∧ b ≠ w1.heap.size ∧
      (∀ a3 c3, v3 = .slice a3 n' c3 → WmAt M B ((w3.setCell ⟨b, 1, none⟩ (.slice a3 n' c3)).setCell ⟨b, 2, none⟩ (.bool R)) b r R ∧ Bew B b w ((w3.setCell ⟨b, 1, none⟩ (.slice a3 n' c3)).setCell ⟨b, 2, none⟩ (.bool R))) := by
    intro v3 w3 hW3 hG3 hO3
    have hbw1 : b < w1.heap.size := Nat.lt_of_lt_of_le HH.out.lt HB1.out.size
    have hB1 : B ≤ w1.heap.size := Nat.le_trans HH.out.low HB1.out.size
    have hK := stk_new (M := M) (B := B) (s := r) (w := w1.alloc (.cells #[.bool bm, .int .i64 bc, .int .i64 (bh : Int)] 73)) (by simp; omega) (by simp [Value.owner]) Hn.out.symm rfl hW3 hG3 (by simpa using hO3) (fun x hx => D1.out.ok x (List.mem_cons_of_mem _ hx)) (by rw [Hn.out]; omega) D1.out.most
    have hblk : w3.heap[b]? = w1.heap[b]? := (hG3.block b (by simp; omega) (by simp [Value.ownBlock])).trans (Below.heap_alloc w1 _ b hbw1)
    have A3 := A1.out.keep hblk
    obtain ⟨⟨p0, _⟩, ⟨p1, p1'⟩, ⟨p2, p2'⟩⟩ := at_three A3
    have hbl := (blk_new w1 #[.bool bm, .int .i64 bc, .int .i64 (bh : Int)] 73).lift hG3 (by simp [Value.ownBlock])
    have hbox : w3.cell? ⟨w1.heap.size, 0, none⟩ = some (.bool bm) ∧ w3.cell? ⟨w1.heap.size, 1, none⟩ = some (.int .i64 bc) := ⟨hbl.cell 0, hbl.cell 1⟩
    refine ⟨⟨p0, ⟨p1, p1'⟩, ⟨p2, p2'⟩⟩, hbox, by omega, ?_⟩
    rintro a3 c3 rfl
    obtain ⟨cs, hcs⟩ := HH.out.blk
    have hw3 : w3.heap[b]? = some (.cells cs 32 (0, 0)) := hblk.trans ((HB1.out.block b HH.out.lt).trans hcs)
    have hap : b ∉ Value.owner (.slice a3 n' c3) := hK.1.win.apart (t := 32) hw3 (by decide)
    have hset := (A3.set 1 (by simp) (.slice a3 n' c3)).set 2 (by simp) (.bool R)
    have hS3 : Stk M 0 ((w3.setCell ⟨b, 1, none⟩ (.slice a3 n' c3)).setCell ⟨b, 2, none⟩ (.bool R)) r (.slice a3 n' c3) := ⟨(hK.1.win.setCell_far hap _).setCell_far hap _, fun _ _ => Nat.zero_le _, hK.1.ok, hK.1.deep, hK.1.most⟩
    refine ⟨⟨⟨a3, c3, ?_, ?_⟩, ⟨_, heap_setCell_at _ ⟨b, 2, none⟩ _ _ _ _ rfl (heap_setCell_at w3 ⟨b, 1, none⟩ _ _ _ _ rfl hw3)⟩, by
      have := hK.2.size
      simp only [World.setCell, Array.size_modify]
      simp at this
      omega⟩, ?_⟩
    · rw [Hn.out]
      simpa using hset
    · rw [Hn.out]
      exact hS3
    · have b1 : Below B w w1 := HB1.out.mono hBw
      have b2 : Below B w (w1.alloc (.cells #[.bool bm, .int .i64 bc, .int .i64 (bh : Int)] 73)) := b1.alloc hB1 _
      exact ((b2.trans hK.2).bew.set _ _).set _ _
  have FIN := Lib.hid fin
  clear fin
  cases bm with
  | false =>
   by_cases hn : bc < 0
   · have hz : (0 ≤ bc) = False := by simp only [eq_iff_iff, iff_false]; omega
     have hzn : (bc < 0) = True := by simp only [eq_iff_iff, iff_true]; omega
     have HC := Lib.hid hcc
     have HN := Lib.hid hn
     clear hshT hshC hcc hn
     go_wp2_with (at_builtin; refine wpList_append_win rfl _ _ _ rfl Try.underlying30 info_rbox rfl rfl (Win.nil_ _ _ _) _ rfl n' _ (Win.src (HW.out _) Try.underlying30 (bxsL_one _)) ?e1 ?e2 ?_)
     case e1 => unfold maxLen; omega
     case e2 => omega
     intro v3 w3 hW3 hG3 hO3
     obtain ⟨⟨p0, ⟨p1, p1'⟩, ⟨p2, p2'⟩⟩, ⟨hbox, hbox1⟩, hne, hfin⟩ := FIN.out v3 w3 (by simpa using hW3.out) hG3.out (by simpa using hO3.out)
     obtain ⟨a3, c3, rfl, _, _⟩ := Win.slice_form hW3.out
     have HFI := Lib.hid hfin
     clear hW3 hG3 hO3 hfin
     go_wp2
     go_ret2
     exact ⟨rfl, by rw [HR.out]; exact HFI.out _ _ rfl⟩
   · have hz : (0 ≤ bc) = True := by simp only [eq_iff_iff, iff_true]; omega
     have hzn : (bc < 0) = False := by simp only [eq_iff_iff, iff_false]; omega
     have hq := hshC (by omega)
     have hz2 : ((bh : Int) != bc) = false := by rw [if_neg (by decide)] at hq; simp [hq]
     clear hq
     have HC := Lib.hid hcc
     have HN := Lib.hid hn
     clear hshT hshC hcc hn
     go_wp2_with (at_builtin; refine wpList_append_win rfl _ _ _ rfl Try.underlying30 info_rbox rfl rfl (Win.nil_ _ _ _) _ rfl n' _ (Win.src (HW.out _) Try.underlying30 (bxsL_one _)) ?e1 ?e2 ?_)
     case e1 => unfold maxLen; omega
     case e2 => omega
     intro v3 w3 hW3 hG3 hO3
     obtain ⟨⟨p0, ⟨p1, p1'⟩, ⟨p2, p2'⟩⟩, ⟨hbox, hbox1⟩, hne, hfin⟩ := FIN.out v3 w3 (by simpa using hW3.out) hG3.out (by simpa using hO3.out)
     obtain ⟨a3, c3, rfl, _, _⟩ := Win.slice_form hW3.out
     have HFI := Lib.hid hfin
     clear hW3 hG3 hO3 hfin
     go_wp2
     go_ret2
     exact ⟨rfl, by rw [HR.out]; exact HFI.out _ _ rfl⟩
  | true =>
   by_cases hn : bc < 0
   · have hz3 : (((bh : Int) % 2) != 0) = false := by simp only [bne_eq_false_iff_eq]; have := hshT rfl; omega
     have hz : (0 ≤ bc) = False := by simp only [eq_iff_iff, iff_false]; omega
     have hzn : (bc < 0) = True := by simp only [eq_iff_iff, iff_true]; omega
     have HC := Lib.hid hcc
     have HN := Lib.hid hn
     clear hshT hshC hcc hn
     go_wp2_with (at_builtin; refine wpList_append_win rfl _ _ _ rfl Try.underlying30 info_rbox rfl rfl (Win.nil_ _ _ _) _ rfl n' _ (Win.src (HW.out _) Try.underlying30 (bxsL_one _)) ?e1 ?e2 ?_)
     case e1 => unfold maxLen; omega
     case e2 => omega
     intro v3 w3 hW3 hG3 hO3
     obtain ⟨⟨p0, ⟨p1, p1'⟩, ⟨p2, p2'⟩⟩, ⟨hbox, hbox1⟩, hne, hfin⟩ := FIN.out v3 w3 (by simpa using hW3.out) hG3.out (by simpa using hO3.out)
     obtain ⟨a3, c3, rfl, _, _⟩ := Win.slice_form hW3.out
     have HFI := Lib.hid hfin
     clear hW3 hG3 hO3 hfin
     go_wp2
     go_ret2
     exact ⟨rfl, by rw [HR.out]; exact HFI.out _ _ rfl⟩
   · have hz3 : (((bh : Int) % 2) != 0) = false := by simp only [bne_eq_false_iff_eq]; have := hshT rfl; omega
     have hz : (0 ≤ bc) = True := by simp only [eq_iff_iff, iff_true]; omega
     have hzn : (bc < 0) = False := by simp only [eq_iff_iff, iff_false]; omega
     have hq := hshC (by omega)
     have hz2 : ((bh : Int) != RowKit.wrap64 (2 * bc)) = false := by rw [show RowKit.wrap64 (2 * bc) = 2 * bc by unfold RowKit.wrap64; omega]; rw [if_pos rfl] at hq; simp [hq]
     have hg : (2305843009213693952 < bc) = False := by simp only [eq_iff_iff, iff_false]; omega
     clear hq
     have HC := Lib.hid hcc
     have HN := Lib.hid hn
     clear hshT hshC hcc hn
     go_wp2_with (at_builtin; refine wpList_append_win rfl _ _ _ rfl Try.underlying30 info_rbox rfl rfl (Win.nil_ _ _ _) _ rfl n' _ (Win.src (HW.out _) Try.underlying30 (bxsL_one _)) ?e1 ?e2 ?_)
     case e1 => unfold maxLen; omega
     case e2 => omega
     intro v3 w3 hW3 hG3 hO3
     obtain ⟨⟨p0, ⟨p1, p1'⟩, ⟨p2, p2'⟩⟩, ⟨hbox, hbox1⟩, hne, hfin⟩ := FIN.out v3 w3 (by simpa using hW3.out) hG3.out (by simpa using hO3.out)
     obtain ⟨a3, c3, rfl, _, _⟩ := Win.slice_form hW3.out
     have HFI := Lib.hid hfin
     clear hW3 hG3 hO3 hfin
     go_wp2
     go_ret2
     exact ⟨rfl, by rw [HR.out]; exact HFI.out _ _ rfl⟩
end Go.Proofs.Ytonjdnahplphhaa
