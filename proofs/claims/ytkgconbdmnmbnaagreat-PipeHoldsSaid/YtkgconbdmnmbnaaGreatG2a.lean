/-
  Parts: StgG, StgI, PipAt, PipB.
-/
import Derived.Test.YtkgconbdmnmbnaaGreatHStgF
import Derived.Test.YtkgconbdmnmbnaaGreatG1f
import Derived.Test.YtkgconbdmnmbnaaGreatG1g
import Derived.Test.YtkgconbdmnmbnaaGreatG0g
import Derived.Handy
set_option maxRecDepth 100000
set_option maxHeartbeats 16000000
open Go.Lib (hid)
namespace Go.Proofs.YtkgconbdmnmbnaaGreat
section
open Go.RowKit
open Go.Lib
def StepGK (lim : Nat) (w : World) (b : Nat) (vh vo : Value) (G : Gr) (r : Ending) (w' : World) : Prop :=
  ∃ v, r = .returned (.tuple #[v, .int .i64 (G.e : Int)]) ∧ ∃ vh' vo', Win w' 20 1 v G.l.length (G.l.map valE) ∧ (∀ k ∈ Value.owner v, k ∈ Value.owner vh ∨ w.heap.size ≤ k) ∧ StG w' b lim vh' vo' G.s ∧ Step (rowsG b vh vo) (rowsG b vh' vo') w w'
theorem sgp_up {w w0 w1 : World} {b lim z : Nat} {vh vo vh' vo' : Value} {H : List Ev} {op : List Cn} {v : Value} {l : List Ev} {e : Nat} (k : Below w.heap.size w w0) (h : SgP w0 w1 b lim z vh vo vh' vo' H op) (hl : l = []) (he : e = 0) (hv : v = .slice none 0 0) :
    StepGK lim w b vh vo ⟨.live z H op, l, e⟩ (.returned (.tuple #[v, .int .i64 0])) w1 := by
  subst hl he hv; exact ⟨_, rfl, vh', vo', Win.nil_ _ _ _, fun k hk => by simp [Value.owner] at hk, ⟨h.sg.blk, h.sg.wh, h.sg.wo⟩, (h.pre k).step⟩
theorem gstep_bad {w : World} {b lim : Nat} {vh vo : Value} (h : StG w b lim vh vo .bad) (V : Value) :
    Calls Tryz.prog 49 #[.pointer (some ⟨b, 0, none⟩), V] w fun r w' => StepGK lim w b vh vo ⟨.bad, [], 10⟩ r w' := by
  have HH := hid (ghad_at h.1); have HG := hid h; have HF : Hid (StepGK lim w b vh vo ⟨.bad, [], 10⟩ (.returned (.tuple #[.slice none 0 0, .int .i64 10])) w) := hid ⟨_, rfl, vh, vo, Win.nil_ _ _ _, fun k hk => by simp [Value.owner] at hk, h, Step.refl _ _⟩; clear h; go_enter Tryz.func49, Tryz.ntmps49; (go_wp2_with fail); refine HH.out.mono ?_; rintro r w1 ⟨rfl, rfl⟩; go_wp2; go_ret2; exact HF.out
theorem gstep_pass {w : World} {b lim z : Nat} {vh vo : Value} {H : List Ev} {op : List Cn} (h : SgR w b lim z vh vo H op) (e : Ev) (he : mayE e) (ht : sizG e ≤ 1000) (hp : op = [] ∧ ¬ opnE e) :
    Calls Tryz.prog 49 #[.pointer (some ⟨b, 0, none⟩), valE e] w fun r w' => StepGK lim w b vh vo ⟨.live z H op, [e], 0⟩ r w' := by
  obtain ⟨a5, cp5, rfl, _, _⟩ := h.wo.slice_form; have HH := hid (ghad_at h.blk); have HS := hid (gsize_any e he ht w); have HP := hid (fun W (hb : Sgb W b 0 lim vh z (.slice a5 op.length cp5)) => gpasses_at hb e he); have hp' : decide (op.length = 0 ∧ ¬ opnE e) = true := by simpa using hp
  rw [hp'] at HP; have hq0 : ((sizG e : Int) == 0) = false := by
    have := sizG_pos e; rw [beq_eq_false_iff_ne]; omega
  have hform := valE_form e; have HR := hid h; have hK : ∀ W, Below w.heap.size w W → StepGK lim w b vh (.slice a5 op.length cp5) ⟨.live z H op, [e], 0⟩ (.returned (.tuple #[.slice (some ⟨W.heap.size, 0, none⟩) 1 1, .int .i64 0])) (W.alloc (.cells #[valE e] 20)) := fun W k => by
    have h2 := h.go (up_alloc k (.cells #[valE e] 20)); refine ⟨_, rfl, vh, _, ?_, fun k' hk' => ?_, ⟨h2.blk, h2.wh, h2.wo⟩, Step.of_below _ (up_alloc k _)⟩
    · exact ⟨rfl, .inr ⟨W.heap.size, 0, 1, _, rfl, heap_alloc_new W _, Nat.le_refl _, by simp, by unfold maxLen; omega, by simp⟩⟩
    · simp only [Value.owner, List.mem_singleton] at hk'
      subst hk'; exact .inr k.size
  have HK := hid hK; generalize sizG e = Q at *
  generalize valE e = V at *
  clear h hp hp' he ht hK; go_enter Tryz.func49, Tryz.ntmps49; (go_wp2_with fail); refine HH.out.mono ?_; rintro r w1 ⟨rfl, rfl⟩; (go_wp2_with fail); refine HS.out.mono ?_; rintro r w2 ⟨rfl, hb2⟩; have HB2 := hid hb2; clear hb2 HS HH; (go_wp2_with fail); refine (HP.out w2 (HR.out.go HB2.out).blk).mono ?_; rintro r w3 ⟨rfl, hb3⟩; have HF := hid (HK.out w3 (up_trans HB2.out hb3)); clear hb3 HK HP HR HB2; rcases hform with rfl | ⟨d, zz, rfl⟩
  all_goals
    go_wp2; go_ret2; exact HF.out
theorem gstep_free {w : World} {b lim z : Nat} {vh vo : Value} {H : List Ev} {x : Cn} (h : SgR w b lim z vh vo H [x]) (hx : x.at_ < H.length ∧ x.n ≤ 100000) (hl : H.length ≤ 90000) (e : Ev) (he : mayE e) (ht : sizG e ≤ 1000) (hk : e.k = 7) :
    Calls Tryz.prog 49 #[.pointer (some ⟨b, 0, none⟩), valE e] w fun r w' => StepGK lim w b vh vo ⟨gs0, endHg H [x] ++ [e], 0⟩ r w' := by
  obtain ⟨a5, cp5, rfl, _, _⟩ := h.wo.slice_form; have HH := hid (ghad_at h.blk); have HS := hid (gsize_any e he ht w); have HP := hid (fun W (hb : Sgb W b 0 lim vh z (.slice a5 [x].length cp5)) => gpasses_at hb e he); have HQ := hid (fun W (hb : Sgb W b 0 lim vh z (.slice a5 [x].length cp5)) => gfrees_at hb e he); rw [show decide ([x].length = 0 ∧ ¬ opnE e) = false by simp] at HP; rw [show decide (e.k = 7 ∧ [x].length = 1) = true by simp [hk]] at HQ; have hq0 : ((sizG e : Int) == 0) = false := by
    have := sizG_pos e; rw [beq_eq_false_iff_ne]; omega
  have HR := hid h; have HF := hid (fun W (hR : SgR W b lim z vh (.slice a5 [x].length cp5) H [x]) => gfree_at hR hx hl e); generalize sizG e = Q at *
  generalize valE e = V at *
  clear h he ht hk; go_enter Tryz.func49, Tryz.ntmps49; (go_wp2_with fail); refine HH.out.mono ?_; rintro r w1 ⟨rfl, rfl⟩; (go_wp2_with fail); refine HS.out.mono ?_; rintro r w2 ⟨rfl, hb2⟩; have HB2 := hid hb2; clear hb2 HS HH; (go_wp2_with fail); refine (HP.out w2 (HR.out.go HB2.out).blk).mono ?_; rintro r w3 ⟨rfl, hb3⟩; have HB3 := hid (up_trans HB2.out hb3); clear hb3 HP HB2; (go_wp2_with fail); refine (HQ.out w3 (HR.out.go HB3.out).blk).mono ?_; rintro r w4 ⟨rfl, hb4⟩; have HB4 := hid (up_trans HB3.out hb4); clear hb4 HQ HB3; (go_wp2_with fail); refine (HF.out w4 (HR.out.go HB4.out)).mono ?_; rintro r w5 ⟨v', vo', rfl, hW, hS, ho, hst⟩; have HE : Hid (StepGK lim w b vh (.slice a5 [x].length cp5) ⟨gs0, endHg H [x] ++ [e], 0⟩ (.returned (.tuple #[v', .int .i64 0])) w5) := hid ⟨_, rfl, _, _, hW, fun k hk => (ho k hk).imp id (fun h => Nat.le_trans HB4.out.size h), ⟨hS.blk, hS.wh, hS.wo⟩, (Step.of_below _ HB4.out).trans hst⟩; clear hW hS ho hst; go_wp2; go_ret2; exact HE.out
theorem ghold_any {w : World} {b lim z : Nat} {vh vo : Value} {H : List Ev} {op : List Cn} (h : SgR w b lim z vh vo H op) (e : Ev) (hne : op = [] → e.k ≠ 7) (hd : op.length ≤ 80000) (hn : ∀ x ∈ op, x.at_ < H.length ∧ x.n ≤ 100000) (hl : H.length ≤ 80000) (he : mayE e) (q : Nat) (hz : z + q ≤ 100000) :
    Calls Tryz.prog 55 #[.pointer (some ⟨b, 0, none⟩), valE e, .int .i64 (q : Int)] w fun r' w' => r' = .returned (.tuple #[]) ∧ ∃ vh' vo', SgP w w' b lim (z + q) vh vo vh' vo' (heldN e H op) (openN e H.length op) := by
  unfold heldN openN; by_cases hk : e.k = 7
  · rw [if_pos hk, if_pos hk]
    cases op with
    | nil => exact absurd hk (hne rfl)
    | cons x r => exact ghold_end h (by simp only [List.length_cons] at hd; omega) (hn x (by simp)) hl e he hk q hz
  · rw [if_neg hk, if_neg hk]
    by_cases hk2 : e.k = 5 ∨ e.k = 6
    · rw [if_pos hk2]
      exact ghold_beg h hd (fun x hx => (hn x hx).2) hl e he hk hk2 q hz
    · rw [if_neg hk2]
      exact ghold_val h hd (fun x hx => (hn x hx).2) hl e he hk hk2 q hz
theorem gstep_hold {w : World} {b lim z : Nat} {vh vo : Value} {H : List Ev} {op : List Cn} (h : SgR w b lim z vh vo H op) (hlim : lim ≤ 2000 ∧ z ≤ 2000) (hd : op.length ≤ 80000) (hn : ∀ x ∈ op, x.at_ < H.length ∧ x.n ≤ 100000) (hl : H.length ≤ 80000) (e : Ev) (he : mayE e) (ht : sizG e ≤ 1000)
    (h1 : ¬ (op = [] ∧ ¬ opnE e)) (h2 : ¬ (e.k = 7 ∧ op.length = 1)) (h3 : ¬ lim < z + sizG e) :
    Calls Tryz.prog 49 #[.pointer (some ⟨b, 0, none⟩), valE e] w fun r w' => StepGK lim w b vh vo ⟨.live (z + sizG e) (heldN e H op) (openN e H.length op), [], 0⟩ r w' := by
  obtain ⟨a5, cp5, rfl, _, _⟩ := h.wo.slice_form; have HH := hid (ghad_at h.blk); have HS := hid (gsize_any e he ht w); have HP := hid (fun W (hb : Sgb W b 0 lim vh z (.slice a5 op.length cp5)) => gpasses_at hb e he); have HQ := hid (fun W (hb : Sgb W b 0 lim vh z (.slice a5 op.length cp5)) => gfrees_at hb e he); rw [show decide (op.length = 0 ∧ ¬ opnE e) = false by simpa using h1] at HP; rw [show decide (e.k = 7 ∧ op.length = 1) = false by simpa using h2] at HQ; have hq0 : ((sizG e : Int) == 0) = false := by
    have := sizG_pos e; rw [beq_eq_false_iff_ne]; omega
  have HR := hid h; have HF := hid (fun W (hR : SgR W b lim z vh (.slice a5 op.length cp5) H op) => ghold_any hR e (fun h0 h7 => h1 ⟨h0, fun h8 => by have := h8.1; omega⟩) hd hn hl he (sizG e) (by omega)); have hwz : IntKind.i64.wrap ((lim : Int) - (z : Int)) = (lim : Int) - (z : Int) := by simp only [IntKind.wrap_i64]; omega
  have hwz2 : wrap64 ((lim : Int) - (z : Int)) = (lim : Int) - (z : Int) := by unfold wrap64; omega
  have hgt : ((sizG e : Int) > (lim : Int) - (z : Int)) = False := by simp; omega
  have hgt2 : ((lim : Int) - (z : Int) < (sizG e : Int)) = False := by simp; omega
  generalize hQ : sizG e = Q at *
  have HQQ := hid hQ; generalize valE e = V at *
  clear h he h1 h2 h3 hd hn hl hQ ht; go_enter Tryz.func49, Tryz.ntmps49; (go_wp2_with fail); refine HH.out.mono ?_; rintro r w1 ⟨rfl, rfl⟩; (go_wp2_with fail); refine HS.out.mono ?_; rintro r w2 ⟨rfl, hb2⟩; have HB2 := hid hb2; clear hb2 HS HH; (go_wp2_with fail); refine (HP.out w2 (HR.out.go HB2.out).blk).mono ?_; rintro r w3 ⟨rfl, hb3⟩; have HB3 := hid (up_trans HB2.out hb3); clear hb3 HP HB2; (go_wp2_with fail); refine (HQ.out w3 (HR.out.go HB3.out).blk).mono ?_; rintro r w4 ⟨rfl, hb4⟩; have HB4 := hid (up_trans HB3.out hb4); have c2 := (HR.out.go HB4.out).blk.cell 2; have c4 := (HR.out.go HB4.out).blk.cell 4; clear hb4 HQ HB3; (go_wp2_with fail)
  go_quiet (fail)
  have hdr : Below w.heap.size w (w4.drewN nq) := below_drN HB4.out nq; have HB5 := hid hdr; have hFF := HF.out _ (HR.out.go hdr); generalize w4.drewN nq = w5 at *
  clear HF HR c2 c4 hdr HB4; (go_wp2_with fail); refine hFF.mono ?_; rintro r w6 ⟨rfl, vh', vo', hP⟩; have HE := hid (sgp_up HB5.out hP rfl rfl rfl); clear hP hFF; go_wp2; go_ret2; exact HE.out
theorem gstep_over {w : World} {b lim z : Nat} {vh vo : Value} {H : List Ev} {op : List Cn} (h : SgR w b lim z vh vo H op) (hlim : lim ≤ 2000 ∧ z ≤ 2000) (e : Ev) (he : mayE e) (ht : sizG e ≤ 1000)
    (h1 : ¬ (op = [] ∧ ¬ opnE e)) (h2 : ¬ (e.k = 7 ∧ op.length = 1)) (h3 : lim < z + sizG e) :
    Calls Tryz.prog 49 #[.pointer (some ⟨b, 0, none⟩), valE e] w fun r w' => StepGK lim w b vh vo ⟨.bad, [], 10⟩ r w' := by
  obtain ⟨a5, cp5, rfl, _, _⟩ := h.wo.slice_form; have HH := hid (ghad_at h.blk); have HS := hid (gsize_any e he ht w); have HP := hid (fun W (hb : Sgb W b 0 lim vh z (.slice a5 op.length cp5)) => gpasses_at hb e he); have HQ := hid (fun W (hb : Sgb W b 0 lim vh z (.slice a5 op.length cp5)) => gfrees_at hb e he); rw [show decide (op.length = 0 ∧ ¬ opnE e) = false by simpa using h1] at HP; rw [show decide (e.k = 7 ∧ op.length = 1) = false by simpa using h2] at HQ; have hq0 : ((sizG e : Int) == 0) = false := by
    have := sizG_pos e; rw [beq_eq_false_iff_ne]; omega
  have HR := hid h; have hwz : IntKind.i64.wrap ((lim : Int) - (z : Int)) = (lim : Int) - (z : Int) := by simp only [IntKind.wrap_i64]; omega
  have hwz2 : wrap64 ((lim : Int) - (z : Int)) = (lim : Int) - (z : Int) := by unfold wrap64; omega
  have hgt : ((sizG e : Int) > (lim : Int) - (z : Int)) = True := by simp; omega
  have hgt2 : ((lim : Int) - (z : Int) < (sizG e : Int)) = True := by simp; omega
  have HK := hid (fun (W : World) (hb : Sgb W b 10 0 (.slice none 0 0) 0 (.slice none 0 0)) (hs : Step (rowsG b vh (.slice a5 op.length cp5)) (rowsG b vh (.slice a5 op.length cp5)) w W) => (show StepGK lim w b vh (.slice a5 op.length cp5) ⟨.bad, [], 10⟩ (.returned (.tuple #[.slice none 0 0, .int .i64 10])) W from
    ⟨_, rfl, .slice none 0 0, .slice none 0 0, Win.nil_ _ _ _, fun k hk => by simp [Value.owner] at hk, ⟨hb, rfl, rfl⟩, hs.widen fun k hk => by simp [rowsG, Value.owner] at hk; subst hk; exact .inl (by simp [rowsG])⟩))
  generalize sizG e = Q at *
  generalize valE e = V at *
  clear h he h1 h2 h3 ht; go_enter Tryz.func49, Tryz.ntmps49; (go_wp2_with fail); refine HH.out.mono ?_; rintro r w1 ⟨rfl, rfl⟩; (go_wp2_with fail); refine HS.out.mono ?_; rintro r w2 ⟨rfl, hb2⟩; have HB2 := hid hb2; clear hb2 HS HH; (go_wp2_with fail); refine (HP.out w2 (HR.out.go HB2.out).blk).mono ?_; rintro r w3 ⟨rfl, hb3⟩; have HB3 := hid (up_trans HB2.out hb3); clear hb3 HP HB2; (go_wp2_with fail); refine (HQ.out w3 (HR.out.go HB3.out).blk).mono ?_; rintro r w4 ⟨rfl, hb4⟩; have HB4 := hid (up_trans HB3.out hb4); have c2 := (HR.out.go HB4.out).blk.cell 2; have c4 := (HR.out.go HB4.out).blk.cell 4; clear hb4 HQ HB3; (go_wp2_with fail)
  go_quiet (fail)
  have hdr : Below w.heap.size w (w4.drewN nq) := below_drN HB4.out nq; have HB5 := hid hdr; have hbk := (HR.out.go hdr).blk; generalize w4.drewN nq = w5 at *
  clear HR c2 c4 hdr HB4; have c0 := hbk.cell 0; have c1 := hbk.cell 1; have c2 := hbk.cell 2; have c3 := hbk.cell 3; have c4 := hbk.cell 4; have c5 := hbk.cell 5; have f0 := hbk.froz 0; have f1 := hbk.froz 1; have f2 := hbk.froz 2; have f3 := hbk.froz 3; have f4 := hbk.froz 4; have f5 := hbk.froz 5; have HBK := hid hbk; clear hbk; go_wp2; go_ret2; refine HK.out _ ((((((HBK.out.set 0 _).set 1 _).set 2 _).set 3 _).set 4 _).set 5 _) ?_; refine (Step.of_below _ HB5.out).trans ?_; exact (((((step_setCell _ _ _ _ (by simp [rowsG])).trans (step_setCell _ _ _ _ (by simp [rowsG]))).trans (step_setCell _ _ _ _ (by simp [rowsG]))).trans (step_setCell _ _ _ _ (by simp [rowsG]))).trans (step_setCell _ _ _ _ (by simp [rowsG]))).trans (step_setCell _ _ _ _ (by simp [rowsG]))
theorem gstep_any {w : World} {b lim : Nat} {vh vo : Value} {s : Gs} (h : StG w b lim vh vo s) (hwf : WfG lim s) (hlim : lim ≤ 2000) (e : Ev) (he : mayE e) (ht : sizG e ≤ 1000) :
    Calls Tryz.prog 49 #[.pointer (some ⟨b, 0, none⟩), valE e] w fun r w' => StepGK lim w b vh vo (stepG lim s e) r w' := by
  cases s with
  | bad => exact gstep_bad h _
  | live z H op =>
    have hR : SgR w b lim z vh vo H op := ⟨h.1, h.2.1, h.2.2⟩
    obtain ⟨w1, w2, w3, w4⟩ := hwf; simp only [stepG]; split
    · rename_i hp
      exact gstep_pass hR e he ht hp
    · rename_i hp
      split
      · rename_i h7
        obtain ⟨h7, h1⟩ := h7
        match op, h1 with
        | [x], _ => exact gstep_free hR ⟨(w4 x (by simp)).1, by have := (w4 x (by simp)).2; omega⟩ (by omega) e he ht h7
      · rename_i h7
        split
        · rename_i h3
          exact gstep_over hR ⟨hlim, by omega⟩ e he ht hp h7 h3
        · rename_i h3
          exact gstep_hold hR ⟨hlim, by omega⟩ (by omega) (fun x hx => ⟨(w4 x hx).1, by have := (w4 x hx).2; omega⟩) (by omega) e he ht hp h7 h3
end
section
open Go.RowKit
open Go.Lib
def gts : List Nat := [110, 20, 170]
structure GK (w0 w : World) (b lim : Nat) (s : Gs) : Prop where
  at_ : ∃ vh vo, StG w b lim vh vo s ∧ ∀ k ∈ rowsG b vh vo, w0.heap.size ≤ k
  wf : WfG lim s
  lim : lim ≤ 2000
  bel : Below w0.heap.size w0 w
theorem StG.typed {w : World} {b lim : Nat} {vh vo : Value} {s : Gs} (h : StG w b lim vh vo s) : ∀ k ∈ rowsG b vh vo, ∃ c t fr, w.heap[k]? = some (.cells c t fr) ∧ t ∈ gts := by
  obtain ⟨n, m, xs, ys, hW, hO, _⟩ := h.rows; intro k hk; simp only [rowsG, List.mem_cons, List.mem_append] at hk; rcases hk with rfl | hk | hk
  · exact ⟨_, _, _, h.sgb, by decide⟩
  · obtain ⟨c, hc⟩ := hW.typed k hk
    exact ⟨_, _, _, hc, by decide⟩
  · obtain ⟨c, hc⟩ := hO.typed k hk
    exact ⟨_, _, _, hc, by decide⟩
theorem StG.off {w w' : World} {b lim : Nat} {vh vo : Value} {s : Gs} {F' : List Nat} (h : StG w b lim vh vo s) (k : Step (rowsG b vh vo) F' w w') : Off gts w w' := fun i c t fr hi ht => by
  rw [k.block i (Array.getElem?_eq_some_iff.1 hi).1 (fun hk => ?_)]
  · exact hi
  · obtain ⟨c', t', fr', hc, ht'⟩ := h.typed i hk
    rw [hi] at hc
    injection hc with hc
    injection hc with _ h2 _
    exact ht (h2 ▸ ht')
end
section
open Go.RowKit
open Go.Lib
theorem CP.keep2 {w w' : World} {b o D pl : Nat} {h : Hd} {mj : Nat} {ch : Bool} {lk : Nat} {vt : Value} {t : List UInt8} {u : Option (Nat × Nat × Nat)} {vs : Value} {n : Nat} {xs : List Value} (c : CP w b o D pl h mj ch lk vt t u vs n xs)
    (hb : w'.heap[b]? = w.heap[b]?) (ho : ∀ k ∈ Value.owner vt ++ Value.owner vs, w'.heap[k]? = w.heap[k]?) : CP w' b o D pl h mj ch lk vt t u vs n xs :=
  ⟨c.a.keep hb, c.hd.keep hb, c.tx.keep hb, c.ck.keep hb, ⟨c.op.ptr.keep hb, c.op.win.keep fun i hi => ho i (by simp [hi]), c.op.far⟩, c.wt.keep fun i hi => ho i (by simp [hi]), c.ft⟩
theorem PP.keep2 {w w' : World} {b o D pl kd nm fm : Nat} {h : Hd} {tk lk : Nat} {vt : Value} {t : List UInt8} {u : Option (Nat × Nat × Nat)} {vs : Value} {n : Nat} {xs : List Value} (c : PP w b o D pl kd nm fm h tk lk vt t u vs n xs)
    (hb : w'.heap[b]? = w.heap[b]?) (ho : ∀ k ∈ Value.owner vt ++ Value.owner vs, w'.heap[k]? = w.heap[k]?) : PP w' b o D pl kd nm fm h tk lk vt t u vs n xs :=
  ⟨c.a.keep hb, c.it.keep hb, c.hd.keep hb, c.tx.keep hb, c.ck.keep hb, ⟨c.op.ptr.keep hb, c.op.win.keep fun i hi => ho i (by simp [hi]), c.op.far⟩, c.wt.keep fun i hi => ho i (by simp [hi]), c.ft⟩
theorem CP.own {w : World} {b o D pl : Nat} {h : Hd} {mj : Nat} {ch : Bool} {lk : Nat} {vt : Value} {t : List UInt8} {u : Option (Nat × Nat × Nat)} {vs : Value} {n : Nat} {xs : List Value} (c : CP w b o D pl h mj ch lk vt t u vs n xs) : ∀ k ∈ Value.owner vt ++ Value.owner vs, k < w.heap.size := fun k hk => (List.mem_append.1 hk).elim (c.wt.lt k) (c.op.win.lt k)
theorem PP.own {w : World} {b o D pl kd nm fm : Nat} {h : Hd} {tk lk : Nat} {vt : Value} {t : List UInt8} {u : Option (Nat × Nat × Nat)} {vs : Value} {n : Nat} {xs : List Value} (c : PP w b o D pl kd nm fm h tk lk vt t u vs n xs) : ∀ k ∈ Value.owner vt ++ Value.owner vs, k < w.heap.size := fun k hk => (List.mem_append.1 hk).elim (c.wt.lt k) (c.op.win.lt k)
theorem StP.keep {w w' : World} {b o D : Nat} {s : Ci} {vt vs : Value} (h : StP w b o D s vt vs) (hb : w'.heap[b]? = w.heap[b]?) (ho : ∀ k ∈ Value.owner vt ++ Value.owner vs, w'.heap[k]? = w.heap[k]?) : StP w' b o D s vt vs := by
  cases s with
  | bad e => exact ⟨h.1, h.2.1.keep hb, h.2.2⟩
  | _ => exact CP.keep2 h hb ho
theorem StP.own {w : World} {b o D : Nat} {s : Ci} {vt vs : Value} (h : StP w b o D s vt vs) : ∀ k ∈ Value.owner vt ++ Value.owner vs, k < w.heap.size := by
  cases s with
  | bad e =>
    obtain ⟨_, _, rfl, rfl⟩ := h; simp [Value.owner]
  | _ => exact CP.own h
theorem StPm.keep {w w' : World} {b o D : Nat} {s : Pm} {vt vs : Value} (h : StPm w b o D s vt vs) (hb : w'.heap[b]? = w.heap[b]?) (ho : ∀ k ∈ Value.owner vt ++ Value.owner vs, w'.heap[k]? = w.heap[k]?) : StPm w' b o D s vt vs := by
  cases s with
  | c x =>
    cases x with
    | bad e => exact ⟨h.1, h.2.1.keep hb, h.2.2⟩
    | item s dn =>
      obtain ⟨kd, nm, fm, g, c⟩ := h; exact ⟨kd, nm, fm, g, c.keep2 hb ho⟩
    | text s m n t u =>
      obtain ⟨kd, nm, fm, g, c⟩ := h; exact ⟨kd, nm, fm, g, c.keep2 hb ho⟩
    | head _ _ => exact h.elim
    | open_ _ _ _ => exact h.elim
    | chead _ _ _ _ => exact h.elim
    | ctext _ _ _ _ _ => exact h.elim
  | num s k q n a =>
    obtain ⟨nm, c⟩ := h; exact ⟨nm, c.keep2 hb ho⟩
theorem StPm.own {w : World} {b o D : Nat} {s : Pm} {vt vs : Value} (h : StPm w b o D s vt vs) : ∀ k ∈ Value.owner vt ++ Value.owner vs, k < w.heap.size := by
  cases s with
  | c x =>
    cases x with
    | bad e =>
      obtain ⟨_, _, rfl, rfl⟩ := h; simp [Value.owner]
    | item s dn =>
      obtain ⟨kd, nm, fm, g, c⟩ := h; exact c.own
    | text s m n t u =>
      obtain ⟨kd, nm, fm, g, c⟩ := h; exact c.own
    | head _ _ => exact h.elim
    | open_ _ _ _ => exact h.elim
    | chead _ _ _ _ => exact h.elim
    | ctext _ _ _ _ _ => exact h.elim
  | num s k q n a =>
    obtain ⟨nm, c⟩ := h; exact c.own
theorem StG.keep {w w' : World} {b lim : Nat} {vh vo : Value} {s : Gs} (h : StG w b lim vh vo s) (hk : ∀ k ∈ rowsG b vh vo, w'.heap[k]? = w.heap[k]?) : StG w' b lim vh vo s := by
  have hb := hk b (by simp [rowsG]); cases s with
  | bad =>
    obtain ⟨h1, h2⟩ := h; exact ⟨hb.trans h1, h2⟩
  | live z H op =>
    obtain ⟨h1, h2, h3⟩ := h; exact ⟨hb.trans h1, h2.keep fun i hi => hk i (by simp [rowsG, hi]), h3.keep fun i hi => hk i (by simp [rowsG, hi])⟩
def RdAt (w : World) (D : Nat) (V : Value) (F : List Nat) : Rs → Prop
  | .js s => ∃ b, V = .iface 86 (.pointer (some ⟨b, 0, none⟩)) ∧ F = [b] ∧ PAt w b 0 D s
  | .cb s => ∃ b vt vs, V = .iface 88 (.pointer (some ⟨b, 0, none⟩)) ∧ F = b :: (Value.owner vt ++ Value.owner vs) ∧ StP w b 0 D s vt vs
  | .pk s => ∃ b vt vs, V = .iface 90 (.pointer (some ⟨b, 0, none⟩)) ∧ F = b :: (Value.owner vt ++ Value.owner vs) ∧ StPm w b 0 D s vt vs
theorem RdAt.keep {w w' : World} {D : Nat} {V : Value} {F : List Nat} {r : Rs} (h : RdAt w D V F r) (hk : ∀ k ∈ F, w'.heap[k]? = w.heap[k]?) : RdAt w' D V F r := by
  cases r with
  | js s =>
    obtain ⟨b, rfl, rfl, h⟩ := h; exact ⟨b, rfl, rfl, h.keep (hk b (by simp))⟩
  | cb s =>
    obtain ⟨b, vt, vs, rfl, rfl, h⟩ := h; exact ⟨b, vt, vs, rfl, rfl, h.keep (hk b (by simp)) fun k hi => hk k (List.mem_cons_of_mem _ hi)⟩
  | pk s =>
    obtain ⟨b, vt, vs, rfl, rfl, h⟩ := h; exact ⟨b, vt, vs, rfl, rfl, h.keep (hk b (by simp)) fun k hi => hk k (List.mem_cons_of_mem _ hi)⟩
theorem RdAt.lt {w : World} {D : Nat} {V : Value} {F : List Nat} {r : Rs} (h : RdAt w D V F r) : ∀ k ∈ F, k < w.heap.size := by
  cases r with
  | js s =>
    obtain ⟨b, rfl, rfl, h⟩ := h; intro k hk; simp only [List.mem_singleton] at hk; exact hk ▸ h.lt
  | cb s =>
    obtain ⟨b, vt, vs, rfl, rfl, h⟩ := h; intro k hk; exact (List.mem_cons.1 hk).elim (fun e => e ▸ h.lt) (h.own k)
  | pk s =>
    obtain ⟨b, vt, vs, rfl, rfl, h⟩ := h; intro k hk; exact (List.mem_cons.1 hk).elim (fun e => e ▸ h.lt) (h.own k)
theorem RdAt.go {w w' : World} {D : Nat} {V : Value} {F : List Nat} {r : Rs} (h : RdAt w D V F r) (k : Below w.heap.size w w') : RdAt w' D V F r := h.keep fun i hi => k.block i (h.lt i hi)
def RdStep (w w' : World) (D : Nat) (V : Value) (F : List Nat) (q : Rs × List Ev) (r : Ending) : Prop :=
  ∃ u F', r = .returned (.tuple #[u, .int .i64 (errRs q.1 : Nat)]) ∧ Vls w w' u q.2 ∧ RdAt w' D V F' q.1 ∧ Step F F' w w'
theorem Subg.stepF {g g' : List Nat} {b o n : Nat} {w w' : World} (h : Subg g b o n w w') (hg : ∀ k ∈ g', k ∈ g ∨ w.heap.size ≤ k) : Step (b :: g) (b :: g') w w' :=
  ⟨h.os, h.tape, h.output, h.size, fun k hk hn => h.block k hk (fun e => hn (by simp [e])) (fun e => hn (by simp [e])), fun k hk => (List.mem_cons.1 hk).elim (fun e => .inl (by simp [e])) (fun hk => (hg k hk).imp (fun h => by simp [h]) id)⟩
theorem rd_js {w : World} {b D : Nat} {s : Js} (h : PAt w b 0 D s) (y : UInt8) :
    Calls Tryz.prog 84 #[.pointer (some ⟨b, 0, none⟩), .int .u8 y.toNat] w fun r w' => RdStep w w' D (.iface 86 (.pointer (some ⟨b, 0, none⟩))) [b] (stepRs D (.js s) y) r :=
  (jstep_at h y).mono fun r w' k => by
    obtain ⟨u, hr, hv⟩ := k.tells; exact ⟨u, [b], hr, hv, ⟨b, rfl, rfl, k.at_⟩, k.sub.step⟩
theorem rd_cb {w : World} {b D M : Nat} {s : Ci} {vt vs : Value} (hD : 1 ≤ D ∧ D ≤ 16) (h : StP w b 0 D s vt vs) (hw : WfK D M s) (hM : M + 1 ≤ 2000000000) (y : UInt8) :
    Calls Tryz.prog 142 #[.pointer (some ⟨b, 0, none⟩), .int .u8 y.toNat] w fun r w' => RdStep w w' D (.iface 88 (.pointer (some ⟨b, 0, none⟩))) (b :: (Value.owner vt ++ Value.owner vs)) (stepRs D (.cb s) y) r :=
  (cstep_at hD h hw hM y).mono fun r w' k => by
    obtain ⟨⟨u, hr, hv⟩, ⟨vt', vs', hst, ho⟩, hs⟩ := k; exact ⟨u, _, hr, hv, ⟨b, vt', vs', rfl, rfl, hst⟩, hs.stepF ho⟩
theorem rd_pk {w : World} {b D : Nat} {s : Pm} {vt vs : Value} (hD : 1 ≤ D ∧ D ≤ 16) (h : StPm w b 0 D s vt vs) (hw : WfPm D s) (y : UInt8) :
    Calls Tryz.prog 183 #[.pointer (some ⟨b, 0, none⟩), .int .u8 y.toNat] w fun r w' => RdStep w w' D (.iface 90 (.pointer (some ⟨b, 0, none⟩))) (b :: (Value.owner vt ++ Value.owner vs)) (stepRs D (.pk s) y) r :=
  (pstep_at hD h hw y).mono fun r w' k => by
    obtain ⟨⟨u, hr, hv⟩, ⟨vt', vs', hst, ho⟩, hs⟩ := k; exact ⟨u, _, hr, hv, ⟨b, vt', vs', rfl, rfl, hst⟩, hs.stepF ho⟩
def GtAt (w : World) (lim : Nat) (V : Value) (F : List Nat) : Option Gs → Prop
  | none => V = .pointer none ∧ F = []
  | some g => ∃ b vh vo, V = .pointer (some ⟨b, 0, none⟩) ∧ F = rowsG b vh vo ∧ StG w b lim vh vo g
theorem GtAt.keep {w w' : World} {lim : Nat} {V : Value} {F : List Nat} {g : Option Gs} (h : GtAt w lim V F g) (hk : ∀ k ∈ F, w'.heap[k]? = w.heap[k]?) : GtAt w' lim V F g := by
  cases g with
  | none => exact h
  | some g =>
    obtain ⟨b, vh, vo, rfl, rfl, h⟩ := h; exact ⟨b, vh, vo, rfl, rfl, h.keep hk⟩
theorem GtAt.typed {w : World} {lim : Nat} {V : Value} {F : List Nat} {g : Option Gs} (h : GtAt w lim V F g) : ∀ k ∈ F, ∃ c t fr, w.heap[k]? = some (.cells c t fr) ∧ t ∈ gts := by
  cases g with
  | none =>
    obtain ⟨_, rfl⟩ := h; simp
  | some g =>
    obtain ⟨b, vh, vo, rfl, rfl, h⟩ := h; exact h.typed
theorem GtAt.lt {w : World} {lim : Nat} {V : Value} {F : List Nat} {g : Option Gs} (h : GtAt w lim V F g) : ∀ k ∈ F, k < w.heap.size := fun k hk => by
  obtain ⟨c, t, fr, hc, _⟩ := h.typed k hk; exact (Array.getElem?_eq_some_iff.1 hc).1
theorem GtAt.go {w w' : World} {lim : Nat} {V : Value} {F : List Nat} {g : Option Gs} (h : GtAt w lim V F g) (k : Below w.heap.size w w') : GtAt w' lim V F g := h.keep fun i hi => k.block i (h.lt i hi)
theorem GtAt.kept {w w' : World} {lim : Nat} {V : Value} {F : List Nat} {g : Option Gs} {ts : List Nat} (h : GtAt w lim V F g) (k : Off ts w w') (ht : ∀ t ∈ gts, t ∉ ts) : GtAt w' lim V F g := h.keep fun i hi => by
  obtain ⟨c, t, fr, hc, h1⟩ := h.typed i hi; rw [hc, k _ _ _ _ hc (ht t h1)]
def WtAt (w0 w : World) (V : Value) (F : List Nat) : Ws → Prop
  | .js pr q => ∃ b F', V = .iface 92 (.pointer (some ⟨b, 0, none⟩)) ∧ F = b :: F' ∧ JW w0 w b F' q ∧ PrintC w0 pr
  | .cb q => ∃ b F', V = .iface 96 (.pointer (some ⟨b, 0, none⟩)) ∧ F = b :: F' ∧ QW w0 w b F' q
  | .pk q => ∃ b F', V = .iface 101 (.pointer (some ⟨b, 0, none⟩)) ∧ F = b :: F' ∧ PoW w0 w b F' q
def wts : List Nat := [95, 4, 100, 281, 105, 285]
theorem WtAt.bel {w0 w : World} {V : Value} {F : List Nat} {q : Ws} (h : WtAt w0 w V F q) : Below w0.heap.size w0 w := by
  cases q with
  | js pr q => obtain ⟨b, F', rfl, rfl, h, _⟩ := h; exact h.bel
  | cb q => obtain ⟨b, F', rfl, rfl, h⟩ := h; exact h.bel
  | pk q => obtain ⟨b, F', rfl, rfl, h⟩ := h; exact h.bel
theorem WtAt.low {w0 w : World} {V : Value} {F : List Nat} {q : Ws} (h : WtAt w0 w V F q) : ∀ k ∈ F, w0.heap.size ≤ k := by
  cases q with
  | js pr q => obtain ⟨b, F', rfl, rfl, h, _⟩ := h; exact fun k hk => (List.mem_cons.1 hk).elim (fun e => e ▸ h.lo) (h.row k)
  | cb q => obtain ⟨b, F', rfl, rfl, h⟩ := h; exact fun k hk => (List.mem_cons.1 hk).elim (fun e => e ▸ h.lo) (h.row k)
  | pk q => obtain ⟨b, F', rfl, rfl, h⟩ := h; exact fun k hk => (List.mem_cons.1 hk).elim (fun e => e ▸ h.lo) (h.row k)
theorem WtAt.typed {w0 w : World} {V : Value} {F : List Nat} {q : Ws} (h : WtAt w0 w V F q) : ∀ k ∈ F, ∃ c t fr, w.heap[k]? = some (.cells c t fr) ∧ t ∈ wts := by
  cases q with
  | js pr q =>
    obtain ⟨b, F', rfl, rfl, h, _⟩ := h; intro k hk; rcases List.mem_cons.1 hk with rfl | hk
    · obtain ⟨c, fr, hc⟩ := h.typ
      exact ⟨c, _, fr, hc, by simp [wts]⟩
    · obtain ⟨_, _, cur, hc⟩ := h.at_.row k hk
      exact ⟨cur, _, _, hc, by simp [wts]⟩
  | cb q =>
    obtain ⟨b, F', rfl, rfl, h⟩ := h; intro k hk; rcases List.mem_cons.1 hk with rfl | hk
    · obtain ⟨c, fr, hc⟩ := h.typ
      exact ⟨c, _, fr, hc, by simp [wts]⟩
    · obtain ⟨_, _, cur, hc⟩ := h.at_.row k hk
      exact ⟨cur, _, _, hc, by simp [wts]⟩
  | pk q =>
    obtain ⟨b, F', rfl, rfl, h⟩ := h; intro k hk; rcases List.mem_cons.1 hk with rfl | hk
    · obtain ⟨c, fr, hc⟩ := h.typ
      exact ⟨c, _, fr, hc, by simp [wts]⟩
    · obtain ⟨_, _, cur, hc⟩ := h.at_.row k hk
      exact ⟨cur, _, _, hc, by simp [wts]⟩
theorem WtAt.lt {w0 w : World} {V : Value} {F : List Nat} {q : Ws} (h : WtAt w0 w V F q) : ∀ k ∈ F, k < w.heap.size := fun k hk => by
  obtain ⟨c, t, fr, hc, _⟩ := h.typed k hk; exact (Array.getElem?_eq_some_iff.1 hc).1
theorem WtAt.keep {w0 w w' : World} {V : Value} {F : List Nat} {q : Ws} (h : WtAt w0 w V F q) (hk : ∀ k ∈ F, w'.heap[k]? = w.heap[k]?) (hb : Below w0.heap.size w0 w') : WtAt w0 w' V F q := by
  cases q with
  | js pr q =>
    obtain ⟨b, F', rfl, rfl, h, hT⟩ := h; obtain ⟨c, fr, hc⟩ := h.typ; exact ⟨b, F', rfl, rfl, ⟨h.at_.keep fun i hi => hk i (by simpa using hi), h.lo, h.row, hb, c, fr, (hk b (by simp)).trans hc⟩, hT⟩
  | cb q =>
    obtain ⟨b, F', rfl, rfl, h⟩ := h; obtain ⟨c, fr, hc⟩ := h.typ; exact ⟨b, F', rfl, rfl, ⟨h.at_.keep fun i hi => hk i (by simpa using hi), h.lo, h.row, hb, c, fr, (hk b (by simp)).trans hc⟩⟩
  | pk q =>
    obtain ⟨b, F', rfl, rfl, h⟩ := h; obtain ⟨c, fr, hc⟩ := h.typ; exact ⟨b, F', rfl, rfl, ⟨h.at_.keep fun i hi => hk i (by simpa using hi), h.lo, h.row, hb, c, fr, (hk b (by simp)).trans hc⟩⟩
theorem WtAt.go {w0 w w' : World} {V : Value} {F : List Nat} {q : Ws} (h : WtAt w0 w V F q) (k : Below w.heap.size w w') : WtAt w0 w' V F q := h.keep (fun i hi => k.block i (h.lt i hi)) (h.bel.trans (k.mono h.bel.size))
theorem WtAt.kept {w0 w w' : World} {V : Value} {F : List Nat} {q : Ws} {ts : List Nat} (h : WtAt w0 w V F q) (k : Off ts w w') (ht : ∀ t ∈ wts, t ∉ ts) (hb : Below w0.heap.size w0 w') : WtAt w0 w' V F q := h.keep (fun i hi => by
  obtain ⟨c, t, fr, hc, h1⟩ := h.typed i hi; rw [hc, k _ _ _ _ hc (ht t h1)]) hb
theorem WtAt.prW {w0 w : World} {V : Value} {F : List Nat} {q : Ws} (h : WtAt w0 w V F q) : PrW q := by
  cases q with
  | js pr q =>
    obtain ⟨_, _, _, _, _, hT⟩ := h; exact hT.size
  | cb q => trivial
  | pk q => trivial
def WtStep (w0 w w' : World) (V : Value) (F : List Nat) (q : (List UInt8 × Nat) × Ws) (r : Ending) : Prop :=
  r = .returned (.tuple #[.string ⟨q.1.1.toArray⟩, .int .i64 (q.1.2 : Nat)]) ∧ ∃ F', WtAt w0 w' V F' q.2 ∧ Step F F' w w' ∧ Off wts w w'
theorem Off.more {ts us : List Nat} {w w' : World} (h : Off ts w w') (hs : ∀ t ∈ ts, t ∈ us) : Off us w w' := fun k c t fr hc ht => h k c t fr hc (fun hm => ht (hs t hm))
theorem wt_js {pr : Bool → Nat → List UInt8} {w0 w : World} {b : Nat} {F : List Nat} {q : Os} (h : JW w0 w b F q) (hT : PrintC w0 pr) (hs : q.s.length ≤ 890) {e : Ev} (he : TolE e) :
    Calls Tryz.prog 206 #[.pointer (some ⟨b, 0, none⟩), valE e] w fun r w' => WtStep w0 w w' (.iface 92 (.pointer (some ⟨b, 0, none⟩))) (b :: F) (stepWs (.js pr q) e) r :=
  (jwx_step h hT (by omega) e he.1 he.2.1.2.1 (Nat.le_trans he.2.2 (by decide))).mono fun r w' k => by
    obtain ⟨hr, F', h1, h2⟩ := k; exact ⟨hr, _, ⟨b, F', rfl, rfl, h1, hT⟩, h2.step, (h.off h2).more (by simp [wts])⟩
theorem wt_cb {w0 w : World} {b : Nat} {F : List Nat} {q : Kq} (h : QW w0 w b F q) (hs : dpQ q.s ≤ 890) {e : Ev} (he : TolE e) :
    Calls Tryz.prog 244 #[.pointer (some ⟨b, 0, none⟩), valE e] w fun r w' => WtStep w0 w w' (.iface 96 (.pointer (some ⟨b, 0, none⟩))) (b :: F) (stepWs (.cb q) e) r :=
  (qw_step h (by omega) e he.1 he.2.1 (Nat.le_trans he.2.2 (by decide))).mono fun r w' k => by
    obtain ⟨hr, F', h1, h2⟩ := k; exact ⟨hr, _, ⟨b, F', rfl, rfl, h1⟩, h2.step, (h.off h2).more (by simp [wts])⟩
theorem wt_pk {w0 w : World} {b : Nat} {F : List Nat} {q : Kq} (h : PoW w0 w b F q) (hs : q.s.length ≤ 890) {e : Ev} (he : TolE e) :
    Calls Tryz.prog 267 #[.pointer (some ⟨b, 0, none⟩), valE e] w fun r w' => WtStep w0 w w' (.iface 101 (.pointer (some ⟨b, 0, none⟩))) (b :: F) (stepWs (.pk q) e) r :=
  (pow_step h (by omega) e he.1 he.2.1 (Nat.le_trans he.2.2 (by decide))).mono fun r w' k => by
    obtain ⟨hr, F', h1, h2⟩ := k; exact ⟨hr, _, ⟨b, F', rfl, rfl, h1⟩, h2.step, (h.off h2).more (by simp [wts])⟩
end
section
open Go.RowKit
open Go.Lib
structure Pf (B : Nat) (F F' : List Nat) (w w' : World) : Prop where
  os : w'.os = w.os
  tape : w'.tape = w.tape
  output : w'.output = w.output
  size : w.heap.size ≤ w'.heap.size
  block : ∀ k, k < B → k ∉ F → w'.heap[k]? = w.heap[k]?
  foot : ∀ k ∈ F', k ∈ F ∨ B ≤ k
theorem Pf.refl (B : Nat) (F : List Nat) (w : World) : Pf B F F w w := ⟨rfl, rfl, rfl, Nat.le_refl _, fun _ _ _ => rfl, fun _ h => .inl h⟩
theorem Pf.trans {B : Nat} {F F' F'' : List Nat} {a b c : World} (h : Pf B F F' a b) (k : Pf B F' F'' b c) : Pf B F F'' a c :=
  ⟨k.os.trans h.os, k.tape.trans h.tape, k.output.trans h.output, Nat.le_trans h.size k.size, fun i hi hF => (k.block i hi (fun hF' => (h.foot i hF').elim hF (fun hB => by omega))).trans (h.block i hi hF), fun i hi => (k.foot i hi).elim (h.foot i) .inr⟩
theorem Step.pf {F F' : List Nat} {w w' : World} {B : Nat} (h : Step F F' w w') (hB : B ≤ w.heap.size) : Pf B F F' w w' :=
  ⟨h.os, h.tape, h.output, h.size, fun k hk hF => h.block k (by omega) hF, fun k hk => (h.foot k hk).imp id (fun h => by omega)⟩
theorem Pf.step {F F' : List Nat} {w w' : World} (h : Pf w.heap.size F F' w w') : Step F F' w w' := ⟨h.os, h.tape, h.output, h.size, h.block, h.foot⟩
theorem pf_below {B : Nat} {w w' : World} (h : Below B w w') (F : List Nat) : Pf B F F w w' := ⟨h.os, h.tape, h.output, h.size, fun k hk _ => h.block k hk, fun _ h => .inl h⟩
theorem Pf.widen {B : Nat} {F F' G G' : List Nat} {w w' : World} (h : Pf B F F' w w') (hF : ∀ k ∈ F, k ∈ G) (hG : ∀ k ∈ G', k ∈ G ∨ k ∈ F') : Pf B G G' w w' :=
  ⟨h.os, h.tape, h.output, h.size, fun k hk hn => h.block k hk (fun hk' => hn (hF k hk')), fun k hk => (hG k hk).elim .inl (fun hk => (h.foot k hk).imp (hF k) id)⟩
def pipC (e : Nat) (RV SV WV : Value) : Array Value := #[.int .i64 (e : Int), RV, SV, WV]
def PipAt (w0 w : World) (pb D lim : Nat) (F : List Nat) : Pp → Prop
  | .over e => Blk w pb (pipC e .nilIface (.pointer none) .nilIface) 62 ∧ w0.heap.size ≤ pb ∧ Below w0.heap.size w0 w ∧ F = [pb]
  | .live r g q => ∃ RV SV WV FR FS FW, Blk w pb (pipC 0 RV SV WV) 62 ∧ RdAt w D RV FR r ∧ GtAt w lim SV FS g ∧ WtAt w0 w WV FW q ∧
      w0.heap.size ≤ pb ∧ (∀ k ∈ FR ++ (FS ++ FW), w0.heap.size ≤ k ∧ k ≠ pb) ∧ (∀ k ∈ FR, k ∉ FS ++ FW) ∧ (∀ k ∈ FS, k ∉ FW) ∧ Below w0.heap.size w0 w ∧ F = pb :: (FR ++ (FS ++ FW))
theorem PipAt.bel {w0 w : World} {pb D lim : Nat} {F : List Nat} {s : Pp} (h : PipAt w0 w pb D lim F s) : Below w0.heap.size w0 w := by
  cases s with
  | over e => exact h.2.2.1
  | live r g q =>
    obtain ⟨_, _, _, _, _, _, _, _, _, _, _, _, _, _, h, _⟩ := h; exact h
theorem PipAt.low {w0 w : World} {pb D lim : Nat} {F : List Nat} {s : Pp} (h : PipAt w0 w pb D lim F s) : ∀ k ∈ F, w0.heap.size ≤ k ∧ k < w.heap.size := by
  cases s with
  | over e =>
    obtain ⟨h1, h2, h3, rfl⟩ := h; intro k hk; simp only [List.mem_singleton] at hk; subst hk; exact ⟨h2, h1.lt⟩
  | live r g q =>
    obtain ⟨RV, SV, WV, FR, FS, FW, h1, h2, h3, h4, h5, h6, h7, h8, h9, rfl⟩ := h; intro k hk; rcases List.mem_cons.1 hk with rfl | hk
    · exact ⟨h5, h1.lt⟩
    · refine ⟨(h6 k hk).1, ?_⟩
      rcases List.mem_append.1 hk with hk | hk
      · exact h2.lt k hk
      · exact (List.mem_append.1 hk).elim (h3.lt k) (h4.lt k)
theorem PipAt.keep {w0 w w' : World} {pb D lim : Nat} {F : List Nat} {s : Pp} (h : PipAt w0 w pb D lim F s) (hk : ∀ k ∈ F, w'.heap[k]? = w.heap[k]?) (hb : Below w0.heap.size w0 w') : PipAt w0 w' pb D lim F s := by
  cases s with
  | over e =>
    obtain ⟨h1, h2, h3, rfl⟩ := h; exact ⟨(hk pb (by simp)).trans h1, h2, hb, rfl⟩
  | live r g q =>
    obtain ⟨RV, SV, WV, FR, FS, FW, h1, h2, h3, h4, h5, h6, h7, h8, h9, rfl⟩ := h; exact ⟨RV, SV, WV, FR, FS, FW, (hk pb (by simp)).trans h1, h2.keep fun k h => hk k (by simp [h]), h3.keep fun k h => hk k (by simp [h]), h4.keep (fun k h => hk k (by simp [h])) hb, h5, h6, h7, h8, hb, rfl⟩
theorem PipAt.go {w0 w w' : World} {pb D lim : Nat} {F : List Nat} {s : Pp} (h : PipAt w0 w pb D lim F s) (k : Below w.heap.size w w') : PipAt w0 w' pb D lim F s :=
  h.keep (fun i hi => k.block i (h.low i hi).2) (h.bel.trans (k.mono h.bel.size))
theorem RdAt.form {w : World} {D : Nat} {V : Value} {F : List Nat} {r : Rs} (h : RdAt w D V F r) : ∃ d b, V = .iface d (.pointer (some ⟨b, 0, none⟩)) := by
  cases r with
  | js s => obtain ⟨b, rfl, _⟩ := h; exact ⟨_, b, rfl⟩
  | cb s => obtain ⟨b, _, _, rfl, _⟩ := h; exact ⟨_, b, rfl⟩
  | pk s => obtain ⟨b, _, _, rfl, _⟩ := h; exact ⟨_, b, rfl⟩
theorem pov_over {w : World} {pb e : Nat} {SV WV : Value} (h : Blk w pb (pipC e .nilIface SV WV) 62) :
    Calls Tryz.prog 17 #[.pointer (some ⟨pb, 0, none⟩)] w fun r w' => r = .returned (.bool true) ∧ w = w' := by
  have c1 := h.cell 1; simp only [pipC] at c1; clear h; go_enter Tryz.func17, Tryz.ntmps17; go_wp2; go_ret; exact ⟨rfl, rfl⟩
theorem pov_live {w : World} {pb e d b : Nat} {SV WV : Value} (h : Blk w pb (pipC e (.iface d (.pointer (some ⟨b, 0, none⟩))) SV WV) 62) :
    Calls Tryz.prog 17 #[.pointer (some ⟨pb, 0, none⟩)] w fun r w' => r = .returned (.bool false) ∧ w = w' := by
  have c1 := h.cell 1; simp only [pipC] at c1; clear h; go_enter Tryz.func17, Tryz.ntmps17; go_wp2; go_ret; exact ⟨rfl, rfl⟩
theorem pov_any {w0 w : World} {pb D lim : Nat} {F : List Nat} {s : Pp} (h : PipAt w0 w pb D lim F s) :
    Calls Tryz.prog 17 #[.pointer (some ⟨pb, 0, none⟩)] w fun r w' => r = .returned (.bool (ovPp s)) ∧ w = w' := by
  cases s with
  | over e => exact pov_over h.1
  | live r g q =>
    obtain ⟨RV, SV, WV, FR, FS, FW, h1, h2, _⟩ := h; obtain ⟨d, b, rfl⟩ := h2.form; exact pov_live h1
theorem pihad_over {w : World} {pb e : Nat} {SV WV : Value} (h : Blk w pb (pipC e .nilIface SV WV) 62) :
    Calls Tryz.prog 27 #[.pointer (some ⟨pb, 0, none⟩)] w fun r w' => r = .returned (.int .i64 (overE e : Nat)) ∧ w = w' := by
  have HO := hid (pov_over h); have c0 := h.cell 0; simp only [pipC] at c0; clear h; unfold overE; by_cases he : e = 0
  · subst he
    rw [if_pos rfl]; go_enter Tryz.func27, Tryz.ntmps27; (go_wp2_with fail); refine HO.out.mono ?_; rintro r w1 ⟨rfl, rfl⟩; go_wp2; go_ret; exact ⟨rfl, rfl⟩
  · rw [if_neg he]
    have hz : ((e : Int) == 0) = false := by rw [beq_eq_false_iff_ne]; omega
    clear he; go_enter Tryz.func27, Tryz.ntmps27; (go_wp2_with fail); refine HO.out.mono ?_; rintro r w1 ⟨rfl, rfl⟩; go_wp2; go_ret; exact ⟨rfl, rfl⟩
theorem pihad_live {w : World} {pb e d b : Nat} {SV WV : Value} (h : Blk w pb (pipC e (.iface d (.pointer (some ⟨b, 0, none⟩))) SV WV) 62) :
    Calls Tryz.prog 27 #[.pointer (some ⟨pb, 0, none⟩)] w fun r w' => r = .returned (.int .i64 0) ∧ w = w' := by
  have HO := hid (pov_live h); clear h; go_enter Tryz.func27, Tryz.ntmps27; (go_wp2_with fail); refine HO.out.mono ?_; rintro r w1 ⟨rfl, rfl⟩; go_wp2; go_ret; exact ⟨rfl, rfl⟩
theorem tidy_size (e : Ev) : (tidyE e).t.size ≤ e.t.size := by
  unfold tidyE
  repeat' split
  all_goals first | exact Nat.zero_le _ | exact Nat.le_refl _
def FreeR (w w' : World) (lim : Nat) (SV : Value) (FS : List Nat) (q : Option Gs × List Ev × Nat) (r : Ending) : Prop :=
  ∃ u FS', r = .returned (.tuple #[u, .int .i64 (q.2.2 : Nat)]) ∧ Win w' 20 1 u q.2.1.length (q.2.1.map valE) ∧ GtAt w' lim SV FS' q.1 ∧ Step FS FS' w w' ∧ Off gts w w'
theorem pifree_any {w : World} {pb lim e0 : Nat} {RV SV WV : Value} {FS : List Nat} {g : Option Gs} (h : Blk w pb (pipC e0 RV SV WV) 62) (hG : GtAt w lim SV FS g) (hok : OkOG lim g) (hlim : lim ≤ 2000) {e : Ev} (he : TolE e) :
    Calls Tryz.prog 46 #[.pointer (some ⟨pb, 0, none⟩), valE e] w fun r w' => FreeR w w' lim SV FS (freeP lim g e) r := by
  have c2 := h.cell 2; simp only [pipC] at c2; cases g with
  | none =>
    obtain ⟨rfl, rfl⟩ := hG; have HF : Hid (∀ W, Below w.heap.size w W → FreeR w (W.alloc (.cells #[valE e] 20)) lim (.pointer none) [] (freeP lim none e) (.returned (.tuple #[.slice (some ⟨W.heap.size, 0, none⟩) 1 1, .int .i64 0]))) := hid (fun W k => by
      have k2 := up_alloc k (.cells #[valE e] 20); refine ⟨_, [], rfl, ?_, ⟨rfl, rfl⟩, Step.of_below _ k2, fun i c t fr hi _ => by rw [k2.block i (Array.getElem?_eq_some_iff.1 hi).1]; exact hi⟩; exact ⟨rfl, .inr ⟨W.heap.size, 0, 1, _, rfl, heap_alloc_new W _, Nat.le_refl _, by simp, by unfold maxLen; omega, by simp [freeP]⟩⟩)
    have HB := hid (Below.refl w.heap.size w); have hform := valE_form e; generalize valE e = V at *
    clear h hok he; rcases hform with rfl | ⟨d, zz, rfl⟩
    all_goals
      go_enter Tryz.func46, Tryz.ntmps46; go_wp2; go_ret2; exact HF.out _ HB.out
  | some g =>
    obtain ⟨b, vh, vo, rfl, rfl, hg⟩ := hG; have HS : Hid (Calls Tryz.prog 49 #[.pointer (some ⟨b, 0, none⟩), valE e] w fun r w' => FreeR w w' lim (.pointer (some ⟨b, 0, none⟩)) (rowsG b vh vo) (freeP lim (some g) e) r) := hid (by
      refine (gstep_any hg hok.1 hlim e he.1 (by have := tidy_size e; have := he.2.2; unfold sizG; omega)).mono ?_; rintro r w' ⟨v, rfl, vh', vo', hW, hk, hs', hst⟩; exact ⟨v, _, rfl, hW, ⟨b, vh', vo', rfl, rfl, hs'⟩, hst, hg.off hst⟩)
    generalize freeP lim (some g) e = R at *
    generalize valE e = V at *
    clear h hok he hg; go_enter Tryz.func46, Tryz.ntmps46; (go_wp2_with fail); refine HS.out.mono ?_; rintro r w1 ⟨u, FS', rfl, h1, h2, h3, h4⟩; have HF : Hid (FreeR w w1 lim (.pointer (some ⟨b, 0, none⟩)) (rowsG b vh vo) R (.returned (.tuple #[u, .int .i64 (R.2.2 : Nat)]))) := hid ⟨u, FS', rfl, h1, h2, h3, h4⟩; clear h1 h2 h3 h4; go_wp2; go_ret2; exact HF.out
end
end Go.Proofs.YtkgconbdmnmbnaaGreat
