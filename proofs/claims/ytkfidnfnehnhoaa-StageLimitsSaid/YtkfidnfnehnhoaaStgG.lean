/-
  CONTRACTS of package stage, part G: Step.
-/
import Derived.Test.YtkfidnfnehnhoaaStgF
namespace Go.Proofs.Ytkfidnfnehnhoaa
open Go.RowKit
open Go.Lib
/-- What Step leaves. -/
def StepGK (lim : Nat) (w : World) (b : Nat) (vh vo : Value) (G : Gr) (r : Ending) (w' : World) : Prop :=
  ∃ v, r = .returned (.tuple #[v, .int .i64 (G.e : Int)]) ∧ ∃ vh' vo', Win w' 20 1 v G.l.length (G.l.map valE) ∧ (∀ k ∈ Value.owner v, k ∈ Value.owner vh ∨ w.heap.size ≤ k) ∧ StG w' b lim vh' vo' G.s ∧ Step (rowsG b vh vo) (rowsG b vh' vo') w w'
theorem sgp_up {w w0 w1 : World} {b lim z : Nat} {vh vo vh' vo' : Value} {H : List Ev} {op : List Cn} {v : Value} {l : List Ev} {e : Nat} (k : Below w.heap.size w w0) (h : SgP w0 w1 b lim z vh vo vh' vo' H op) (hl : l = []) (he : e = 0) (hv : v = .slice none 0 0) :
    StepGK lim w b vh vo ⟨.live z H op, l, e⟩ (.returned (.tuple #[v, .int .i64 0])) w1 := by
  subst hl he hv
  exact ⟨_, rfl, vh', vo', Win.nil_ _ _ _, fun k hk => by simp [Value.owner] at hk, ⟨h.sg.blk, h.sg.wh, h.sg.wo⟩, (h.pre k).step⟩
set_option maxRecDepth 100000 in
set_option maxHeartbeats 4000000 in
/-- Behind an error all is that error. -/
theorem gstep_bad {w : World} {b lim : Nat} {vh vo : Value} (h : StG w b lim vh vo .bad) (V : Value) :
    Calls Try.prog 13 #[.pointer (some ⟨b, 0, none⟩), V] w fun r w' => StepGK lim w b vh vo ⟨.bad, [], 10⟩ r w' := by
  have HH := Lib.hid (ghad_at h.1)
  have HG := Lib.hid h
  have HF : Hid (StepGK lim w b vh vo ⟨.bad, [], 10⟩ (.returned (.tuple #[.slice none 0 0, .int .i64 10])) w) := Lib.hid ⟨_, rfl, vh, vo, Win.nil_ _ _ _, fun k hk => by simp [Value.owner] at hk, h, Step.refl _ _⟩
  clear h
  go_enter Try.func13, Try.ntmps13
  go_wp2_with fail
  refine HH.out.mono ?_
  rintro r w1 ⟨rfl, rfl⟩
  go_wp2
  go_ret2
  exact HF.out
set_option maxRecDepth 100000 in
set_option maxHeartbeats 4000000 in
theorem gstep_pass {w : World} {b lim z : Nat} {vh vo : Value} {H : List Ev} {op : List Cn} (h : SgR w b lim z vh vo H op) (e : Ev) (he : mayE e) (ht : sizG e ≤ 1000) (hp : op = [] ∧ ¬ opnE e) :
    Calls Try.prog 13 #[.pointer (some ⟨b, 0, none⟩), valE e] w fun r w' => StepGK lim w b vh vo ⟨.live z H op, [e], 0⟩ r w' := by
  obtain ⟨a5, cp5, rfl, _, _⟩ := h.wo.slice_form
  have HH := Lib.hid (ghad_at h.blk)
  have HS := Lib.hid (gsize_any e he ht w)
  have HP := Lib.hid (fun W (hb : Sgb W b 0 lim vh z (.slice a5 op.length cp5)) => gpasses_at hb e he)
  have hp' : decide (op.length = 0 ∧ ¬ opnE e) = true := by simpa using hp
  rw [hp'] at HP
  have hq0 : ((sizG e : Int) == 0) = false := by
    have := sizG_pos e
    rw [beq_eq_false_iff_ne]; omega
  have hform := valE_form e
  have HR := Lib.hid h
  have hK : ∀ W, Below w.heap.size w W → StepGK lim w b vh (.slice a5 op.length cp5) ⟨.live z H op, [e], 0⟩ (.returned (.tuple #[.slice (some ⟨W.heap.size, 0, none⟩) 1 1, .int .i64 0])) (W.alloc (.cells #[valE e] 20)) := fun W k => by
    have h2 := h.go (up_alloc k (.cells #[valE e] 20))
    refine ⟨_, rfl, vh, _, ?_, fun k' hk' => ?_, ⟨h2.blk, h2.wh, h2.wo⟩, Step.of_below _ (up_alloc k _)⟩
    · exact ⟨rfl, .inr ⟨W.heap.size, 0, 1, _, rfl, heap_alloc_new W _, Nat.le_refl _, by simp, by unfold maxLen; omega, by simp⟩⟩
    · simp only [Value.owner, List.mem_singleton] at hk'
      subst hk'
      exact .inr k.size
  have HK := Lib.hid hK
  generalize sizG e = Q at *
  generalize valE e = V at *
  clear h hp hp' he ht hK
  go_enter Try.func13, Try.ntmps13
  go_wp2_with fail
  refine HH.out.mono ?_
  rintro r w1 ⟨rfl, rfl⟩
  go_wp2_with fail
  refine HS.out.mono ?_
  rintro r w2 ⟨rfl, hb2⟩
  have HB2 := Lib.hid hb2
  clear hb2 HS HH
  go_wp2_with fail
  refine (HP.out w2 (HR.out.go HB2.out).blk).mono ?_
  rintro r w3 ⟨rfl, hb3⟩
  have HF := Lib.hid (HK.out w3 (up_trans HB2.out hb3))
  clear hb3 HK HP HR HB2
  rcases hform with rfl | ⟨d, zz, rfl⟩
  all_goals
    go_wp2
    go_ret2
    exact HF.out
set_option maxRecDepth 100000 in
set_option maxHeartbeats 4000000 in
theorem gstep_free {w : World} {b lim z : Nat} {vh vo : Value} {H : List Ev} {x : Cn} (h : SgR w b lim z vh vo H [x]) (hx : x.at_ < H.length ∧ x.n ≤ 100000) (hl : H.length ≤ 90000) (e : Ev) (he : mayE e) (ht : sizG e ≤ 1000) (hk : e.k = 7) :
    Calls Try.prog 13 #[.pointer (some ⟨b, 0, none⟩), valE e] w fun r w' => StepGK lim w b vh vo ⟨gs0, endH H [x] ++ [e], 0⟩ r w' := by
  obtain ⟨a5, cp5, rfl, _, _⟩ := h.wo.slice_form
  have HH := Lib.hid (ghad_at h.blk)
  have HS := Lib.hid (gsize_any e he ht w)
  have HP := Lib.hid (fun W (hb : Sgb W b 0 lim vh z (.slice a5 [x].length cp5)) => gpasses_at hb e he)
  have HQ := Lib.hid (fun W (hb : Sgb W b 0 lim vh z (.slice a5 [x].length cp5)) => gfrees_at hb e he)
  rw [show decide ([x].length = 0 ∧ ¬ opnE e) = false by simp] at HP
  rw [show decide (e.k = 7 ∧ [x].length = 1) = true by simp [hk]] at HQ
  have hq0 : ((sizG e : Int) == 0) = false := by
    have := sizG_pos e
    rw [beq_eq_false_iff_ne]; omega
  have HR := Lib.hid h
  have HF := Lib.hid (fun W (hR : SgR W b lim z vh (.slice a5 [x].length cp5) H [x]) => gfree_at hR hx hl e)
  generalize sizG e = Q at *
  generalize valE e = V at *
  clear h he ht hk
  go_enter Try.func13, Try.ntmps13
  go_wp2_with fail
  refine HH.out.mono ?_
  rintro r w1 ⟨rfl, rfl⟩
  go_wp2_with fail
  refine HS.out.mono ?_
  rintro r w2 ⟨rfl, hb2⟩
  have HB2 := Lib.hid hb2
  clear hb2 HS HH
  go_wp2_with fail
  refine (HP.out w2 (HR.out.go HB2.out).blk).mono ?_
  rintro r w3 ⟨rfl, hb3⟩
  have HB3 := Lib.hid (up_trans HB2.out hb3)
  clear hb3 HP HB2
  go_wp2_with fail
  refine (HQ.out w3 (HR.out.go HB3.out).blk).mono ?_
  rintro r w4 ⟨rfl, hb4⟩
  have HB4 := Lib.hid (up_trans HB3.out hb4)
  clear hb4 HQ HB3
  go_wp2_with fail
  refine (HF.out w4 (HR.out.go HB4.out)).mono ?_
  rintro r w5 ⟨v', vo', rfl, hW, hS, ho, hst⟩
  have HE : Hid (StepGK lim w b vh (.slice a5 [x].length cp5) ⟨gs0, endH H [x] ++ [e], 0⟩ (.returned (.tuple #[v', .int .i64 0])) w5) := Lib.hid ⟨_, rfl, _, _, hW, fun k hk => (ho k hk).imp id (fun h => Nat.le_trans HB4.out.size h), ⟨hS.blk, hS.wh, hS.wo⟩, (Step.of_below _ HB4.out).trans hst⟩
  clear hW hS ho hst
  go_wp2
  go_ret2
  exact HE.out
/-- What a part makes of a Stage that holds some, or is about to. -/
theorem ghold_any {w : World} {b lim z : Nat} {vh vo : Value} {H : List Ev} {op : List Cn} (h : SgR w b lim z vh vo H op) (e : Ev) (hne : op = [] → e.k ≠ 7) (hd : op.length ≤ 80000) (hn : ∀ x ∈ op, x.at_ < H.length ∧ x.n ≤ 100000) (hl : H.length ≤ 80000) (he : mayE e) (q : Nat) (hz : z + q ≤ 100000) :
    Calls Try.prog 28 #[.pointer (some ⟨b, 0, none⟩), valE e, .int .i64 (q : Int)] w fun r' w' => r' = .returned (.tuple #[]) ∧ ∃ vh' vo', SgP w w' b lim (z + q) vh vo vh' vo' (heldN e H op) (openN e H.length op) := by
  unfold heldN openN
  by_cases hk : e.k = 7
  · rw [if_pos hk, if_pos hk]
    cases op with
    | nil => exact absurd hk (hne rfl)
    | cons x r => exact ghold_end h (by simp only [List.length_cons] at hd; omega) (hn x (by simp)) hl e he hk q hz
  · rw [if_neg hk, if_neg hk]
    by_cases hk2 : e.k = 5 ∨ e.k = 6
    · rw [if_pos hk2]
      exact ghold_beg h hd (fun x hx => (hn x hx).2) hl e he hk hk2 q hz
    · rw [if_neg hk2]
      exact ghold_val h hd (fun x hx => (hn x hx).2) hl e he hk hk2 q hz
set_option maxRecDepth 100000 in
set_option maxHeartbeats 4000000 in
theorem gstep_hold {w : World} {b lim z : Nat} {vh vo : Value} {H : List Ev} {op : List Cn} (h : SgR w b lim z vh vo H op) (hlim : lim ≤ 2000 ∧ z ≤ 2000) (hd : op.length ≤ 80000) (hn : ∀ x ∈ op, x.at_ < H.length ∧ x.n ≤ 100000) (hl : H.length ≤ 80000) (e : Ev) (he : mayE e) (ht : sizG e ≤ 1000)
    (h1 : ¬ (op = [] ∧ ¬ opnE e)) (h2 : ¬ (e.k = 7 ∧ op.length = 1)) (h3 : ¬ lim < z + sizG e) :
    Calls Try.prog 13 #[.pointer (some ⟨b, 0, none⟩), valE e] w fun r w' => StepGK lim w b vh vo ⟨.live (z + sizG e) (heldN e H op) (openN e H.length op), [], 0⟩ r w' := by
  obtain ⟨a5, cp5, rfl, _, _⟩ := h.wo.slice_form
  have HH := Lib.hid (ghad_at h.blk)
  have HS := Lib.hid (gsize_any e he ht w)
  have HP := Lib.hid (fun W (hb : Sgb W b 0 lim vh z (.slice a5 op.length cp5)) => gpasses_at hb e he)
  have HQ := Lib.hid (fun W (hb : Sgb W b 0 lim vh z (.slice a5 op.length cp5)) => gfrees_at hb e he)
  rw [show decide (op.length = 0 ∧ ¬ opnE e) = false by simpa using h1] at HP
  rw [show decide (e.k = 7 ∧ op.length = 1) = false by simpa using h2] at HQ
  have hq0 : ((sizG e : Int) == 0) = false := by
    have := sizG_pos e
    rw [beq_eq_false_iff_ne]; omega
  have HR := Lib.hid h
  have HF := Lib.hid (fun W (hR : SgR W b lim z vh (.slice a5 op.length cp5) H op) => ghold_any hR e (fun h0 h7 => h1 ⟨h0, fun h8 => by have := h8.1; omega⟩) hd hn hl he (sizG e) (by omega))
  have hwz : IntKind.i64.wrap ((lim : Int) - (z : Int)) = (lim : Int) - (z : Int) := by simp only [IntKind.wrap_i64]; omega
  have hwz2 : wrap64 ((lim : Int) - (z : Int)) = (lim : Int) - (z : Int) := by unfold wrap64; omega
  have hgt : ((sizG e : Int) > (lim : Int) - (z : Int)) = False := by simp; omega
  have hgt2 : ((lim : Int) - (z : Int) < (sizG e : Int)) = False := by simp; omega
  generalize hQ : sizG e = Q at *
  have HQQ := Lib.hid hQ
  generalize valE e = V at *
  clear h he h1 h2 h3 hd hn hl hQ ht
  go_enter Try.func13, Try.ntmps13
  go_wp2_with fail
  refine HH.out.mono ?_
  rintro r w1 ⟨rfl, rfl⟩
  go_wp2_with fail
  refine HS.out.mono ?_
  rintro r w2 ⟨rfl, hb2⟩
  have HB2 := Lib.hid hb2
  clear hb2 HS HH
  go_wp2_with fail
  refine (HP.out w2 (HR.out.go HB2.out).blk).mono ?_
  rintro r w3 ⟨rfl, hb3⟩
  have HB3 := Lib.hid (up_trans HB2.out hb3)
  clear hb3 HP HB2
  go_wp2_with fail
  refine (HQ.out w3 (HR.out.go HB3.out).blk).mono ?_
  rintro r w4 ⟨rfl, hb4⟩
  have HB4 := Lib.hid (up_trans HB3.out hb4)
  have c2 := (HR.out.go HB4.out).blk.cell 2
  have c4 := (HR.out.go HB4.out).blk.cell 4
  clear hb4 HQ HB3
  go_wp2_with fail
  go_quiet (fail)
  have hdr : Below w.heap.size w (w4.drewN nq) := below_drN HB4.out nq
  have HB5 := Lib.hid hdr
  have hFF := HF.out _ (HR.out.go hdr)
  generalize w4.drewN nq = w5 at *
  clear HF HR c2 c4 hdr HB4
  go_wp2_with fail
  refine hFF.mono ?_
  rintro r w6 ⟨rfl, vh', vo', hP⟩
  have HE := Lib.hid (sgp_up HB5.out hP rfl rfl rfl)
  clear hP hFF
  go_wp2
  go_ret2
  exact HE.out
set_option maxRecDepth 100000 in
set_option maxHeartbeats 4000000 in
theorem gstep_over {w : World} {b lim z : Nat} {vh vo : Value} {H : List Ev} {op : List Cn} (h : SgR w b lim z vh vo H op) (hlim : lim ≤ 2000 ∧ z ≤ 2000) (e : Ev) (he : mayE e) (ht : sizG e ≤ 1000)
    (h1 : ¬ (op = [] ∧ ¬ opnE e)) (h2 : ¬ (e.k = 7 ∧ op.length = 1)) (h3 : lim < z + sizG e) :
    Calls Try.prog 13 #[.pointer (some ⟨b, 0, none⟩), valE e] w fun r w' => StepGK lim w b vh vo ⟨.bad, [], 10⟩ r w' := by
  obtain ⟨a5, cp5, rfl, _, _⟩ := h.wo.slice_form
  have HH := Lib.hid (ghad_at h.blk)
  have HS := Lib.hid (gsize_any e he ht w)
  have HP := Lib.hid (fun W (hb : Sgb W b 0 lim vh z (.slice a5 op.length cp5)) => gpasses_at hb e he)
  have HQ := Lib.hid (fun W (hb : Sgb W b 0 lim vh z (.slice a5 op.length cp5)) => gfrees_at hb e he)
  rw [show decide (op.length = 0 ∧ ¬ opnE e) = false by simpa using h1] at HP
  rw [show decide (e.k = 7 ∧ op.length = 1) = false by simpa using h2] at HQ
  have hq0 : ((sizG e : Int) == 0) = false := by
    have := sizG_pos e
    rw [beq_eq_false_iff_ne]; omega
  have HR := Lib.hid h
  have hwz : IntKind.i64.wrap ((lim : Int) - (z : Int)) = (lim : Int) - (z : Int) := by simp only [IntKind.wrap_i64]; omega
  have hwz2 : wrap64 ((lim : Int) - (z : Int)) = (lim : Int) - (z : Int) := by unfold wrap64; omega
  have hgt : ((sizG e : Int) > (lim : Int) - (z : Int)) = True := by simp; omega
  have hgt2 : ((lim : Int) - (z : Int) < (sizG e : Int)) = True := by simp; omega
  have HK := Lib.hid (fun (W : World) (hb : Sgb W b 10 0 (.slice none 0 0) 0 (.slice none 0 0)) (hs : Step (rowsG b vh (.slice a5 op.length cp5)) (rowsG b vh (.slice a5 op.length cp5)) w W) => (show StepGK lim w b vh (.slice a5 op.length cp5) ⟨.bad, [], 10⟩ (.returned (.tuple #[.slice none 0 0, .int .i64 10])) W from
    ⟨_, rfl, .slice none 0 0, .slice none 0 0, Win.nil_ _ _ _, fun k hk => by simp [Value.owner] at hk, ⟨hb, rfl, rfl⟩, hs.widen fun k hk => by simp [rowsG, Value.owner] at hk; subst hk; exact .inl (by simp [rowsG])⟩))
  generalize sizG e = Q at *
  generalize valE e = V at *
  clear h he h1 h2 h3 ht
  go_enter Try.func13, Try.ntmps13
  go_wp2_with fail
  refine HH.out.mono ?_
  rintro r w1 ⟨rfl, rfl⟩
  go_wp2_with fail
  refine HS.out.mono ?_
  rintro r w2 ⟨rfl, hb2⟩
  have HB2 := Lib.hid hb2
  clear hb2 HS HH
  go_wp2_with fail
  refine (HP.out w2 (HR.out.go HB2.out).blk).mono ?_
  rintro r w3 ⟨rfl, hb3⟩
  have HB3 := Lib.hid (up_trans HB2.out hb3)
  clear hb3 HP HB2
  go_wp2_with fail
  refine (HQ.out w3 (HR.out.go HB3.out).blk).mono ?_
  rintro r w4 ⟨rfl, hb4⟩
  have HB4 := Lib.hid (up_trans HB3.out hb4)
  have c2 := (HR.out.go HB4.out).blk.cell 2
  have c4 := (HR.out.go HB4.out).blk.cell 4
  clear hb4 HQ HB3
  go_wp2_with fail
  go_quiet (fail)
  have hdr : Below w.heap.size w (w4.drewN nq) := below_drN HB4.out nq
  have HB5 := Lib.hid hdr
  have hbk := (HR.out.go hdr).blk
  generalize w4.drewN nq = w5 at *
  clear HR c2 c4 hdr HB4
  have c0 := hbk.cell 0
  have c1 := hbk.cell 1
  have c2 := hbk.cell 2
  have c3 := hbk.cell 3
  have c4 := hbk.cell 4
  have c5 := hbk.cell 5
  have f0 := hbk.froz 0
  have f1 := hbk.froz 1
  have f2 := hbk.froz 2
  have f3 := hbk.froz 3
  have f4 := hbk.froz 4
  have f5 := hbk.froz 5
  have HBK := Lib.hid hbk
  clear hbk
  go_wp2
  go_ret2
  refine HK.out _ ((((((HBK.out.set 0 _).set 1 _).set 2 _).set 3 _).set 4 _).set 5 _) ?_
  refine (Step.of_below _ HB5.out).trans ?_
  exact (((((step_setCell _ _ _ _ (by simp [rowsG])).trans (step_setCell _ _ _ _ (by simp [rowsG]))).trans (step_setCell _ _ _ _ (by simp [rowsG]))).trans (step_setCell _ _ _ _ (by simp [rowsG]))).trans (step_setCell _ _ _ _ (by simp [rowsG]))).trans (step_setCell _ _ _ _ (by simp [rowsG]))
/-- STEP: any part. -/
theorem gstep_any {w : World} {b lim : Nat} {vh vo : Value} {s : Gs} (h : StG w b lim vh vo s) (hwf : WfG lim s) (hlim : lim ≤ 2000) (e : Ev) (he : mayE e) (ht : sizG e ≤ 1000) :
    Calls Try.prog 13 #[.pointer (some ⟨b, 0, none⟩), valE e] w fun r w' => StepGK lim w b vh vo (stepG lim s e) r w' := by
  cases s with
  | bad => exact gstep_bad h _
  | live z H op =>
    have hR : SgR w b lim z vh vo H op := ⟨h.1, h.2.1, h.2.2⟩
    obtain ⟨w1, w2, w3, w4⟩ := hwf
    simp only [stepG]
    split
    · rename_i hp
      exact gstep_pass hR e he ht hp
    · rename_i hp
      split
      · rename_i h7
        obtain ⟨h7, h1⟩ := h7
        match op, h1 with
        | [x], _ => exact gstep_free hR ⟨(w4 x (by simp)).1, by have := (w4 x (by simp)).2; omega⟩ (by omega) e he ht h7
      · rename_i h7
        split
        · rename_i h3
          exact gstep_over hR ⟨hlim, by omega⟩ e he ht hp h7 h3
        · rename_i h3
          exact gstep_hold hR ⟨hlim, by omega⟩ (by omega) (fun x hx => ⟨(w4 x hx).1, by have := (w4 x hx).2; omega⟩) (by omega) e he ht hp h7 h3
end Go.Proofs.Ytkfidnfnehnhoaa
