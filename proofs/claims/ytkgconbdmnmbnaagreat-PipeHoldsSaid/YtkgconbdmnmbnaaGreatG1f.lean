/-
  Parts: PoF, PoG, PoSz, PipWf, CinPo, CinPp, CinPq.
-/
import Derived.Test.YtkgconbdmnmbnaaGreatG0p
import Derived.Test.YtkgconbdmnmbnaaGreatHPoE
import Derived.Test.YtkgconbdmnmbnaaGreatG1e
import Derived.Test.YtkgconbdmnmbnaaGreatG0g
import Derived.Test.YtkgconbdmnmbnaaGreatG0d
set_option maxRecDepth 100000
set_option maxHeartbeats 16000000
open Go.Lib (hid)
namespace Go.Proofs.YtkgconbdmnmbnaaGreat
section
open Go.RowKit
open Go.Lib
theorem PoAt.whole {w : World} {b o : Nat} {F : List Nat} {s : List Bx} {d : Bool} (h : PoAt w b o F ⟨s, d⟩) (D : Bool) (hD : D = true → s = []) : PoAt (w.setCell ⟨b, o + 1, none⟩ (.bool D)) b o F ⟨s, D⟩ ∧ Jf b o F F w (w.setCell ⟨b, o + 1, none⟩ (.bool D)) := by
  obtain ⟨a, cp, hA, hW, hF⟩ := h.cells; obtain ⟨cs, t, fr, hc, ht⟩ := h.blk; have hap : b ∉ Value.owner (.slice a s.length cp) := hW.apart hc (fun e => ht e.symm); have hset := hA.set 1 (by simp) (.bool D); exact ⟨⟨⟨a, cp, by simpa using hset, hW.setCell_far hap _, hF⟩, ⟨_, t, fr, heap_setCell_at w ⟨b, o + 1, none⟩ _ _ _ _ rfl hc, ht⟩, hD, h.wf⟩, (Jf.refl b o F w).set (o + 1) _ (by omega)⟩
theorem PoAt.pair {w : World} {b o : Nat} {F : List Nat} {q : Kq} (h : PoAt w b o F q) : ∃ a cp, (w.cell? ⟨b, o, none⟩ = some (.slice a q.s.length cp) ∧ w.frozen? ⟨b, o, none⟩ = false) ∧ (∃ u, w.cell? ⟨b, o + 1, none⟩ = some u) ∧ w.frozen? ⟨b, o + 1, none⟩ = false := by
  obtain ⟨a, cp, hA, _, _⟩ := h.cells; obtain ⟨⟨c0, f0⟩, ⟨c1, f1⟩⟩ := oat_two hA; exact ⟨a, cp, ⟨c0, f0⟩, ⟨_, c1⟩, f1⟩
theorem rlen_emp (s : List Bx) : ((s.length : Int) == 0) = s.isEmpty := by
  cases s with
  | nil => rfl
  | cons x r =>
    rw [Bool.eq_iff_iff]; simp; omega
theorem PoAt.count {w : World} {b o : Nat} {F : List Nat} {s : List Bx} (h : PoAt w b o F ⟨s, false⟩) (hs : s.length ≤ 1000) (hf : fulT s = false) : ∃ a cp, (∀ w', Below w.heap.size w w' → w'.cell? ⟨b, o, none⟩ = some (.slice a s.length cp)) ∧
    (∀ w', Below w.heap.size w w' → Calls Tryz.prog 275 #[.slice a s.length cp] w' fun r w2 => r = .returned (.tuple #[]) ∧ PoAt w2 b o F ⟨incB s, false⟩ ∧ Jf b o F F w w2) := by
  obtain ⟨a, cp, hA, hW, hF⟩ := h.cells; obtain ⟨cs, t, fr, hc, ht⟩ := h.blk; have hlt := h.lt; refine ⟨a, cp, fun w' k => (hA.keep (k.block b hlt) 0 _ rfl).1, fun w' k => ?_⟩; have hWk : Win w' 285 2 (.slice a s.length cp) s.length (rcL s) := hW.keep fun i hi => k.block i (hW.lt i hi)
  refine (rcount_any hWk hs h.wf hf).mono ?_; rintro r w2 ⟨h1, h2, h3⟩; have hbF : b ∉ F := fun hk => (h.row b hk).2.1 rfl
  rw [hF] at h3; have hlt' : b < w'.heap.size := Nat.lt_of_lt_of_le hlt k.size; have hblk : w2.heap[b]? = w.heap[b]? := (h3.block b hlt' hbF).trans (k.block b hlt); have hl : (incB s).length = s.length := by cases s <;> rfl
  refine ⟨h1, ⟨⟨a, cp, ?_, ?_, ?_⟩, ⟨cs, t, fr, hblk.trans hc, ht⟩, fun e => (by cases e), h.wf.inc hf⟩, ?_⟩
  · simp only [hl]
    exact hA.keep hblk
  · simp only [hl]
    exact h2
  · simp only [hl]
    exact hF
  · have hj : Jf b o F F w' w2 := ⟨⟨h3.os, h3.tape, h3.output, h3.size, fun i hi hn => h3.block i hi (fun e => hn (List.mem_cons_of_mem _ e)), fun i hi => .inl hi⟩, fun c1 t1 fr1 h1 => ⟨c1, (h3.block b hlt' hbF).trans h1, rfl⟩, fun i _ => World.cell?_of_block (w := w') (h3.block b hlt' hbF)⟩
    exact (Jf.of k hlt).trans hj
theorem rwrite_end {w : World} {b o : Nat} {F : List Nat} {x : Bx} {r : List Bx} (h : PoAt w b o F ⟨x :: r, false⟩) (hs : r.length ≤ 999) (v : Value)
    (hC : ∀ W, (Instr.typeAssert v 20 166 true).run Tryz.prog W = .ok (.tuple #[.agg #[], .bool true]) W) :
    Calls Tryz.prog 269 #[.pointer (some ⟨b, o, none⟩), v] w fun q w' => q = .returned (.string ⟨#[]⟩) ∧ PoAt w' b o F ⟨r, r.isEmpty⟩ ∧ Jf b o F F w w' := by
  have HL : Hid (∀ X, Calls Tryz.prog 274 #[.pointer (some ⟨b, o, none⟩)] (w.alloc X) fun q w' => q = .returned (.tuple #[]) ∧ PoAt w' b o F ⟨r, false⟩ ∧ Jf b o F F w w') := hid (fun X => by
    refine (leaveR (h.alloc X) hs).mono ?_; rintro q w' ⟨h1, h2, h3⟩; exact ⟨h1, h2, (Jf.of (up_alloc (Below.refl _ _) X) h.lt).trans h3⟩)
  have he := rlen_emp r; have hE0 : r.isEmpty = true → r = [] := fun e => by simpa using e
  generalize r.isEmpty = E at *
  have HE0 := hid hE0; clear h hE0; go_enter Tryz.func269, Tryz.ntmps269; (go_wp2_with fail); refine (HL.out _).mono ?_; rintro q w1 ⟨rfl, hj, hf⟩; obtain ⟨a, cp, ⟨c0, f0⟩, ⟨u, c1⟩, f1⟩ := hj.pair; have hw := hj.whole E HE0.out; have HW := hid (And.intro hw.1 (hf.trans hw.2)); simp only at c0; generalize r.length = n' at *
  clear hj hf hw; go_wp2; go_ret; exact ⟨rfl, HW.out⟩
theorem rwrite_open {w : World} {b o : Nat} {F : List Nat} {s : List Bx} (h : PoAt w b o F ⟨s, false⟩) (hs : s.length ≤ 900) (hf : fulT s = false) (v : Value) (m : Bool) (c : Int) (hc : 0 ≤ c ∧ c ≤ 4294967295)
    (hC : ∀ W, (Instr.typeAssert v 20 166 true).run Tryz.prog W = .ok (.tuple #[.agg #[], .bool false]) W)
    (hB : ∀ W, (Instr.typeAssert v 20 163 true).run Tryz.prog W = .ok (.tuple #[.agg #[.bool m, .int .i64 c], .bool true]) W) :
    Calls Tryz.prog 269 #[.pointer (some ⟨b, o, none⟩), v] w fun r w' => r = .returned (.string ⟨(cntPk m c.toNat).toArray⟩) ∧ ∃ F', PoAt w' b o F' ⟨⟨m, c, 0⟩ :: incB s, false⟩ ∧ Jf b o F F' w w' := by
  obtain ⟨a, cp, hc0, hN⟩ := h.count (by omega) hf; have hb := h.lt; have HC0 := hid hc0; have HN := hid hN; have HB0 := hid hb; have hlen : (incB s).length ≤ 1000 := by
    have : (incB s).length = s.length := by cases s <;> rfl
    omega
  have hE : ∀ w2, PoAt w2 b o F ⟨incB s, false⟩ → Jf b o F F w w2 → Calls Tryz.prog 276 #[.pointer (some ⟨b, o, none⟩), .agg #[.bool m, .int .i64 c]] (w2.alloc (.cells #[.bool m, .int .i64 c] 163)).drew fun e w' => e = .returned (.tuple #[]) ∧ (w'.cell? ⟨w2.heap.size, 0, none⟩ = some (.bool m) ∧ w'.cell? ⟨w2.heap.size, 1, none⟩ = some (.int .i64 c)) ∧
      Hid (∀ w3, Below w'.heap.size w' w3 → ∃ F', PoAt w3 b o F' ⟨⟨m, c, 0⟩ :: incB s, false⟩ ∧ Jf b o F F' w w3) := by
    intro w2 q2 j2; have q3 := (q2.alloc (.cells #[.bool m, .int .i64 c] 163)).drewN 1; refine (enterR q3 hlen m c hc).mono ?_; rintro e w' ⟨h1, F', h2, h3⟩; have hblk : w'.heap[w2.heap.size]? = (w2.alloc (.cells #[.bool m, .int .i64 c] 163)).heap[w2.heap.size]? := by
      refine h3.step.block w2.heap.size (by show w2.heap.size < (w2.alloc _).heap.size; simp) ?_; intro hm; rcases List.mem_cons.1 hm with e | hm
      · have := q2.lt
        omega
      · have := (q2.row _ hm).1
        omega
    have hB := blk_new w2 #[.bool m, .int .i64 c] 163; refine ⟨h1, ⟨(World.cell?_of_block (w := (w2.alloc (.cells #[.bool m, .int .i64 c] 163))) hblk).trans (hB.cell 0), (World.cell?_of_block (w := (w2.alloc (.cells #[.bool m, .int .i64 c] 163))) hblk).trans (hB.cell 1)⟩, hid fun w3 k => ⟨F', h2.go k, ?_⟩⟩; have j3 : Jf b o F F w (w2.alloc (.cells #[.bool m, .int .i64 c] 163)).drew := (j2.up HB0.out (up_alloc (Below.refl _ _) _)).drewN 1; exact (j3.trans h3).up HB0.out k
  have HE := hid hE; have HG := hid (fun W => rbegin_of m c hc W); generalize (⟨(cntPk m c.toNat).toArray⟩ : ByteArray) = Z at *
  clear h hs hf hc hc0 hN hb hlen hE; go_enter Tryz.func269, Tryz.ntmps269; have B0 := hid (up_alloc (Below.refl w.heap.size w) (.cells #[] 166)); have d0 := HC0.out _ B0.out; (go_wp2_with fail); refine (HN.out _ B0.out).mono ?_; rintro r w2 ⟨rfl, q2, j2⟩; have H2 := hid (HE.out w2 q2 j2); have EB : Hid (Blk (w2.alloc (.cells #[.bool m, .int .i64 c] 163)) w2.heap.size #[.bool m, .int .i64 c] 163) := hid (blk_new w2 #[.bool m, .int .i64 c] 163); have x0 : (w2.alloc (.cells #[.bool m, .int .i64 c] 163)).cell? ⟨w2.heap.size, 0, none⟩ = some (.bool m) := EB.out.cell 0; have x1 : (w2.alloc (.cells #[.bool m, .int .i64 c] 163)).cell? ⟨w2.heap.size, 1, none⟩ = some (.int .i64 c) := EB.out.cell 1; clear q2 j2 EB; (go_wp2_with fail)
  go_region_with (go_at_call 276; refine (H2.out).mono ?_; rintro r w3 ⟨rfl, ⟨y0, y1⟩, HF⟩)
  all_goals
    clear x0 x1; (go_wp2_with fail); refine (HG.out _).mono ?_; rintro r w4 ⟨rfl, b4⟩; have HF2 := hid (HF.out _ b4); clear b4; go_wp2; go_ret; exact ⟨rfl, HF2.out⟩
end
section
open Go.RowKit
open Go.Lib
theorem rwrite_val {w : World} {b o : Nat} {F : List Nat} {s : List Bx} (h : PoAt w b o F ⟨s, false⟩) (hs : s.length ≤ 900) (hf : fulT s = false) (v : Value) (T : ByteArray)
    (hC : ∀ W, (Instr.typeAssert v 20 166 true).run Tryz.prog W = .ok (.tuple #[.agg #[], .bool false]) W)
    (hB : ∀ W, (Instr.typeAssert v 20 163 true).run Tryz.prog W = .ok (.tuple #[.agg #[.bool false, .int .i64 0], .bool false]) W)
    (hX : ∀ W, Calls Tryz.prog 278 #[v] W fun r w' => r = .returned (.string T) ∧ Below W.heap.size W w') :
    Calls Tryz.prog 269 #[.pointer (some ⟨b, o, none⟩), v] w fun r w' => r = .returned (.string T) ∧ PoAt w' b o F ⟨incB s, s.isEmpty⟩ ∧ Jf b o F F w w' := by
  obtain ⟨a, cp, hc0, hN⟩ := h.count (by omega) hf; have hb := h.lt; have HC0 := hid hc0; have HN := hid hN; have HB0 := hid hb; have he := rlen_emp s; have hl : (incB s).length = s.length := by cases s <;> rfl
  have hE0 : s.isEmpty = true → incB s = [] := fun e => by
    have : s = [] := by simpa using e
    rw [this]; rfl
  have HE0 := hid hE0; have HX := hid hX; generalize s.isEmpty = E at *
  have HL := hid hl; clear h hs hf hc0 hN hb hE0 hX hl; go_enter Tryz.func269, Tryz.ntmps269; have B0 := hid (up_alloc (Below.refl w.heap.size w) (.cells #[] 166)); have d0 := HC0.out _ B0.out; (go_wp2_with fail); refine (HN.out _ B0.out).mono ?_; rintro r w2 ⟨rfl, q2, j2⟩; have q3 := q2.alloc (.cells #[.bool false, .int .i64 0] 163); have j3 := j2.up HB0.out (up_alloc (Below.refl _ _) (.cells #[.bool false, .int .i64 0] 163)); obtain ⟨a2, cp2, ⟨c0, f0⟩, ⟨u, c1⟩, f1⟩ := q3.pair; simp only [HL.out] at c0; have hw := q3.whole E HE0.out; have HW : Hid (∀ w', Below ((w2.alloc (.cells #[.bool false, .int .i64 0] 163)).setCell ⟨b, o + 1, none⟩ (.bool E)).heap.size ((w2.alloc (.cells #[.bool false, .int .i64 0] 163)).setCell ⟨b, o + 1, none⟩ (.bool E)) w' → PoAt w' b o F ⟨incB s, E⟩ ∧ Jf b o F F w w') := hid (fun w' k => ⟨hw.1.go k, (j3.trans hw.2).up HB0.out k⟩); generalize s.length = n' at *
  clear hw q2 q3 j2 j3; (go_wp2_with fail); refine (HX.out _).mono ?_; rintro r w4 ⟨rfl, b4⟩; have H4 := hid (HW.out _ b4); clear b4; go_wp2; go_ret; exact ⟨rfl, H4.out⟩
theorem ro_err {w : World} {b o : Nat} {F : List Nat} {q : Kq} (h : PoAt w b o F q) (v : Value) (n : Nat) (hn : n = 14 ∨ n = 8 ∨ n = 7)
    (hR : Calls Tryz.prog 268 #[.pointer (some ⟨b, o, none⟩), v] w fun r w' => r = .returned (.int .i64 n) ∧ Below w.heap.size w w') :
    Calls Tryz.prog 267 #[.pointer (some ⟨b, o, none⟩), v] w fun r w' => r = .returned (.tuple #[.string ⟨#[]⟩, .int .i64 n]) ∧ PoAt w' b o F q ∧ Jf b o F F w w' := by
  have HR := hid hR; have HF : Hid (∀ w', Below w.heap.size w w' → PoAt w' b o F q ∧ Jf b o F F w w') := hid (fun w' k => ⟨h.go k, Jf.of k h.lt⟩); clear h hR; rcases hn with rfl | rfl | rfl
  all_goals
    go_enter Tryz.func267, Tryz.ntmps267; (go_wp2_with fail); refine HR.out.mono ?_; rintro r w1 ⟨rfl, b1⟩; have H1 := hid (HF.out _ b1); clear b1; go_wp2; go_ret2; exact ⟨rfl, H1.out⟩
theorem ro_ok {w : World} {b o : Nat} {F : List Nat} {q : Kq} (h : PoAt w b o F q) (v : Value) (T : ByteArray) (q' : Kq)
    (hR : Calls Tryz.prog 268 #[.pointer (some ⟨b, o, none⟩), v] w fun r w' => r = .returned (.int .i64 0) ∧ Below w.heap.size w w')
    (hW : ∀ W, Below w.heap.size w W → Calls Tryz.prog 269 #[.pointer (some ⟨b, o, none⟩), v] W fun r w' => r = .returned (.string T) ∧ ∃ F', PoAt w' b o F' q' ∧ Jf b o F F' W w') :
    Calls Tryz.prog 267 #[.pointer (some ⟨b, o, none⟩), v] w fun r w' => r = .returned (.tuple #[.string T, .int .i64 0]) ∧ ∃ F', PoAt w' b o F' q' ∧ Jf b o F F' w w' := by
  have HR := hid hR; have HW := hid hW; have hb := h.lt; clear h hR hW; have HB := hid hb; clear hb; go_enter Tryz.func267, Tryz.ntmps267; (go_wp2_with fail); refine HR.out.mono ?_; rintro r w1 ⟨rfl, b1⟩; have H1 := hid b1; clear b1; (go_wp2_with fail); refine (HW.out _ H1.out).mono ?_; rintro r w2 ⟨rfl, F', hj, hf⟩; have H2 : Hid (∃ F', PoAt w2 b o F' q' ∧ Jf b o F F' w w2) := hid ⟨F', hj, (Jf.of H1.out HB.out).trans hf⟩; clear hj hf; go_wp2; go_ret2; exact ⟨rfl, H2.out⟩
theorem writeP_beg {e : Ev} (h56 : e.k = 5 ∨ e.k = 6) : writeP e = cntPk (decide (e.k = 6)) e.c.toNat := by
  unfold writeP; rw [if_neg (by omega), if_neg (by omega), if_neg (by omega), if_neg (by omega), if_neg (by omega)]
theorem ro_step {w : World} {b o : Nat} {F : List Nat} {q : Kq} (h : PoAt w b o F q) (hs : q.s.length ≤ 900) (e : Ev) (hm : mayE e) (hok : EvOk e) (ht : e.t.size ≤ 100000) :
    Calls Tryz.prog 267 #[.pointer (some ⟨b, o, none⟩), valE e] w fun r w' => r = .returned (.tuple #[.string ⟨(stepR q e).1.1.toArray⟩, .int .i64 ((stepR q e).1.2 : Nat)]) ∧ ∃ F', PoAt w' b o F' (stepR q e).2 ∧ Jf b o F F' w w' := by
  have hR := refusesR h (by omega) e hm hok; have bad : ∀ n : Nat, (n = 14 ∨ n = 8 ∨ n = 7) → stepR q e = (([], n), q) → Calls Tryz.prog 267 #[.pointer (some ⟨b, o, none⟩), valE e] w fun r w' => r = .returned (.tuple #[.string ⟨(stepR q e).1.1.toArray⟩, .int .i64 ((stepR q e).1.2 : Nat)]) ∧ ∃ F', PoAt w' b o F' (stepR q e).2 ∧ Jf b o F F' w w' := by
    intro n hn hq; rw [hq] at hR ⊢; refine (ro_err h (valE e) n hn hR).mono ?_; rintro r w' ⟨h1, h2, h3⟩; exact ⟨h1, F, h2, h3⟩
  have hC := as_close e hm; have hB := as_begin e hm; obtain ⟨s, dn⟩ := q; simp only at hs; cases dn with
  | true => exact bad 14 (.inl rfl) (stepR_bad ⟨s, true⟩ e (.inr rfl))
  | false =>
    by_cases h7 : e.k = 7
    · cases s with
      | nil => exact bad 14 (.inl rfl) (stepR_none hm h7)
      | cons x r =>
        by_cases ho : shutB x
        · exact bad 14 (.inl rfl) (stepR_shut hm h7 ho)
        · rw [stepR_end hm h7 ho] at hR ⊢
          rw [decide_eq_true h7] at hC; refine ro_ok h (valE e) _ _ hR (fun W k => ?_); refine (rwrite_end (h.go k) (by simp only [List.length_cons] at hs; omega) (valE e) hC).mono ?_; rintro q w' ⟨h1, h2, h3⟩; exact ⟨h1, F, h2, h3⟩
    · rw [decide_eq_false h7] at hC
      by_cases hf : fulT s = true
      · exact bad 14 (.inl rfl) (stepR_full hm h7 hf)
      · have hf : fulT s = false := by simpa using hf
        by_cases hk : keyB s = true ∧ e.k ≠ 3
        · exact bad 8 (.inr (.inl rfl)) (stepR_key hm h7 hf hk.1 hk.2)
        · by_cases hr : rangeP e
          · exact bad 7 (.inr (.inr rfl)) (stepR_range hm h7 hf hk hr)
          by_cases h56 : e.k = 5 ∨ e.k = 6
          · have hkf : keyB s = false := by
              cases hq : keyB s with
              | false => rfl
              | true => exact absurd ⟨hq, by omega⟩ hk
            rw [decide_eq_true h56, if_pos h56] at hB; rw [stepR_open hm h56 hf hkf hr] at hR ⊢; refine ro_ok h (valE e) _ _ hR (fun W k => ?_); refine (rwrite_open (h.go k) hs hf (valE e) (decide (e.k = 6)) e.c (by
              unfold rangeP at hr; omega) hC hB).mono ?_
            rintro q w' ⟨h1, F', h2, h3⟩; exact ⟨by rw [h1, writeP_beg h56], F', h2, h3⟩
          · rw [decide_eq_false h56, if_neg h56, decide_eq_false (by omega : ¬ e.k = 6)] at hB
            have hk5 : e.k = 0 ∨ e.k = 1 ∨ e.k = 2 ∨ e.k = 3 ∨ e.k = 4 := by
              have := kind8 hm; omega
            rw [stepR_val hm h7 h56 hf hk hr] at hR ⊢; refine ro_ok h (valE e) _ _ hR (fun W k => ?_); refine (rwrite_val (h.go k) hs hf (valE e) _ hC hB (fun W' => rvalue_of e hk5 hok.2.1 hr ht W')).mono ?_; rintro q w' ⟨h1, h2, h3⟩; exact ⟨h1, F, h2, h3⟩
structure PoW (w0 w : World) (b : Nat) (F : List Nat) (q : Kq) : Prop where
  at_ : PoAt w b 0 F q
  lo : w0.heap.size ≤ b
  row : ∀ k ∈ F, w0.heap.size ≤ k
  bel : Below w0.heap.size w0 w
  typ : ∃ cs fr, w.heap[b]? = some (.cells cs 105 fr)
theorem PoW.next {w0 w w' : World} {b : Nat} {F F' : List Nat} {q q' : Kq} (h : PoW w0 w b F q) (hj : PoAt w' b 0 F' q') (k : Jf b 0 F F' w w') : PoW w0 w' b F' q' := by
  have h1 := k.step.low (B := w0.heap.size) (fun i hi => (List.mem_cons.1 hi).elim (fun e => e ▸ h.lo) (fun hi => h.row i hi)) h.bel.size; obtain ⟨cs, fr, hc⟩ := h.typ; obtain ⟨c', hc', _⟩ := k.shape _ _ _ hc; exact ⟨hj, h.lo, fun i hi => h1 i (List.mem_cons_of_mem _ hi), h.bel.trans (k.below h.lo h.row h.bel.size), c', fr, hc'⟩
theorem pow_step {w0 w : World} {b : Nat} {F : List Nat} {q : Kq} (h : PoW w0 w b F q) (hs : q.s.length ≤ 900) (e : Ev) (hm : mayE e) (hok : EvOk e) (ht : e.t.size ≤ 100000) :
    Calls Tryz.prog 267 #[.pointer (some ⟨b, 0, none⟩), valE e] w fun r w' => r = .returned (.tuple #[.string ⟨(stepR q e).1.1.toArray⟩, .int .i64 ((stepR q e).1.2 : Nat)]) ∧ ∃ F', PoW w0 w' b F' (stepR q e).2 ∧ Jf b 0 F F' w w' := by
  refine (ro_step h.at_ hs e hm hok ht).mono ?_; rintro r w' ⟨h1, F', h2, h3⟩; exact ⟨h1, F', h.next h2 h3, h3⟩
theorem pow_new (w0 w : World) (hb : Below w0.heap.size w0 w) : PoW w0 (w.alloc (.cells #[.slice none 0 0, .bool false] 105)) w.heap.size [] ⟨[], false⟩ :=
  ⟨⟨⟨none, 0, jat_block (heap_alloc_new w _), Win.nil_ _ _ _, rfl⟩, ⟨_, _, _, heap_alloc_new w _, by decide⟩, fun e => (by cases e), fun x hx => (by simp at hx)⟩, hb.size, fun k hk => (by simp at hk), up_alloc hb _, _, _, heap_alloc_new w _⟩
theorem PoW.off {w0 w w' : World} {b : Nat} {F F' : List Nat} {q : Kq} (h : PoW w0 w b F q) (k : Jf b 0 F F' w w') : Off [105, 285] w w' := by
  intro i c t fr hi ht; have hlt := (Array.getElem?_eq_some_iff.1 hi).1; rw [k.step.block i hlt ?_]
  · exact hi
  · intro hm
    rcases List.mem_cons.1 hm with e | hm
    · subst e
      obtain ⟨cs, fr', hc⟩ := h.typ; rw [hi] at hc; cases hc; exact ht (by simp)
    · obtain ⟨_, _, cur, hc⟩ := h.at_.row i hm
      rw [hi] at hc; cases hc; exact ht (by simp)
end
section
open Go.RowKit
open Go.Lib
theorem cntPk_len (m : Bool) (v : Nat) : (cntPk m v).length ≤ 5 := by
  unfold cntPk; have h1 := poBs_len 0 222 223 v; have h2 := poBs_len 0 220 221 v; split <;> split
  · simp
  · exact h1
  · simp
  · exact h2
theorem intPk_len (y : Bool) (v : Nat) : (intPk y v).length ≤ 9 := by
  unfold intPk
  repeat' split
  all_goals simp [bigB_length]
theorem writeP_nine (e : Ev) : (writeP e).length ≤ e.t.size + 9 := by
  have h1 : e.t.data.toList.length = e.t.size := Array.length_toList; have h2 := cntPk_len (decide (e.k = 6)) e.c.toNat; have h3 := intPk_len e.y e.m; have h4 := txPk_len (decide (e.k = 3)) e.t.data.toList.length; unfold writeP; split
  · simp
  split
  · simp
  split
  · simp
  split
  · omega
  split
  · rw [List.length_append]
    omega
  · omega
theorem rstep_nine (q : Kq) (e : Ev) : (stepR q e).1.1.length ≤ e.t.size + 9 := by
  have := writeP_nine e; unfold stepR; split
  · simp
  · split
    · split
      · simp
      · split <;> simp
    · split
      · simp
      · split
        · simp
        · split
          · simp
          · split <;> exact this
theorem rstep_small (q : Kq) (e : Ev) (ht : e.t.size ≤ 1000) : (stepR q e).1.1.length ≤ 2000 := Nat.le_trans (rstep_nine q e) (by omega)
theorem rstep_len (q : Kq) (e : Ev) : (stepR q e).2.s.length ≤ q.s.length + 1 := by
  have hi : (incB q.s).length = q.s.length := by cases q.s <;> rfl
  unfold stepR; split
  · simp
  · split
    · split
      · simp
      · rename_i b r hs
        split
        · simp
        · rw [hs]
          simp only [List.length_cons]; omega
    · split
      · simp
      · split
        · simp
        · split
          · simp
          · split
            · simp only [List.length_cons, hi]
              omega
            · simp only [hi]
              omega
end
section
open Go.Lib
def TolE (e : Ev) : Prop := mayE e ∧ EvOk e ∧ e.t.size ≤ 200
theorem tol_of {e : Ev} (h : ToldC e) : TolE e := ⟨h.1, h.2.2.1, h.2.2.2⟩
def OkG : Gs → Prop
  | .bad => True
  | .live _ H op => (∀ e ∈ H, TolE e) ∧ ∀ x ∈ op, -1 ≤ x.c ∧ x.c ≤ 9223372036854775807
def lenG : Gs → Nat
  | .bad => 0
  | .live _ H _ => H.length
def OkOG (lim : Nat) : Option Gs → Prop
  | none => True
  | some g => WfG lim g ∧ OkG g
def lenOG : Option Gs → Nat
  | none => 0
  | some g => lenG g
theorem tol_cnt {x : Cn} (h : -1 ≤ x.c ∧ x.c ≤ 9223372036854775807) (hn : x.n ≤ 9223372036854775807) : TolE (cntE x) := by
  obtain ⟨m, c, a, n⟩ := x; simp only at h hn; refine ⟨⟨?_, ?_, fun _ => ?_⟩, ⟨?_, ?_, ?_, Nat.zero_le _⟩, Nat.zero_le _⟩
  · cases m <;> simp [cntE]
  · cases m <;> simp [cntE]
  · simp only [cntE]
    split
    · exact h.1
    · split <;> omega
  · cases m <;> simp [cntE]
  · simp [cntE]
  · simp only [cntE]
    split
    · omega
    · split <;> omega
theorem okG_endH {H : List Ev} {op : List Cn} (h : ∀ e ∈ H, TolE e) (ho : ∀ x ∈ op, -1 ≤ x.c ∧ x.c ≤ 9223372036854775807) (hn : ∀ x ∈ op, x.n ≤ 9223372036854775807) : ∀ e ∈ endHg H op, TolE e := by
  cases op with
  | nil => exact h
  | cons x r =>
    intro e he; rcases List.mem_or_eq_of_mem_set he with he | rfl
    · exact h e he
    · exact tol_cnt (ho x (by simp)) (hn x (by simp))
theorem okG_inc {op : List Cn} (ho : ∀ x ∈ op, -1 ≤ x.c ∧ x.c ≤ 9223372036854775807) : ∀ x ∈ incN op, -1 ≤ x.c ∧ x.c ≤ 9223372036854775807 := by
  cases op with
  | nil => exact ho
  | cons y r =>
    intro x hx; rcases List.mem_cons.1 hx with rfl | hx
    · exact ho y (by simp)
    · exact ho x (by simp [hx])
theorem okG_step {lim : Nat} (hlim : lim ≤ 2000) {g : Gs} (hw : WfG lim g) (hg : OkG g) {e : Ev} (he : TolE e) : OkG (stepG lim g e).s ∧ (∀ x ∈ (stepG lim g e).l, TolE x) ∧ (stepG lim g e).l.length + lenG (stepG lim g e).s ≤ lenG g + 1 := by
  cases g with
  | bad => exact ⟨trivial, by simp [stepG], by simp [stepG, lenG]⟩
  | live z H op =>
    obtain ⟨w1, w2, w3, w4⟩ := hw; obtain ⟨g1, g2⟩ := hg; have hn : ∀ x ∈ op, x.n ≤ 9223372036854775807 := fun x hx => by have := (w4 x hx).2; omega
    simp only [stepG]; split
    · exact ⟨⟨g1, g2⟩, by simpa using he, by simp [lenG]; omega⟩
    · split
      · refine ⟨⟨by simp, by simp⟩, fun x hx => ?_, by simp [lenG, gs0, endH_length]⟩
        rcases List.mem_append.1 hx with hx | hx
        · exact okG_endH g1 g2 hn x hx
        · simp only [List.mem_singleton] at hx
          exact hx ▸ he
      · split
        · exact ⟨trivial, by simp, by simp [lenG]⟩
        · refine ⟨⟨fun x hx => ?_, fun x hx => ?_⟩, by simp, by simp [lenG, heldN_length]⟩
          · unfold heldN at hx
            rcases List.mem_append.1 hx with hx | hx
            · split at hx
              · exact okG_endH g1 g2 hn x hx
              · exact g1 x hx
            · simp only [List.mem_singleton] at hx
              exact hx ▸ he
          · unfold openN at hx
            split at hx
            · exact g2 x (List.mem_of_mem_tail hx)
            · split at hx
              · rename_i h56
                rcases List.mem_cons.1 hx with rfl | hx
                · exact ⟨he.1.2.2 h56, he.2.1.2.2.1.2⟩
                · exact okG_inc g2 x hx
              · exact okG_inc g2 x hx
theorem okOG_free {lim : Nat} (hlim : lim ≤ 2000) {g : Option Gs} (h : OkOG lim g) {e : Ev} (he : TolE e) : OkOG lim (freeP lim g e).1 ∧ (∀ x ∈ (freeP lim g e).2.1, TolE x) ∧ (freeP lim g e).2.1.length + lenOG (freeP lim g e).1 ≤ lenOG g + 1 := by
  cases g with
  | none => exact ⟨trivial, by simpa [freeP] using he, by simp [freeP, lenOG]⟩
  | some g =>
    have := okG_step hlim h.1 h.2 he; exact ⟨⟨wf_stepG h.1 e, this.1⟩, this.2.1, this.2.2⟩
def dpW : Ws → Nat
  | .js _ q => q.s.length
  | .cb q => dpQ q.s
  | .pk q => q.s.length
theorem dpW_step (q : Ws) (e : Ev) : dpW (stepWs q e).2 ≤ dpW q + 1 := by
  cases q with
  | js pr q => exact xstep_len pr q e
  | cb q => exact qstep_dp q e
  | pk q => exact rstep_len q e
def PrW : Ws → Prop
  | .js pr _ => ∀ y m, (pr y m).length ≤ 100
  | _ => True
theorem prW_step {q : Ws} (h : PrW q) (e : Ev) : PrW (stepWs q e).2 := by
  cases q with
  | js pr q => exact h
  | cb q => trivial
  | pk q => trivial
theorem prW_writes : ∀ (l : List Ev) {q : Ws}, PrW q → PrW (writesP q l).2
  | [], q, h => h
  | e :: l, q, h => by
    simp only [writesP]; split
    · exact prW_step h e
    · exact prW_writes l (prW_step h e)
theorem szW_step {q : Ws} (hq : PrW q) {e : Ev} (he : TolE e) : (stepWs q e).1.1.length ≤ 100001 := by
  have h1 : e.t.size ≤ 1000 := Nat.le_trans he.2.2 (by decide); cases q with
  | js pr q => exact xstep_size hq q e he.1 he.2.1.2.1 h1
  | cb q => exact Nat.le_trans (qstep_size q e h1) (by decide)
  | pk q => exact Nat.le_trans (rstep_small q e h1) (by decide)
theorem dpW_writes : ∀ (l : List Ev) (q : Ws), dpW (writesP q l).2 ≤ dpW q + l.length
  | [], q => Nat.le_refl _
  | e :: l, q => by
    have h1 := dpW_step q e; have h2 := dpW_writes l (stepWs q e).2; simp only [writesP, List.length_cons]; split
    · simp only; omega
    · simp only; omega
theorem szW_writes : ∀ (l : List Ev) (q : Ws), PrW q → (∀ e ∈ l, TolE e) → (writesP q l).1.1.length ≤ 100001 * l.length
  | [], q, _, _ => by simp [writesP]
  | e :: l, q, hq, h => by
    have h1 := szW_step hq (h e (by simp)); have h2 := szW_writes l (stepWs q e).2 (prW_step hq e) (fun x hx => h x (by simp [hx])); simp only [writesP, List.length_cons]; split
    · simp
    · simp only [List.length_append]; omega
theorem dpW_pass {lim : Nat} (hlim : lim ≤ 2000) {g : Option Gs} (h : OkOG lim g) (q : Ws) {e : Ev} (he : TolE e) : OkOG lim (passP lim g q e).2.1 ∧ lenOG (passP lim g q e).2.1 + dpW (passP lim g q e).2.2 ≤ lenOG g + dpW q + 1 ∧ (PrW q → (passP lim g q e).1.1.length ≤ 100001 * (lenOG g + 1) ∧ PrW (passP lim g q e).2.2) := by
  obtain ⟨h1, h2, h3⟩ := okOG_free hlim h he; have h4 := dpW_writes (freeP lim g e).2.1 q; have h5 := fun hq => szW_writes (freeP lim g e).2.1 q hq h2
  unfold passP; split
  · refine ⟨h1, ?_, fun hq => ⟨by simp, hq⟩⟩
    simp only; omega
  · refine ⟨h1, ?_, fun hq => ⟨?_, prW_writes _ hq⟩⟩
    · simp only
      omega
    · have h6 := h5 hq
      simp only; have : 100001 * (freeP lim g e).2.1.length ≤ 100001 * (lenOG g + 1) := Nat.mul_le_mul_left _ (by omega); omega
theorem dpW_turn {lim : Nat} (hlim : lim ≤ 2000) : ∀ (L : List Ev) (g : Option Gs) (q : Ws) (told : Nat), OkOG lim g → (∀ e ∈ L, TolE e) → OkOG lim (turnP lim g q L told).2.1 ∧ lenOG (turnP lim g q L told).2.1 + dpW (turnP lim g q L told).2.2 ≤ lenOG g + dpW q + L.length
  | [], g, q, told, h, _ => ⟨h, by simp [turnP]⟩
  | e :: L, g, q, told, h, hL => by
    obtain ⟨h1, h2, _⟩ := dpW_pass hlim h q (hL e (by simp)); obtain ⟨h3, h4⟩ := dpW_turn hlim L (passP lim g q e).2.1 (passP lim g q e).2.2 told h1 (fun x hx => hL x (by simp [hx])); simp only [turnP, List.length_cons]; split
    · exact ⟨h1, by omega⟩
    · exact ⟨h3, by simp only; omega⟩
def WfPp (D lim M : Nat) : Pp → Prop
  | .over _ => True
  | .live r g q => WfRs D M r ∧ OkOG lim g ∧ depRs r + lenOG g + dpW q ≤ 2 * M
theorem wfPp_step {D lim M : Nat} (hD : D ≤ 16) (hlim : lim ≤ 2000) {s : Pp} (h : WfPp D lim M s) (b : UInt8) : WfPp D lim (M + 1) (stepPp D lim s b).1 := by
  cases s with
  | over e => trivial
  | live r g q =>
    obtain ⟨h1, h2, h3⟩ := h; obtain ⟨r1, r2, r3⟩ := told_rs hD h1 b; obtain ⟨t1, t2⟩ := dpW_turn hlim (stepRs D r b).2 g q (errRs (stepRs D r b).1) h2 (fun e he => tol_of (r2 e he)); simp only [stepPp]; split
    · trivial
    · refine ⟨r1, t1, ?_⟩
      omega
theorem wfPp_0 (D lim : Nat) (pr : Bool → Nat → List UInt8) (f t : Int) : WfPp D lim 0 (pp0 pr f t) := by
  unfold pp0; refine ⟨?_, ?_, ?_⟩
  · unfold rs0
    split
    · exact ⟨trivial, fun h => (by cases h), by simp, trivial⟩
    · split
      · exact ⟨wfK_ci0 _ _, wf_ci0 D⟩
      · exact wfP_0 D
  · split
    · exact ⟨wf_gs0 _, by simp [OkG, gs0]⟩
    · trivial
  · have h1 : depRs (rs0 f) = 0 := by
      unfold rs0
      repeat' split
      all_goals rfl
    have h2 : lenOG (if t = 3 then some gs0 else none) = 0 := by split <;> rfl
    have h3 : dpW (ws0 pr t) = 0 := by
      unfold ws0
      repeat' split
      all_goals rfl
    omega
end
section
open Go.RowKit
open Go.Lib
def TakeR (w w' : World) (b o D : Nat) (vt vs : Value) (q : Ci × List Ev) (r : Ending) : Prop := ∃ x, r = .returned (.tuple #[x, .int .i64 (errCi q.1 : Nat)]) ∧ GoR w w w' b o D vt vs q x
theorem low_self {w : World} {b : Nat} {vs : Value} (hb : b < w.heap.size) (hv : ∀ k ∈ Value.owner vs, k < w.heap.size) : Low w w b vs := ⟨Nat.le_refl _, hb, hv⟩
theorem head0_at {w : World} {b o D : Nat} {h : Hd} {vt : Value} {vs : Value} {s : List Bx} (c : CP w b o D 0 h 0 false 0 vt [] st0 vs s.length (inL s)) (hn : h = .new ∨ ∃ m n v, h = .mid m n v) (hk : OkS s) (hm : ∀ x ∈ s, x.have_ + 1 ≤ 2000000000) (hdD : s.length ≤ D) (hD : D ≤ 16) (y : UInt8) :
    Calls Tryz.prog 146 #[.pointer (some ⟨b, o, none⟩), .int .u8 (y.toNat : Int)] w fun r w' => TakeR w w' b o D vt vs (hed0 D s h y.toNat) r := by
  have hy := y.toNat_lt; have hwf := wf_stepH h y.toNat hy c.hd.1; have hlow : Low w w b vs := low_self c.lt c.op.win.lt; unfold TakeR hed0; cases hh : stepH h y.toNat with
  | bad e =>
    rw [hh] at hwf; have he : e ≠ 0 := by rcases hwf with rfl | rfl <;> decide
    exact bh_bad c y hk.deep hh he
  | new => exact absurd hh (stepH_new hn)
  | mid m n v =>
    simp only; by_cases hr : refE D 0 0 s (.mid m n v) (y.toNat % 32) = 0
    · rw [hr, sel_0]
      refine (bh_mid c y hk.deep hh hr).mono ?_; rintro r w' ⟨rfl, I⟩; exact ⟨_, rfl, Vls.nil_ _ _, ⟨vt, vs, I.cp, fun k hk => .inl hk⟩, I.sub⟩
    · have hs : ∀ X, sel (refE D 0 0 s (.mid m n v) (y.toNat % 32)) X = (.bad (refE D 0 0 s (.mid m n v) (y.toNat % 32)), []) := fun X => if_pos hr
      rw [hs]; exact bh_ref_mid c y hk.deep hh rfl hr
  | fin m v q =>
    simp only; by_cases hr : refE D 0 0 s (.fin m v q) (y.toNat % 32) = 0
    · rw [hr, sel_0]
      rw [hh] at hwf; have hq : q = true → v = 0 := by
        intro hq; subst hq; rcases hn with rfl | ⟨a, n, v', rfl⟩
        · simp only [stepH] at hh
          repeat' split at hh
          all_goals first | (cases hh; done) | (cases hh; rfl)
        · simp only [stepH] at hh
          split at hh <;> cases hh
      have h0 : itemE D s (.fin m v q) (y.toNat % 32) = 0 ∨ (m = 7 ∧ q = true ∧ mayB s = true) := by
        unfold refE at hr; rw [if_neg (by decide)] at hr; by_cases hbk : brkH (.fin m v q) = true
        · rw [if_pos hbk] at hr
          rw [brk_fin, Bool.and_eq_true, decide_eq_true_eq] at hbk; refine .inr ⟨hbk.1, hbk.2, ?_⟩; by_cases hmb : mayB s = true
          · exact hmb
          · rw [if_neg hmb] at hr; cases hr
        · rw [if_neg hbk] at hr
          exact .inl hr
      have hitem : itemE D s (.fin m v q) (y.toNat % 32) = 0 → m ≠ 6 ∧ ((m = 4 ∨ m = 5) → s.length ≠ D) := by
        intro h; unfold itemE at h; by_cases a1 : opnH (.fin m v q) = true ∧ ¬ (2 ≤ majH (.fin m v q) ∧ majH (.fin m v q) ≤ 5)
        · rw [if_pos a1] at h; cases h
        rw [if_neg a1] at h; by_cases a2 : keyB s = true ∧ majH (.fin m v q) ≠ 3
        · rw [if_pos a2] at h; cases h
        rw [if_neg a2] at h; by_cases a3 : majH (.fin m v q) = 6
        · rw [if_pos a3] at h; cases h
        rw [if_neg a3] at h; have h6 : m ≠ 6 := a3; by_cases a4 : majH (.fin m v q) = 7
        · have h7 : m = 7 := a4
          exact ⟨h6, fun h45 => by omega⟩
        rw [if_neg a4] at h; by_cases a5 : (majH (.fin m v q) = 4 ∨ majH (.fin m v q) = 5) ∧ s.length = D
        · rw [if_pos a5] at h; cases h
        exact ⟨h6, fun h45 h10 => a5 ⟨h45, h10⟩⟩
      refine bh_fin0 (w0 := w) c y hk.deep rfl hh hr (R := begC s m v q) (fun w2 I => ?_); refine begins_at I.cp (hlow.of I.sub.size rfl) c.wt.lt hk hm hwf hq ?_ ?_ ?_
      · rcases h0 with h0 | ⟨h7, _⟩
        · exact (hitem h0).1
        · omega
      · intro h45
        rcases h0 with h0 | ⟨h7, _⟩
        · have := (hitem h0).2 h45
          omega
        · omega
      · intro h7 hqt hnil
        rcases h0 with h0 | ⟨_, _, hmb⟩
        · unfold itemE at h0
          rw [if_pos] at h0
          · cases h0
          · subst h7
            exact ⟨hqt, by simp [majH]⟩
        · rw [hnil] at hmb
          cases hmb
    · have hs : ∀ X, sel (refE D 0 0 s (.fin m v q) (y.toNat % 32)) X = (.bad (refE D 0 0 s (.fin m v q) (y.toNat % 32)), []) := fun X => if_pos hr
      rw [hs]; exact bh_ref_fin c y hk.deep hh rfl hr
theorem head1_at {w : World} {b o D : Nat} {h : Hd} {m : Bool} {vt : Value} {t : List UInt8} {vs : Value} {s : List Bx} (c : CP w b o D 1 h (mjT m) true 0 vt t st0 vs s.length (inL s)) (hn : h = .new ∨ ∃ m n v, h = .mid m n v) (ht : t.length ≤ 200) (hk : OkS s) (hm : ∀ x ∈ s, x.have_ + 1 ≤ 2000000000) (y : UInt8) :
    Calls Tryz.prog 146 #[.pointer (some ⟨b, o, none⟩), .int .u8 (y.toNat : Int)] w fun r w' => TakeR w w' b o D vt vs (hed1 s m t h y.toNat) r := by
  have hy := y.toNat_lt; have hwf := wf_stepH h y.toNat hy c.hd.1; have hlow : Low w w b vs := low_self c.lt c.op.win.lt; have hre : ∀ g l, refE D 1 (mjT m) s g l = chE (mjT m) g := fun g l => if_pos rfl
  unfold TakeR hed1; cases hh : stepH h y.toNat with
  | bad e =>
    rw [hh] at hwf; have he : e ≠ 0 := by rcases hwf with rfl | rfl <;> decide
    exact bh_bad c y hk.deep hh he
  | new => exact absurd hh (stepH_new hn)
  | mid a n v =>
    simp only; by_cases hr : chE (mjT m) (.mid a n v) = 0
    · rw [hr, sel_0]
      refine (bh_mid c y hk.deep hh ((hre _ _).trans hr)).mono ?_; rintro r w' ⟨rfl, I⟩; exact ⟨_, rfl, Vls.nil_ _ _, ⟨vt, vs, I.cp, fun k hk => .inl hk⟩, I.sub⟩
    · have hs : ∀ X, sel (chE (mjT m) (.mid a n v)) X = (.bad (chE (mjT m) (.mid a n v)), []) := fun X => if_pos hr
      rw [hs]; exact bh_ref_mid c y hk.deep hh (hre _ _) hr
  | fin a v q =>
    simp only; by_cases hr : chE (mjT m) (.fin a v q) = 0
    · rw [hr, sel_0]
      rw [hh] at hwf; refine bh_fin1 (w0 := w) c y hk.deep rfl hh ((hre _ _).trans hr) (R := chunkE s m t (.fin a v q)) (fun w2 I => ?_); exact chunk_at I.cp ht (hlow.of I.sub.size rfl) hk hm hwf
    · have hs : ∀ X, sel (chE (mjT m) (.fin a v q)) X = (.bad (chE (mjT m) (.fin a v q)), []) := fun X => if_pos hr
      rw [hs]; exact bh_ref_fin c y hk.deep hh (hre _ _) hr
theorem ctake_end {w : World} {b o D : Nat} {h : Hd} {mj : Nat} {ch : Bool} {lk : Nat} {vt : Value} {t : List UInt8} {u : Option (Nat × Nat × Nat)} {vs : Value} {n : Nat} {xs : List Value} (c : CP w b o D 3 h mj ch lk vt t u vs n xs) (y : UInt8) :
    Calls Tryz.prog 144 #[.pointer (some ⟨b, o, none⟩), .int .u8 (y.toNat : Int)] w fun r w' => TakeR w w' b o D vt vs (.bad 2, []) r := by
  have c2 := c.cells.1.2.2.1; have HG : Hid (GoR w w w b o D vt vs (.bad 2, []) (.slice none 0 0)) := hid ⟨Vls.nil_ _ _, ⟨vt, vs, ⟨by decide, c.room, c.cells.1.2.1.1⟩, fun k hk => .inl hk⟩, Subg.refl _ _ _ _ _⟩; clear c; go_enter Tryz.func144, Tryz.ntmps144; go_wp2; go_ret2; exact ⟨_, rfl, HG.out⟩
theorem ctake_text {w : World} {b o D : Nat} {vt vs : Value} {q : Ci × List Ev} (hc : w.cell? ⟨b, o + 2, none⟩ = some (.int .i64 (2 : Nat))) {y : UInt8}
    (H : Calls Tryz.prog 145 #[.pointer (some ⟨b, o, none⟩), .int .u8 (y.toNat : Int)] w fun r w' => TakeR w w' b o D vt vs q r) :
    Calls Tryz.prog 144 #[.pointer (some ⟨b, o, none⟩), .int .u8 (y.toNat : Int)] w fun r w' => TakeR w w' b o D vt vs q r := by
  have HH := hid H; clear H; go_enter Tryz.func144, Tryz.ntmps144; (go_wp2_with fail); refine HH.out.mono ?_; rintro r w' ⟨x, rfl, hq⟩; have HQ := hid hq; clear hq; go_wp2; go_ret2; exact ⟨x, rfl, HQ.out⟩
theorem ctake_head {w : World} {b o D pl : Nat} {vt vs : Value} {q : Ci × List Ev} (hp : pl = 0 ∨ pl = 1) (hc : w.cell? ⟨b, o + 2, none⟩ = some (.int .i64 (pl : Nat))) {y : UInt8}
    (H : Calls Tryz.prog 146 #[.pointer (some ⟨b, o, none⟩), .int .u8 (y.toNat : Int)] w fun r w' => TakeR w w' b o D vt vs q r) :
    Calls Tryz.prog 144 #[.pointer (some ⟨b, o, none⟩), .int .u8 (y.toNat : Int)] w fun r w' => TakeR w w' b o D vt vs q r := by
  have HH := hid H; clear H; rcases hp with rfl | rfl
  all_goals
    go_enter Tryz.func144, Tryz.ntmps144; (go_wp2_with fail); refine HH.out.mono ?_; rintro r w' ⟨x, rfl, hq⟩; have HQ := hid hq; clear hq; go_wp2; go_ret2; exact ⟨x, rfl, HQ.out⟩
theorem ctake_at {w : World} {b o D M : Nat} {s : Ci} {vt vs : Value} (hD : D ≤ 16) (hs : StC w b o D s vt vs) (hw : WfK D M s) (hM : M + 1 ≤ 2000000000) (hb : ∀ e, s ≠ .bad e) (y : UInt8) :
    Calls Tryz.prog 144 #[.pointer (some ⟨b, o, none⟩), .int .u8 (y.toNat : Int)] w fun r w' => TakeR w w' b o D vt vs (stepCi D s y) r := by
  cases s with
  | bad e => exact absurd rfl (hb e)
  | item s dn =>
    obtain ⟨hp, hd, _⟩ := hw; cases dn with
    | true =>
      have : stepCi D (.item s true) y = (.bad 2, []) := by
        simp only [stepCi, firstC]; simp
      rw [this]; exact ctake_end hs y
    | false =>
      have c : CP w b o D 0 .new 0 false 0 vt [] st0 vs s.length (inL s) := hs; rw [show stepCi D (.item s false) y = hed0 D s .new y.toNat from first_eq D s hd y.toNat y.toNat_lt]; exact ctake_head (.inl rfl) c.cells.1.2.2.1 (head0_at c (.inl rfl) (hp.ok hM).1 (hp.ok hM).2 hd hD y)
  | head s h =>
    obtain ⟨⟨hp, hd⟩, h1, h2, h3, m, n, v, rfl⟩ := hw; have c : CP w b o D 0 (.mid m n v) 0 false 0 vt [] st0 vs s.length (inL s) := hs; rw [show stepCi D (.head s (.mid m n v)) y = hed0 D s (.mid m n v) y.toNat from head_eq D s h3 h1 h2 y.toNat]; exact ctake_head (.inl rfl) c.cells.1.2.2.1 (head0_at c (.inr ⟨_, _, _, rfl⟩) (hp.ok hM).1 (hp.ok hM).2 hd hD y)
  | text s m n t u =>
    obtain ⟨⟨hp, hd⟩, hn, ht, hu⟩ := hw; obtain ⟨n', rfl⟩ : ∃ n', n = n' + 1 := ⟨n - 1, by omega⟩
    have c : CP w b o D 2 .new (mjT m) false (n' + 1) vt t u vs s.length (inL s) := hs; rw [text_eq]; exact ctake_text c.cells.1.2.2.1 (byteOfText_at c hu ht (low_self c.lt c.op.win.lt) (hp.ok hM).1 (hp.ok hM).2 y)
  | open_ s m t =>
    obtain ⟨⟨hp, hd⟩, ht⟩ := hw; have c : CP w b o D 1 .new (mjT m) true 0 vt t st0 vs s.length (inL s) := hs; rw [open_eq]; exact ctake_head (.inr rfl) c.cells.1.2.2.1 (head1_at c (.inl rfl) ht (hp.ok hM).1 (hp.ok hM).2 y)
  | chead s m t h =>
    obtain ⟨⟨hp, hd⟩, ht, n, v, rfl⟩ := hw; have c : CP w b o D 1 (.mid (mjT m) n v) (mjT m) true 0 vt t st0 vs s.length (inL s) := hs; rw [chead_eq]; exact ctake_head (.inr rfl) c.cells.1.2.2.1 (head1_at c (.inr ⟨_, _, _, rfl⟩) ht (hp.ok hM).1 (hp.ok hM).2 y)
  | ctext s m t n u =>
    obtain ⟨⟨hp, hd⟩, hn, ht, hu⟩ := hw; obtain ⟨n', rfl⟩ : ∃ n', n = n' + 1 := ⟨n - 1, by omega⟩
    have c : CP w b o D 2 .new (mjT m) true (n' + 1) vt t u vs s.length (inL s) := hs; rw [ctext_eq]; exact ctake_text c.cells.1.2.2.1 (byteOfText_at c hu ht (low_self c.lt c.op.win.lt) (hp.ok hM).1 (hp.ok hM).2 y)
end
section
open Go.RowKit
open Go.Lib
def paC (e D : Nat) : List Value := [.int .i64 (e : Int), .int .i64 (D : Int), .int .i64 0, .int .i64 0, .int .i64 0, .int .i64 0, .bool false, .int .i64 0, .int .u64 0, .int .i64 0, .bool false, .int .i64 0, .slice none 0 0, .int .i64 0, .int .u8 0, .int .u8 0, .bool false, .slice none 0 0]
theorem paC_one (e D : Nat) : (paC e D).toArray.all (·.oneCell') = true := by simp [paC, Value.oneCell']
def StP (w : World) (b o D : Nat) (s : Ci) (vt vs : Value) : Prop :=
  match s with
  | .bad e => e ≠ 0 ∧ At w b o (paC e D) ∧ vt = .slice none 0 0 ∧ vs = .slice none 0 0
  | .item s dn => StC w b o D (.item s dn) vt vs
  | .head s h => StC w b o D (.head s h) vt vs
  | .text s m n t u => StC w b o D (.text s m n t u) vt vs
  | .open_ s m t => StC w b o D (.open_ s m t) vt vs
  | .chead s m t h => StC w b o D (.chead s m t h) vt vs
  | .ctext s m t n u => StC w b o D (.ctext s m t n u) vt vs
theorem StP.of {w : World} {b o D : Nat} {s : Ci} {vt vs : Value} (h : StC w b o D s vt vs) (hb : ∀ e, s ≠ .bad e) : StP w b o D s vt vs := by
  cases s with
  | bad e => exact absurd rfl (hb e)
  | _ => exact h
theorem StP.st {w : World} {b o D : Nat} {s : Ci} {vt vs : Value} (h : StP w b o D s vt vs) (hb : ∀ e, s ≠ .bad e) : StC w b o D s vt vs := by
  cases s with
  | bad e => exact absurd rfl (hb e)
  | _ => exact h
theorem StC.cp {w : World} {b o D : Nat} {s : Ci} {vt vs : Value} (h : StC w b o D s vt vs) (hb : ∀ e, s ≠ .bad e) (hdn : ∀ s', s = .item s' true → s' = []) : ∃ pl hh mj ch lk t u, CP w b o D pl hh mj ch lk vt t u vs (stkK s).length (inL (stkK s)) ∧ heldCi s = t.length + (stkK s).length ∧ (pl = 3 ↔ doneCi s = true) := by
  cases s with
  | bad e => exact absurd rfl (hb e)
  | item s dn =>
    cases dn with
    | false => exact ⟨_, _, _, _, _, _, _, h, by simp [heldCi, stkK], by simp [doneCi]⟩
    | true =>
      obtain rfl := hdn s rfl; exact ⟨_, _, _, _, _, _, _, h, by simp [heldCi, stkK], by simp [doneCi]⟩
  | head s g => exact ⟨_, _, _, _, _, _, _, h, by simp [heldCi, stkK], by simp [doneCi]⟩
  | text s m n t u => exact ⟨_, _, _, _, _, _, _, h, rfl, by simp [doneCi]⟩
  | open_ s m t => exact ⟨_, _, _, _, _, _, _, h, rfl, by simp [doneCi]⟩
  | chead s m t g => exact ⟨_, _, _, _, _, _, _, h, rfl, by simp [doneCi]⟩
  | ctext s m t n u => exact ⟨_, _, _, _, _, _, _, h, rfl, by simp [doneCi]⟩
theorem WfK.dn {D M : Nat} {s : Ci} (h : WfK D M s) : ∀ s', s = .item s' true → s' = [] := by
  rintro s' rfl; exact h.2.2 rfl
theorem StP.lt {w : World} {b o D : Nat} {s : Ci} {vt vs : Value} (h : StP w b o D s vt vs) : b < w.heap.size := by
  cases s with
  | bad e => exact h.2.1.lt (by simp [paC])
  | _ => exact CP.lt h
theorem StP.err {w : World} {b o D : Nat} {s : Ci} {vt vs : Value} (h : StP w b o D s vt vs) : w.cell? ⟨b, o, none⟩ = some (.int .i64 (errCi s : Nat)) ∧ w.cell? ⟨b, o + 1, none⟩ = some (.int .i64 (D : Nat)) := by
  cases s with
  | bad e => exact ⟨(h.2.1 0 _ rfl).1, (h.2.1 1 _ rfl).1⟩
  | _ => exact ⟨(CP.cells h).1.1.1, (CP.cells h).1.2.1.1⟩
theorem cp_new {w : World} {b o D : Nat} (h : At w b o (paC 0 D)) : CP w b o D 0 .new 0 false 0 (.slice none 0 0) [] st0 (.slice none 0 0) 0 [] := by
  have e1 := h.right (vs := [.int .i64 ((0 : Nat) : Int), .int .i64 (D : Int), .int .i64 0]) (us := _); have e2 := e1.right (vs := hd6 0 0 0 false 0 0) (us := _); have e3 := e2.right (vs := [.int .i64 0, .bool false, .int .i64 0, .slice none 0 0]) (us := _); have e4 := e3.right (vs := ckCells 0 0 0 false) (us := _); exact ⟨h.left (vs := [.int .i64 ((0 : Nat) : Int), .int .i64 (D : Int), .int .i64 0]), ⟨trivial, e1.left (vs := hd6 0 0 0 false 0 0)⟩, e2.left (vs := [.int .i64 0, .bool false, .int .i64 0, .slice none 0 0]), cat_zero (e3.left (vs := ckCells 0 0 0 false)), ⟨e4, Win.nil_ _ _ _, by simp [Value.owner]⟩, Win.nil_ _ _ _, by simp [Value.owner]⟩
theorem had_at {w : World} {b o D e : Nat} (hD : 1 ≤ D) (c0 : w.cell? ⟨b, o, none⟩ = some (.int .i64 (e : Nat))) (c1 : w.cell? ⟨b, o + 1, none⟩ = some (.int .i64 (D : Nat))) :
    Calls Tryz.prog 143 #[.pointer (some ⟨b, o, none⟩)] w fun r w' => r = .returned (.int .i64 (e : Nat)) ∧ w = w' := by
  have hz : ((D : Int) == 0) = false := by rw [beq_eq_false_iff_ne]; omega
  clear hD; go_enter Tryz.func143, Tryz.ntmps143; go_wp2; go_ret; exact ⟨rfl, rfl⟩
theorem done_cell {w : World} {b o pl : Nat} (c2 : w.cell? ⟨b, o + 2, none⟩ = some (.int .i64 (pl : Nat))) :
    Calls Tryz.prog 139 #[.pointer (some ⟨b, o, none⟩)] w fun r w' => r = .returned (.bool (decide (pl = 3))) ∧ w = w' := by
  have hz : ((pl : Int) == 3) = decide (pl = 3) := by rw [Bool.eq_iff_iff, beq_iff_eq, decide_eq_true_eq]; omega
  generalize decide (pl = 3) = B at *
  go_enter Tryz.func139, Tryz.ntmps139; go_wp2; go_ret; exact ⟨rfl, rfl⟩
theorem done_at {w : World} {b o D M : Nat} {s : Ci} {vt vs : Value} (h : StP w b o D s vt vs) (hw : WfK D M s) :
    Calls Tryz.prog 139 #[.pointer (some ⟨b, o, none⟩)] w fun r w' => r = .returned (.bool (doneCi s)) ∧ w = w' := by
  by_cases hb : ∃ e, s = .bad e
  · obtain ⟨e, rfl⟩ := hb
    exact done_cell (pl := 0) (h.2.1 2 _ rfl).1
  · have hb : ∀ e, s ≠ .bad e := fun e he => hb ⟨e, he⟩
    obtain ⟨pl, _, _, _, _, _, _, c, _, hd⟩ := (h.st hb).cp hb hw.dn; have := done_cell c.cells.1.2.2.1; have e : decide (pl = 3) = doneCi s := by rw [Bool.eq_iff_iff, decide_eq_true_eq]; exact hd
    rwa [e] at this
theorem cend_at {w : World} {b o D M : Nat} {s : Ci} {vt vs : Value} (hD : 1 ≤ D) (h : StP w b o D s vt vs) (hw : WfK D M s) :
    Calls Tryz.prog 140 #[.pointer (some ⟨b, o, none⟩)] w fun r w' => r = .returned (.int .i64 (endCi s : Nat)) ∧ w = w' := by
  have HH := hid (had_at hD h.err.1 h.err.2); have HD := hid (done_at h hw); have he : ∀ e, s = .bad e → e ≠ 0 := fun e h => by subst h; exact hw
  have hdn := hw.dn; by_cases hb : ∃ e, s = .bad e
  · obtain ⟨e, rfl⟩ := hb
    have hz : ((e : Int) != 0) = true := by have := he e rfl; rw [bne_iff_ne]; omega
    simp only [errCi, endCi] at HH ⊢; clear h he hw hdn; go_enter Tryz.func140, Tryz.ntmps140; (go_wp2_with fail); refine HH.out.mono ?_; rintro r w1 ⟨rfl, rfl⟩; go_wp2; go_ret; exact ⟨rfl, rfl⟩
  · have hb : ∀ e, s ≠ .bad e := fun e he => hb ⟨e, he⟩
    have e0 : errCi s = 0 := by cases s <;> first | rfl | exact absurd rfl (hb _)
    have e1 : endCi s = if doneCi s = true then 0 else 3 := by
      cases s with
      | bad e => exact absurd rfl (hb e)
      | item s dn =>
        cases dn with
        | false =>
          simp [endCi, doneCi]
        | true =>
          obtain rfl := hdn s rfl; rfl
      | _ => rfl
    rw [e0] at HH; rw [e1]; generalize doneCi s = B at *
    clear h he hw hdn; cases B with
    | true =>
      go_enter Tryz.func140, Tryz.ntmps140; (go_wp2_with fail); refine HH.out.mono ?_; rintro r w1 ⟨rfl, rfl⟩; (go_wp2_with fail); refine HD.out.mono ?_; rintro r w1 ⟨rfl, rfl⟩; go_wp2; go_ret; exact ⟨rfl, rfl⟩
    | false =>
      go_enter Tryz.func140, Tryz.ntmps140; (go_wp2_with fail); refine HH.out.mono ?_; rintro r w1 ⟨rfl, rfl⟩; (go_wp2_with fail); refine HD.out.mono ?_; rintro r w1 ⟨rfl, rfl⟩; go_wp2; go_ret; exact ⟨rfl, rfl⟩
end
section
open Go.RowKit
open Go.Lib
def StepK (w w' : World) (b o D : Nat) (vt vs : Value) (q : Ci × List Ev) (r : Ending) : Prop :=
  (∃ u, r = .returned (.tuple #[u, .int .i64 (errCi q.1 : Nat)]) ∧ Vls w w' u q.2) ∧ (∃ vt' vs', StP w' b o D q.1 vt' vs' ∧ ∀ k ∈ Value.owner vt' ++ Value.owner vs', k ∈ Value.owner vt ++ Value.owner vs ∨ w.heap.size ≤ k) ∧ Subg (Value.owner vt ++ Value.owner vs) b o 18 w w'
theorem cstep_at {w : World} {b o D M : Nat} {s : Ci} {vt vs : Value} (hD : 1 ≤ D ∧ D ≤ 16) (h : StP w b o D s vt vs) (hw : WfK D M s) (hM : M + 1 ≤ 2000000000) (y : UInt8) :
    Calls Tryz.prog 142 #[.pointer (some ⟨b, o, none⟩), .int .u8 (y.toNat : Int)] w fun r w' => StepK w w' b o D vt vs (stepCi D s y) r := by
  have HH := hid (had_at hD.1 h.err.1 h.err.2); by_cases hb : ∃ e, s = .bad e
  · obtain ⟨e, rfl⟩ := hb
    have hz : ((e : Int) != 0) = true := by have : e ≠ 0 := hw; rw [bne_iff_ne]; omega
    have HK : Hid (StepK w w b o D vt vs (stepCi D (.bad e) y) (.returned (.tuple #[.slice none 0 0, .int .i64 (e : Nat)]))) := hid ⟨⟨_, rfl, Vls.nil_ _ _⟩, ⟨vt, vs, h, fun k hk => .inl hk⟩, Subg.refl _ _ _ _ _⟩; simp only [errCi] at HH; clear h hw hD hM; go_enter Tryz.func142, Tryz.ntmps142; (go_wp2_with fail); refine HH.out.mono ?_; rintro r w1 ⟨rfl, rfl⟩; go_wp2; go_ret2; exact HK.out
  · have hb : ∀ e, s ≠ .bad e := fun e he => hb ⟨e, he⟩
    have e0 : errCi s = 0 := by cases s <;> first | rfl | exact absurd rfl (hb _)
    have hT := ctake_at (y := y) hD.2 (h.st hb) hw hM hb; have HL := hid h.lt; rw [e0] at HH; generalize stepCi D s y = R at *
    have HT := hid hT; clear hT h hw hM hb e0 hD; by_cases he : errCi R.1 = 0
    · have HE := hid he
      have HF : Hid (∀ (w' : World) (x : Value), GoR w w w' b o D vt vs R x → StepK w w' b o D vt vs R (.returned (.tuple #[x, .int .i64 (errCi R.1 : Nat)]))) := hid (fun w' x hg => by
        obtain ⟨vt', vs', hst, ho⟩ := hg.st; have hnb : ∀ e, R.1 ≠ .bad e := fun e h => by
          rw [h] at hst he; exact hst.1 he
        exact ⟨⟨x, rfl, hg.vls⟩, ⟨vt', vs', StP.of hst hnb, ho⟩, hg.sub⟩)
      unfold TakeR at HT; rw [he] at HT HF; go_enter Tryz.func142, Tryz.ntmps142; (go_wp2_with fail); refine HH.out.mono ?_; rintro r w1 ⟨rfl, rfl⟩; (go_wp2_with fail); refine HT.out.mono ?_; rintro r w1 ⟨x, rfl, hg⟩; have HG := hid hg; clear hg; go_wp2; go_ret2; exact HF.out _ _ HG.out
    · obtain ⟨e, hR, hne⟩ := err_bad he
      obtain ⟨R1, R2⟩ := R; simp only at hR; subst hR; have hz : ((e : Int) != 0) = true := by rw [bne_iff_ne]; omega
      unfold TakeR at HT; simp only [errCi] at HT; have HN := hid hne; clear he hne; go_enter Tryz.func142, Tryz.ntmps142; (go_wp2_with fail); refine HH.out.mono ?_; rintro r w1 ⟨rfl, rfl⟩; (go_wp2_with fail); refine HT.out.mono ?_; rintro r w1 ⟨x, rfl, hg⟩; have HG := hid hg; obtain ⟨vt', vs', ⟨_, hroom, c1⟩, _⟩ := hg.st; have HR := hid hroom; clear hg hroom
      go_wp2_with (refine wpList_store_room rfl 142 _ _ rfl b o (paC e D) rfl rfl HR.out (by kernel_rfl) (paC_one _ _) ?_)
      intro w2 h2; have HA := hid h2.out.1; have HS2 := hid h2.out.2; clear h2; go_wp2; go_ret2; refine ⟨⟨x, rfl, HG.out.vls.sub HS2.out HL.out⟩, ⟨.slice none 0 0, .slice none 0 0, ⟨HN.out, HA.out, rfl, rfl⟩, fun k hk => by simp [Value.owner] at hk⟩, HG.out.sub.tr (HS2.out.subg _)⟩
theorem cnew_any (D : Nat) (hD : 1 ≤ D ∧ D ≤ 16) (w : World) :
    Calls Tryz.prog 38 #[.int .i64 D] w fun r w' => r = .returned (.pointer (some ⟨w.heap.size, 0, none⟩)) ∧ StP w' w.heap.size 0 D ci0 (.slice none 0 0) (.slice none 0 0) ∧ Below w.heap.size w w' := by
  have h1 : ((D : Int) < 1) = False := by simp; omega
  have h2 : ((16 : Int) < (D : Int)) = False := by simp; omega
  have HP : Hid (StP (w.alloc (.cells (paC 0 D).toArray 142)) w.heap.size 0 D ci0 (.slice none 0 0) (.slice none 0 0)) := hid (cp_new (at_block (heap_alloc_new w _))); clear hD; go_enter Tryz.func38, Tryz.ntmps38; go_wp2; go_ret; exact ⟨rfl, HP.out, up_alloc (Below.refl _ _) _⟩
end
end Go.Proofs.YtkgconbdmnmbnaaGreat
