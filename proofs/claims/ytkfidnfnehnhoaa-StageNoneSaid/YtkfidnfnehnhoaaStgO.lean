/-
  LAWS of chapter 17: StageMixed.
-/
import Derived.Test.YtkfidnfnehnhoaaStgN
import Derived.Test.YtkfidnfnehnhoaaStgDoc
import Derived.Test.YtkfidnfnehnhoaaSameEvs
namespace Go.Proofs.Ytkfidnfnehnhoaa
open Go.RowKit
open Go.Lib
theorem made_app {w0 wA w w2 : World} {v v' : Value} {n m : Nat} {L K : List Ev} (h : Made w0 wA v n L) (hA : Below wA.heap.size wA w) (hW : Win w2 34 5 v' (n + m) (evsC L ++ evsC K)) (hG : w.grownBy w2 v.ownBlock)
    (hO : v'.ownBlock = v.ownBlock ∨ v'.ownBlock = some w.heap.size ∧ w.heap.size < w2.heap.size) : Made w0 w2 v' (n + m) (L ++ K) := made_more h hA hW hG hO
/-- Cell 4 of the first part is written. -/
theorem mix_set {w : World} {g off cap n : Nat} {I : List Ev} {m : Nat} {c c' : Int} (h : Win w 34 5 (.slice (some ⟨g, off, none⟩) n cap) n (evsC (mixL I m c))) (hn : 1 ≤ n) : Win (w.setCell ⟨g, off + 4, none⟩ (.int .i64 c')) 34 5 (.slice (some ⟨g, off, none⟩) n cap) n (evsC (mixL I m c')) := by
  have h1 := h.store 4 (by rw [h.1]; omega) (.int .i64 c')
  have h2 : (evsC (mixL I m c)).set 4 (.int .i64 c') = evsC (mixL I m c') := rfl
  rwa [h2] at h1
/-- A Stage before the whole list: it goes on, or is over, or all has gone on. -/
theorem mix_step {D : Nat} (hD : D ≤ 15) {I : List Ev} (hr : runC (.live []) I = .done) (hd : DeepW D [] I) (hc : ∀ e ∈ I, 0 ≤ e.c) (ht : ∀ e ∈ I, tidyE e = e) {n lim j : Nat} {s : Gs} (h : LimK (mixL I n (-1)) j s) (hj : j < (mixL I n (-1)).length) :
    (j + 1 < (mixL I n (-1)).length ∧ stepG lim s (mixL I n (-1))[j] = ⟨.bad, [], 10⟩) ∨ (j + 1 < (mixL I n (-1)).length ∧ ∃ s', stepG lim s (mixL I n (-1))[j] = ⟨s', [], 0⟩ ∧ LimK (mixL I n (-1)) (j + 1) s') ∨
      (j + 1 = (mixL I n (-1)).length ∧ stepG lim s (mixL I n (-1))[j] = ⟨gs0, mixL I n n, 0⟩) := by
  have htd : ∀ e ∈ mixL I n (-1), tidyE e = e := fun e he => by
    simp only [mixL, List.mem_cons, List.mem_append, List.not_mem_nil, or_false] at he
    rcases he with rfl | he | rfl
    · rfl
    · exact ht e (rep_mem he)
    · rfl
  rcases limK_step (lim := lim) h (mix_run hD hr hd n) htd (fun hl => ⟨.inl rfl, rfl⟩) hj with ⟨h1, _, h2⟩ | ⟨h1, _, s', h2, h3⟩ | ⟨h1, _, L, H, op, _, h2, hF⟩
  · exact .inl ⟨h1, h2⟩
  · exact .inr (.inl ⟨h1, s', h2, h3⟩)
  · exact .inr (.inr ⟨h1, by rw [h2, mix_fin hD hr hd hc hF]⟩)
/-- A list of parts grows beside a Stage. -/
theorem gk_grown {w0 w w' : World} {b lim : Nat} {s : Gs} {v : Value} {n : Nat} {xs : List Value} (h : GK w0 w b lim s) (hG : w.grownBy w' v.ownBlock) (hW : Win w 34 5 v n xs) (hB : ∀ k ∈ Value.owner v, w0.heap.size ≤ k) : GK w0 w' b lim s := by
  obtain ⟨vh, vo, hs, ho⟩ := h.at_
  have hk : ∀ k ∈ rowsG b vh vo, w'.heap[k]? = w.heap[k]? := fun k hk => by
    obtain ⟨c, t, fr, hc, ht⟩ := hs.typed k hk
    refine hG.block k (Array.getElem?_eq_some_iff.1 hc).1 (fun e => ?_)
    obtain ⟨cur, hc2⟩ := hW.typed k ((ob_iff _ _).1 e.symm)
    rw [hc] at hc2
    injection hc2 with hc2
    injection hc2 with _ h2 _
    rw [h2] at ht
    exact absurd ht (by decide)
  refine ⟨⟨vh, vo, ?_, ho⟩, h.wf, h.lim, h.bel.grown hG h.bel.size (fun k hk => hB k ((ob_iff _ _).1 hk))⟩
  cases s with
  | bad => exact ⟨(hk b (by simp [rowsG])).trans hs.1, hs.2.1, hs.2.2⟩
  | live z H op => exact ⟨(hk b (by simp [rowsG])).trans hs.1, hs.2.1.keep fun i hi => hk i (by simp [rowsG, hi]), hs.2.2.keep fun i hi => hk i (by simp [rowsG, hi])⟩
/-- Behind 'got = append(got, y...)'. -/
theorem mix_got {w2 w6 w9 w10 : World} {b lim : Nat} {s : Gs} {v v10 va : Value} {n m na : Nat} {xs ys za : List Value} (hK : GK w2 w9 b lim s) (hg : Win w9 34 5 v n xs) (ha : Win w9 34 5 va na za) (hal : ∀ k ∈ Value.owner va, k < w6.heap.size) (ho : ∀ k ∈ Value.owner v, w6.heap.size ≤ k) (hs : w6.heap.size ≤ w9.heap.size) (h26 : w2.heap.size ≤ w6.heap.size)
    (_ : Win w10 34 5 v10 m ys) (hG : w9.grownBy w10 v.ownBlock) (hO : v10.ownBlock = v.ownBlock ∨ v10.ownBlock = some w9.heap.size ∧ w9.heap.size < w10.heap.size) :
    GK w2 w10 b lim s ∧ Win w10 34 5 va na za ∧ (∀ k ∈ Value.owner v10, w6.heap.size ≤ k) ∧ w6.heap.size ≤ w10.heap.size := by
  refine ⟨gk_grown hK hG hg (fun k hk => Nat.le_trans h26 (ho k hk)), ha.keep fun k hk => hG.block k (ha.lt k hk) (fun e => ?_), fun k hk => ?_, Nat.le_trans hs hG.size⟩
  · have h1 := ho k ((ob_iff _ _).1 e.symm)
    have h2 := hal k hk
    omega
  · rcases hO with e | ⟨e, _⟩
    · exact ho k ((ob_iff _ _).1 (e ▸ (ob_iff _ _).2 hk))
    · have h2 := (ob_iff _ _).2 hk
      rw [e] at h2
      cases h2
      exact hs
set_option maxRecDepth 100000 in
set_option maxHeartbeats 8000000 in
theorem gmixed_in (A : Option Addr) (n cp : Nat) (Li : Nat → Int) (outer : Int) (w : World) (hL : DLAt w w.heap.size A n Li) (hn : n ≤ 40) :
    Calls Try.prog 6 #[.slice A n cp, .int .i64 outer] w fun r w' => r = .returned (.bool true) ∧ Below w.heap.size w w' := by
  have t1 : ((40 : Int) < (n : Int)) = False := by simp; omega
  have HA := Lib.hid (galive_any w)
  have HN := Lib.hid (fun W => gk_new 2000 W)
  rw [show (min (max (2000 : Int) 0) 2000).toNat = 2000 by decide] at HN
  have HO := Lib.hid (fun e W => of_any e W)
  have hde := doc_e n Li 8
  have hps := doc_pos n Li 8 0
  have hlen := item_length n Li 8
  have hrun := doc_run n Li 8 (by omega)
  have hdeep := (doc_one false 8 n Li (by omega)).2
  rw [gE_false, List.map_id] at hdeep
  have HDOC := Lib.hid (fun W (h : DLAt W W.heap.size A n Li) => doc_any A n cp Li 8 W h (by omega) (by omega) (cap16 8 (by omega)))
  have HLI := Lib.hid hL
  generalize (itemD n Li 8 0).1 = I at *
  obtain ⟨N, hN⟩ : ∃ N, I.length = N := ⟨_, rfl⟩
  have HMS := Lib.hid (fun m j s (h : LimK (mixL I m (-1)) j s) (hj : j < (mixL I m (-1)).length) => mix_step (lim := 2000) (by omega) hrun hdeep hps (fun e he => (hde e he).tidy) h hj)
  have HME := Lib.hid (fun m e (he : e ∈ mixL I m (-1)) => (show mayE e ∧ sizG e ≤ 1000 ∧ tidyE e = e from by
    simp only [mixL, List.mem_cons, List.mem_append, List.not_mem_nil, or_false] at he
    rcases he with rfl | he | rfl
    · exact ⟨by decide, by decide, rfl⟩
    · have hd := hde e (rep_mem he)
      exact ⟨docE_may hd, by have := docG_size hd; omega, hd.tidy⟩
    · exact ⟨by decide, by decide, rfl⟩))
  have HMF := Lib.hid (fun (m : Nat) e (he : e ∈ mixL I m (m : Int)) => (show mayE e ∧ tidyE e = e from by
    simp only [mixL, List.mem_cons, List.mem_append, List.not_mem_nil, or_false] at he
    rcases he with rfl | he | rfl
    · exact ⟨⟨by show (0 : Int) ≤ 5; omega, by show (5 : Int) ≤ 7; omega, fun _ => by show (-1 : Int) ≤ (m : Int); omega⟩, rfl⟩
    · have hd := hde e (rep_mem he)
      exact ⟨docE_may hd, hd.tidy⟩
    · exact ⟨by decide, rfl⟩))
  have HRL := Lib.hid (fun k => rep_length I k)
  rw [hN] at HDOC hlen HRL
  have hN322 : N ≤ 322 := by omega
  have HNN := Lib.hid hN
  obtain ⟨bq, hbq, hbits⟩ := bits_range outer 3 3 (by omega) rfl
  have hw1 : IntKind.i64.wrap (1 + (bq : Int)) = ((bq + 1 : Nat) : Int) := by simp only [IntKind.wrap_i64]; omega
  clear hL hde hps hlen hrun hdeep hN hn
  go_enter Try.func6, Try.ntmps6
  go_wp2_with fail
  refine HA.out.mono ?_
  rintro r w1 ⟨rfl, b1⟩
  have B1 := Lib.hid b1
  have HL2 := Lib.hid (show DLAt w1 w1.heap.size A n Li from fun h0 => by
    obtain ⟨bb, off, h1, h3, h4⟩ := HLI.out.below b1 h0
    exact ⟨bb, off, h1, Nat.lt_of_lt_of_le h3 b1.size, h4⟩)
  clear b1 HA HLI
  go_wp2_with fail
  refine (HDOC.out _ HL2.out).mono ?_
  rintro r w2 ⟨v2, rfl, hM2⟩
  obtain ⟨a2, c2, rfl, _, _⟩ := hM2.2.1.slice_form
  have B2 := Lib.hid (up_trans B1.out hM2.1)
  have HI2 := Lib.hid hM2.2.1
  clear hM2 HL2 HDOC B1
  go_wp2_with fail
  refine (HN.out w2).mono ?_
  rintro r w3 ⟨b, rfl, h3⟩
  have H3 := Lib.hid h3
  have HI3 := Lib.hid (show Win w3 34 5 (.slice a2 N c2) N (evsC I) from HI2.out.keep fun k hk => h3.bel.block k (HI2.out.lt k hk))
  clear h3 HI2 HN
  have hM0 : Hid (Made w3 w3 (.slice none 0 0) 0 []) := Lib.hid (made_nil w3)
  go_wp2_with (at_builtin; refine wpList_append_win rfl _ _ _ rfl Try.underlying23 info_ev rfl rfl (hM0.out.2.1.alloc _) _ rfl 1 _ (src_new _ Try.underlying23 5 1 (evsC [⟨5, false, 0, ⟨#[]⟩, -1⟩]) 34 _ rfl (evsC_one _) (heap_alloc_new _ _)) (by unfold maxLen; omega) (by omega) ?_)
  intro v4 w4 hW4 hG4 hO4
  have hM4 : Made w3 w4 v4 1 [arrE (-1)] := made_app (n := 0) (m := 1) (L := []) (K := [arrE (-1)]) hM0.out (up_alloc (Below.refl _ _) _) (by exact hW4.out) hG4.out (by simpa using hO4.out)
  obtain ⟨a4, c4, rfl, _, _⟩ := hM4.2.1.slice_form
  have HM4 : Hid (Made w3 w4 (.slice a4 1 c4) (1 + 0 * N) (arrE (-1) :: rep I 0)) := Lib.hid (by simpa [rep] using hM4)
  clear hW4 hG4 hO4 hM4 hM0
  go_wp2
  go_loopw [8, 10] (fun al i wr => ∃ (k : Nat) (a : Option Addr) (c : Nat), i = .int .i64 k ∧ al = .slice a (1 + k * N) c ∧ k ≤ bq + 1 ∧ Hid (Made w3 wr (.slice a (1 + k * N) c) (1 + k * N) (arrE (-1) :: rep I k))) (fun _ i _ => bq + 1 - (RowKit.intOf i).toNat)
  case atStart => exact ⟨0, a4, c4, rfl, by simp, by omega, Lib.hid (by simpa using HM4.out)⟩
  case round =>
    obtain ⟨k, a, c, rfl, rfl, hk, HM⟩ := hrel
    have hkN : k * N ≤ 1288 := Nat.le_trans (Nat.mul_le_mul (show k ≤ 4 by omega) hN322) (by omega)
    obtain ⟨kN, hkn⟩ : ∃ kN, k * N = kN := ⟨_, rfl⟩
    by_cases hlt : k < bq + 1
    · have HIR := Lib.hid (show Win wr 34 5 (.slice a2 N c2) N (evsC I) from HI3.out.keep fun x hx => HM.out.1.block x (HI3.out.lt x hx))
      have hsucc : 1 + (k + 1) * N = 1 + kN + N := by rw [Nat.add_mul, hkn]; omega
      have HSU := Lib.hid hsucc
      rw [hkn] at HM hkN ⊢
      clear hkn hsucc
      go_wp2_with (at_builtin; refine wpList_append_win rfl _ _ _ rfl Try.underlying23 info_ev rfl rfl HM.out.2.1 _ rfl N _ (HIR.out.src Try.underlying23 (evsC_one _)) (by unfold maxLen; omega) (by omega) ?_)
      intro v5 w5 hW5 hG5 hO5
      have hM5 : Made w3 w5 v5 (1 + kN + N) ((arrE (-1) :: rep I k) ++ I) := made_app HM.out (Below.refl _ _) hW5.out hG5.out hO5.out
      obtain ⟨a5, c5, rfl, _, _⟩ := hM5.2.1.slice_form
      have HM5 : Hid (Made w3 w5 (.slice a5 (1 + (k + 1) * N) c5) (1 + (k + 1) * N) (arrE (-1) :: rep I (k + 1))) := Lib.hid (by rw [HSU.out]; exact hM5)
      clear hW5 hG5 hO5 hM5
      go_wp2
      go_roundw
      case rel => exact ⟨k + 1, a5, c5, rfl, by rw [HSU.out], hlt, HM5⟩
      case measure => simp [RowKit.intOf]; omega
    · obtain rfl : k = bq + 1 := by omega
      obtain ⟨T, hT⟩ : ∃ T, 1 + (bq + 1) * N = T := ⟨_, rfl⟩
      rw [hT] at HM
      have hT9 : T ≤ 1289 := by omega
      have hT1 : 1 ≤ T := by omega
      have hTL : (mixL I (bq + 1) (-1)).length = T + 1 := by
        have := HRL.out (bq + 1)
        simp only [mixL, List.length_cons, List.length_append, List.length_nil, this]
        omega
      have hTF : (mixL I (bq + 1) ((bq + 1 : Nat) : Int)).length = T + 1 := by
        have := HRL.out (bq + 1)
        simp only [mixL, List.length_cons, List.length_append, List.length_nil, this]
        omega
      have HTL := Lib.hid hTL
      have HTF := Lib.hid hTF
      simp only [hT]
      clear hT hkn hkN hTL hTF HM4 HI3 HRL HNN
      go_wp2_with (at_builtin; refine wpList_append_win rfl _ _ _ rfl Try.underlying23 info_ev rfl rfl (HM.out.2.1.alloc _) _ rfl 1 _ (src_new _ Try.underlying23 5 1 (evsC [⟨7, false, 0, ⟨#[]⟩, 0⟩]) 34 _ rfl (evsC_one _) (heap_alloc_new _ _)) (by unfold maxLen; omega) (by omega) ?_)
      intro v6 w6 hW6 hG6 hO6
      have hM6 : Made w3 w6 v6 (T + 1) (mixL I (bq + 1) (-1)) := made_app (n := T) (m := 1) (L := arrE (-1) :: rep I (bq + 1)) (K := [endE7]) HM.out (up_alloc (Below.refl _ _) _) (by exact hW6.out) hG6.out (by simpa using hO6.out)
      obtain ⟨a6, c6, rfl, _, _⟩ := hM6.2.1.slice_form
      have HAL := Lib.hid hM6.2.1
      have H6 := Lib.hid (H3.out.go hM6.1)
      have HLT := Lib.hid (show ∀ k ∈ Value.owner (.slice a6 (T + 1) c6), k < w6.heap.size from hM6.2.1.lt)
      have H26 := Lib.hid (H6.out.bel.size)
      have HGE := Lib.hid (show ∀ k ∈ Value.owner (.slice a6 (T + 1) c6), w2.heap.size ≤ k from fun k hk => Nat.le_trans H3.out.bel.size (hM6.2.2 k hk))
      clear hW6 hG6 hO6 hM6 HM
      go_wp2
      go_loopw [9, 11, 12, 13, 14, 15, 16, 17, 52] (fun gt _ _ _ _ _ _ _ i wr => ∃ (q gn : Nat) (ga : Option Addr) (gc : Nat), i = .int .i64 q ∧ gt = .slice ga gn gc ∧ q ≤ T + 1 ∧ gn ≤ T + 1 ∧ Hid (Win wr 34 5 (.slice a6 (T + 1) c6) (T + 1) (evsC (mixL I (bq + 1) (-1))) ∧ (∀ k ∈ Value.owner (.slice ga gn gc), w6.heap.size ≤ k) ∧ w6.heap.size ≤ wr.heap.size) ∧
        Hid ((q < T + 1 ∧ gn = 0 ∧ Win wr 34 5 (.slice ga gn gc) gn (evsC []) ∧ ∃ s, LimK (mixL I (bq + 1) (-1)) q s ∧ GK w2 wr b 2000 s) ∨ (q = T + 1 ∧ gn = T + 1 ∧ Win wr 34 5 (.slice ga gn gc) gn (evsC (mixL I (bq + 1) ((bq + 1 : Nat) : Int))) ∧ GK w2 wr b 2000 gs0))) (fun _ _ _ _ _ _ _ _ i _ => T + 1 - (RowKit.intOf i).toNat)
      case atStart => exact ⟨0, 0, none, 0, rfl, rfl, by omega, by omega, Lib.hid ⟨HAL.out, fun k hk => by simp [Value.owner] at hk, Nat.le_refl _⟩, Lib.hid (.inl ⟨by omega, rfl, Win.nil_ _ _ _, gs0, .inl ⟨rfl, rfl⟩, H6.out⟩)⟩
      case round =>
        obtain ⟨q, gn, ga, gc, rfl, rfl, hq, hgn, HW, HG⟩ := hrel
        by_cases hqt : q < T + 1
        · obtain ⟨_, rfl, hgw, s, hLK, hG⟩ : q < T + 1 ∧ gn = 0 ∧ Win wr 34 5 (.slice ga gn gc) gn (evsC []) ∧ ∃ s, LimK (mixL I (bq + 1) (-1)) q s ∧ GK w2 wr b 2000 s := by
            rcases HG.out with h | h
            · exact h
            · omega
          have hql : q < (mixL I (bq + 1) (-1)).length := by rw [HTL.out]; exact hqt
          obtain ⟨g, off, hA, hb, y0, y1, y2, y3, y4⟩ := (evs_win HW.out.1 (n := T + 1) (by rw [HTL.out]; exact Nat.le_refl _)).cells (i := q) hqt
          subst hA
          have hge : getE (mixL I (bq + 1) (-1)) q = (mixL I (bq + 1) (-1))[q] := by simp [getE, hql]
          rw [hge] at y0 y1 y2 y3 y4
          obtain ⟨hme, hmz, hmt⟩ := HME.out (bq + 1) _ (List.getElem_mem hql)
          have hsp := HMS.out (bq + 1) q s hLK hql
          have HOWN := Lib.hid (show ∀ w' : World, Off gts wr w' → ∀ (v : Value) (k : Nat) (xs : List Value), Win wr 34 5 v k xs → Win w' 34 5 v k xs from fun w' ho v k xs h => h.keep fun x hx => by
            obtain ⟨cur, hc⟩ := h.typed x hx
            exact (ho _ _ _ _ hc (by decide)).trans hc.symm)
          have HGG := Lib.hid hG
          have HGW := Lib.hid hgw
          generalize hGr : stepG 2000 s (mixL I (bq + 1) (-1))[q] = G at *
          generalize (mixL I (bq + 1) (-1))[q] = e at *
          have hO := HO.out e
          rw [if_pos hme, decide_eq_true hme] at hO
          have HO1 := Lib.hid hO
          have HST := Lib.hid (fun W (h : GK w2 W b 2000 s) => h.stepS e hme hmz)
          rw [hGr] at HST
          have HSP := Lib.hid hsp
          generalize valE e = V at *
          obtain ⟨k, y, mg, t, c⟩ := e
          simp only [evV] at *
          clear hO hme hmz hmt hsp hLK hG hgw hGr hge HG H6 HAL
          go_wp2_with fail
          refine (HO1.out _).mono ?_
          rintro r w7 ⟨rfl, b7⟩
          have B7 := Lib.hid b7
          have H7 := Lib.hid (HST.out _ (HGG.out.go b7))
          clear b7 HO1 HST HGG y0 y1 y2 y3 y4
          go_wp2_with fail
          refine H7.out.mono ?_
          rintro r w8 ⟨⟨v8, rfl, hv8⟩, h8, hoff, hsz8⟩
          obtain ⟨a8, c8, rfl⟩ := hv8.form
          have HOF := Lib.hid (show ∀ (v : Value) (k : Nat) (xs : List Value), Win wr 34 5 v k xs → Win w8 34 5 v k xs from fun v k xs h => by
            have h7 : Win w7 34 5 v k xs := h.keep fun x hx => B7.out.block x (h.lt x hx)
            exact h7.keep fun x hx => by
              obtain ⟨cur, hc⟩ := h7.typed x hx
              exact (hoff _ _ _ _ hc (by decide)).trans hc.symm)
          have HS8 := Lib.hid (show wr.heap.size ≤ w8.heap.size from Nat.le_trans B7.out.size hsz8)
          have H8 := Lib.hid h8
          have HV8 := Lib.hid hv8
          clear hoff h8 hv8 H7 hsz8 B7
          rcases HSP.out with ⟨hq1, rfl⟩ | ⟨hq1, s', rfl, hLK'⟩ | ⟨hq1, rfl⟩
          · have HP := Lib.hid (gplain_at HV8.out (by simp) (by simp))
            simp only [List.length_nil, List.map_nil] at HP ⊢
            clear hq1
            go_wp2_with fail
            refine HP.out.mono ?_
            rintro r w9 ⟨u9, rfl, hM9⟩
            have BE := Lib.hid (up_trans B2.out (up_trans H8.out.bel hM9.1))
            clear hM9
            go_wp2
            go_ret
            exact ⟨rfl, BE.out⟩
          · have HP := Lib.hid (gplain_at HV8.out (by simp) (by simp))
            simp only [List.length_nil, List.map_nil] at HP ⊢
            have hq2 : q + 1 < T + 1 := by rw [HTL.out] at hq1; exact hq1
            have HL1 := Lib.hid hLK'
            clear hq1 hLK' HV8
            go_wp2_with fail
            refine HP.out.mono ?_
            rintro r w9 ⟨u9, rfl, hM9⟩
            obtain ⟨a9, c9, rfl, _, _⟩ := hM9.2.1.slice_form
            have HG9 := Lib.hid (show Win w9 34 5 (.slice ga 0 gc) 0 (evsC []) from (HOF.out _ _ _ HGW.out).keep fun x hx => hM9.1.block x ((HOF.out _ _ _ HGW.out).lt x hx))
            have HW9 := Lib.hid (show Win w9 34 5 (.slice (some ⟨g, off, none⟩) (T + 1) c6) (T + 1) (evsC (mixL I (bq + 1) (-1))) from (HOF.out _ _ _ HW.out.1).keep fun x hx => hM9.1.block x ((HOF.out _ _ _ HW.out.1).lt x hx))
            have HK9 := Lib.hid (H8.out.go hM9.1)
            have HS9 := Lib.hid (Nat.le_trans HW.out.2.2 (Nat.le_trans HS8.out hM9.1.size))
            have HU9 := Lib.hid hM9.2.1
            clear hM9 HP H8 HS8
            go_wp2_with (at_builtin; refine wpList_append_win rfl _ _ _ rfl Try.underlying23 info_ev rfl rfl HG9.out _ rfl 0 _ (HU9.out.src Try.underlying23 (evsC_one _)) (by unfold maxLen; omega) (by omega) ?_)
            intro v10 w10 hW10 hG10 hO10
            obtain ⟨k10, wa10, o10, s10⟩ := mix_got HK9.out HG9.out HW9.out HLT.out HW.out.2.1 HS9.out H26.out hW10.out hG10.out hO10.out
            have hwg : Win w10 34 5 v10 0 (evsC []) := by simpa [evsC] using hW10.out
            obtain ⟨a10, c10, rfl, _, _⟩ := hwg.slice_form
            have HR1 : Hid (Win w10 34 5 (.slice (some ⟨g, off, none⟩) (T + 1) c6) (T + 1) (evsC (mixL I (bq + 1) (-1))) ∧ (∀ k ∈ Value.owner (.slice a10 0 c10), w6.heap.size ≤ k) ∧ w6.heap.size ≤ w10.heap.size) := Lib.hid ⟨wa10, o10, s10⟩
            have HR2 : Hid ((q + 1 < T + 1 ∧ 0 = 0 ∧ Win w10 34 5 (.slice a10 0 c10) 0 (evsC []) ∧ ∃ s, LimK (mixL I (bq + 1) (-1)) (q + 1) s ∧ GK w2 w10 b 2000 s) ∨ (q + 1 = T + 1 ∧ 0 = T + 1 ∧ Win w10 34 5 (.slice a10 0 c10) 0 (evsC (mixL I (bq + 1) ((bq + 1 : Nat) : Int))) ∧ GK w2 w10 b 2000 gs0)) := Lib.hid (.inl ⟨hq2, rfl, hwg, s', HL1.out, k10⟩)
            clear hW10 hG10 hO10 k10 wa10 o10 s10 hwg hq2
            go_wp2
            go_roundw
            case rel => exact ⟨q + 1, 0, a10, c10, rfl, rfl, by omega, by omega, HR1, Lib.hid (by simpa using HR2.out)⟩
            case measure => simp [RowKit.intOf]; omega
          · have HP := Lib.hid (gplain_at HV8.out (fun e he => (HMF.out _ e he).1) (by simp only [HTF.out]; omega))
            have hmt : (mixL I (bq + 1) ((bq + 1 : Nat) : Int)).map tidyE = mixL I (bq + 1) ((bq + 1 : Nat) : Int) := by
              have : ∀ e ∈ mixL I (bq + 1) ((bq + 1 : Nat) : Int), tidyE e = id e := fun e he => (HMF.out _ e he).2
              rw [List.map_congr_left this, List.map_id]
            simp only [hmt, HTF.out] at HP ⊢
            have hq2 : q = T := by rw [HTL.out] at hq1; omega
            generalize hML : mixL I (bq + 1) ((bq + 1 : Nat) : Int) = ML at *
            have HMLX := Lib.hid hML
            clear hq1 HV8 hmt hML
            go_wp2_with fail
            refine HP.out.mono ?_
            rintro r w9 ⟨u9, rfl, hM9⟩
            obtain ⟨a9, c9, rfl, _, _⟩ := hM9.2.1.slice_form
            have HG9 := Lib.hid (show Win w9 34 5 (.slice ga 0 gc) 0 (evsC []) from (HOF.out _ _ _ HGW.out).keep fun x hx => hM9.1.block x ((HOF.out _ _ _ HGW.out).lt x hx))
            have HW9 := Lib.hid (show Win w9 34 5 (.slice (some ⟨g, off, none⟩) (T + 1) c6) (T + 1) (evsC (mixL I (bq + 1) (-1))) from (HOF.out _ _ _ HW.out.1).keep fun x hx => hM9.1.block x ((HOF.out _ _ _ HW.out.1).lt x hx))
            have HK9 := Lib.hid (H8.out.go hM9.1)
            have HS9 := Lib.hid (Nat.le_trans HW.out.2.2 (Nat.le_trans HS8.out hM9.1.size))
            have HU9 := Lib.hid hM9.2.1
            clear hM9 HP H8 HS8
            go_wp2_with (at_builtin; refine wpList_append_win rfl _ _ _ rfl Try.underlying23 info_ev rfl rfl HG9.out _ rfl (T + 1) _ (HU9.out.src Try.underlying23 (evsC_one _)) (by unfold maxLen; omega) (by omega) ?_)
            intro v10 w10 hW10 hG10 hO10
            obtain ⟨k10, wa10, o10, s10⟩ := mix_got HK9.out HG9.out HW9.out HLT.out HW.out.2.1 HS9.out H26.out hW10.out hG10.out hO10.out
            have hwg : Win w10 34 5 v10 (T + 1) (evsC (mixL I (bq + 1) ((bq + 1 : Nat) : Int))) := by rw [HMLX.out]; simpa [evsC] using hW10.out
            obtain ⟨a10, c10, rfl, _, _⟩ := hwg.slice_form
            have HR1 : Hid (Win w10 34 5 (.slice (some ⟨g, off, none⟩) (T + 1) c6) (T + 1) (evsC (mixL I (bq + 1) (-1))) ∧ (∀ k ∈ Value.owner (.slice a10 (T + 1) c10), w6.heap.size ≤ k) ∧ w6.heap.size ≤ w10.heap.size) := Lib.hid ⟨wa10, o10, s10⟩
            have HR2 : Hid ((q + 1 < T + 1 ∧ T + 1 = 0 ∧ Win w10 34 5 (.slice a10 (T + 1) c10) (T + 1) (evsC []) ∧ ∃ s, LimK (mixL I (bq + 1) (-1)) (q + 1) s ∧ GK w2 w10 b 2000 s) ∨ (q + 1 = T + 1 ∧ T + 1 = T + 1 ∧ Win w10 34 5 (.slice a10 (T + 1) c10) (T + 1) (evsC (mixL I (bq + 1) ((bq + 1 : Nat) : Int))) ∧ GK w2 w10 b 2000 gs0)) := Lib.hid (.inr ⟨by omega, rfl, hwg, k10⟩)
            have hqT := Lib.hid hq2
            clear hW10 hG10 hO10 k10 wa10 o10 s10 hwg hq2
            go_wp2
            go_roundw
            case rel => exact ⟨q + 1, T + 1, a10, c10, by rw [hqT.out]; rfl, rfl, by have := hqT.out; omega, by omega, HR1, Lib.hid (by simpa using HR2.out)⟩
            case measure => have := hqT.out; simp [RowKit.intOf]; omega
        · obtain ⟨_, rfl, hgw, hG⟩ : q = T + 1 ∧ gn = T + 1 ∧ Win wr 34 5 (.slice ga gn gc) gn (evsC (mixL I (bq + 1) ((bq + 1 : Nat) : Int))) ∧ GK w2 wr b 2000 gs0 := by
            rcases HG.out with h | h
            · omega
            · exact h
          obtain rfl : q = T + 1 := by omega
          obtain ⟨g, off, hA, hb, _, _, _, _, y4⟩ := (evs_win HW.out.1 (n := T + 1) (by rw [HTL.out]; exact Nat.le_refl _)).cells (i := 0) (by omega)
          subst hA
          have hfr : wr.frozen? ⟨g, off + 4, none⟩ = false := by
            obtain ⟨g', off', cap', hv, _, _, _, _, hc⟩ := HW.out.1.form (by omega)
            simp only [Value.slice.injEq, Option.some.injEq, Addr.mk.injEq] at hv
            obtain ⟨⟨rfl, rfl, _⟩, _, _⟩ := hv
            exact (hc 4 (.int .i64 (-1)) rfl).2
          have hy4 : ∃ u, wr.cell? ⟨g, off + 4, none⟩ = some u := ⟨_, by simpa using y4⟩
          obtain ⟨u4', hy4⟩ := hy4
          have hset := mix_set (c' := ((bq + 1 : Nat) : Int)) HW.out.1 (by omega)
          have hgap : g ∉ Value.owner (.slice ga (T + 1) gc) := fun hk => by
            have h1 := HW.out.2.1 g hk
            have h2 := HLT.out g (by simp [Value.owner])
            omega
          have hgot := hgw.setCell_far (p := ⟨g, off + 4, none⟩) hgap (.int .i64 ((bq + 1 : Nat) : Int))
          have hbel : Below w.heap.size w (wr.setCell ⟨g, off + 4, none⟩ (.int .i64 ((bq + 1 : Nat) : Int))) := by
            exact (up_trans B2.out hG.bel).setCell (Nat.le_trans B2.out.size (HGE.out g (by simp [Value.owner]))) _
          have HSE := Lib.hid (same_evs ga (some ⟨g, off, none⟩) (T + 1) gc c6 (getE (mixL I (bq + 1) ((bq + 1 : Nat) : Int))) _ (by omega) (evs_win hgot (by rw [HTF.out]; exact Nat.le_refl _)) (evs_win hset (by rw [HTF.out]; exact Nat.le_refl _)))
          have HBE := Lib.hid hbel
          rw [Int.natCast_add] at HSE HBE
          clear hG hgw hset hgot hbel y4 hb HG H6 HAL
          go_wp2_with fail
          refine HSE.out.mono ?_
          rintro r w9 ⟨rfl, b9⟩
          have BE := Lib.hid (up_trans HBE.out b9)
          clear b9
          go_wp2
          go_ret
          exact ⟨rfl, BE.out⟩
set_option maxRecDepth 100000 in
set_option maxHeartbeats 4000000 in
theorem gmixed_row (A : Option Addr) (n cp : Nat) (Li : Nat → Int) (outer : Int) (w : World) (hL : DLAt w w.heap.size A n Li) :
    Calls Try.prog 6 #[.slice A n cp, .int .i64 outer] w fun r w' => r = .returned (.bool true) ∧ Below w.heap.size w w' := by
  by_cases hn : n ≤ 40
  · exact gmixed_in A n cp Li outer w hL hn
  · have t1 : ((40 : Int) < (n : Int)) = True := by simp; omega
    have HA := Lib.hid (galive_any w)
    clear hL hn
    go_enter Try.func6, Try.ntmps6
    go_wp2_with fail
    refine HA.out.mono ?_
    rintro r w1 ⟨rfl, b1⟩
    have B1 := Lib.hid b1
    clear b1
    go_wp2
    go_ret
    exact ⟨rfl, B1.out⟩
end Go.Proofs.Ytkfidnfnehnhoaa
