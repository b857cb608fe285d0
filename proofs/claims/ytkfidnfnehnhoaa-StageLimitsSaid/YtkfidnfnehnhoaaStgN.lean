/-
  LAWS of chapter 17: StageLimits.
-/
import Derived.Test.YtkfidnfnehnhoaaStgM
import Derived.Test.YtkfidnfnehnhoaaStgDoc
namespace Go.Proofs.Ytkfidnfnehnhoaa
open Go.RowKit
open Go.Lib
theorem limK_held {l : List Ev} {j : Nat} {s : Gs} (h : LimK l j s) : heldG s = szT l j := by
  rcases h with ⟨rfl, rfl⟩ | ⟨_, H, op, rfl, _⟩ <;> rfl
theorem szT_le {l : List Ev} (h : ∀ e ∈ l, sizG e ≤ 29) : ∀ j, j ≤ l.length → szT l j ≤ 29 * j := by
  intro j
  induction j with
  | zero => intro _; rw [szT_zero]; omega
  | succ j ih =>
    intro hj
    have := ih (by omega)
    have h2 := h l[j] (List.getElem_mem (by omega))
    rw [szT_succ (by omega)]
    omega
theorem opens_run (n : Nat) (Li : Nat → Int) (D : Nat) (hD : D ≤ 16) : runC (.live []) ((itemD n Li D 0).1.map openE) = .done := by
  have h := (doc_one true D n Li hD).1
  rw [gE_true] at h
  exact check_zero h
set_option maxRecDepth 100000 in
set_option maxHeartbeats 8000000 in
theorem glimits_in (A : Option Addr) (n cp : Nat) (Li : Nat → Int) (less : Int) (w : World) (hL : DLAt w w.heap.size A n Li) (hn : n ≤ 60) (hls : 0 ≤ less ∧ less ≤ 20) :
    Calls Try.prog 5 #[.slice A n cp, .int .i64 less] w fun r w' => r = .returned (.bool true) ∧ Below w.heap.size w w' := by
  have t1 : ((60 : Int) < (n : Int)) = False := by simp; omega
  have t2 : (less < 0) = False := by simp; omega
  have t3 : (20 < less) = False := by simp; omega
  have HA := Lib.hid (galive_any w)
  have HN := Lib.hid (fun lim W => gk_new lim W)
  have HO := Lib.hid (fun e W => of_any e W)
  have HNIL := Lib.hid (fun (w0 W : World) b LM (h : GK w0 W b LM .bad) => h.step ⟨0, false, 0, ⟨#[]⟩, 0⟩ (by decide) (by rw [size_lit]; decide))
  rw [valE_lit0] at HNIL
  have hde := doc_e n Li 8
  have hlen := item_length n Li 8
  have hrun := opens_run n Li 8 (by omega)
  have HDOC := Lib.hid (fun W (h : DLAt W W.heap.size A n Li) => doc_any A n cp Li 8 W h (by omega) (by omega) (cap16 8 (by omega)))
  have HOPN := Lib.hid (fun W a c (h : Win W 34 5 (.slice a (itemD n Li 8 0).1.length c) (itemD n Li 8 0).1.length (evsC (itemD n Li 8 0).1)) => dopen_any a (itemD n Li 8 0).1.length c (getE (itemD n Li 8 0).1) W (by omega) (evs_win h (Nat.le_refl _)))
  simp only [pre_getE] at HOPN
  have HLI := Lib.hid hL
  generalize (itemD n Li 8 0).1 = I0 at *
  have hdo : ∀ e ∈ I0.map openE, DocE e ∧ ((e.k = 5 ∨ e.k = 6) → e.c = -1) := fun e he => by
    obtain ⟨x, hx, rfl⟩ := List.mem_map.1 he
    exact docE_open (hde x hx)
  obtain ⟨I, hI⟩ : ∃ I, I0.map openE = I := ⟨_, rfl⟩
  rw [hI] at hdo hrun HOPN
  obtain ⟨N, hN⟩ : ∃ N, I.length = N := ⟨_, rfl⟩
  have hN0 : I0.length = N := by rw [← hN, ← hI, List.length_map]
  rw [hN0] at HDOC HOPN hlen
  have HNN := Lib.hid hN
  obtain ⟨M, rfl⟩ : ∃ M, N = M + 1 := ⟨N - 1, by omega⟩
  have hM481 : M ≤ 481 := by omega
  have HDE := Lib.hid (fun j (hj : j < I.length) => hdo _ (List.getElem_mem hj))
  have HSZ := Lib.hid (szT_le (fun e he => docG_size (hdo e he).1))
  have HSS := Lib.hid (fun j (hj : j < I.length) => szT_succ hj)
  have HSM := Lib.hid (fun i j (h : i ≤ j) (hj : j ≤ I.length) => szT_mono I h hj)
  have HLK := Lib.hid (fun (h0 : ∀ hl : 0 < I.length, opnE I[0]) lim j s (h : LimK I j s) (hj : j < I.length) => limK_step (lim := lim) h hrun (fun e he => (hdo e he).1.tidy) h0 hj)
  clear hL hde hdo hN hlen hn hI hN0 hrun
  go_enter Try.func5, Try.ntmps5
  go_wp2_with fail
  refine HA.out.mono ?_
  rintro r w1 ⟨rfl, b1⟩
  have B1 := Lib.hid b1
  have HL2 := Lib.hid (show DLAt w1 w1.heap.size A n Li from fun h0 => by
    obtain ⟨bb, off, h1, h3, h4⟩ := HLI.out.below b1 h0
    exact ⟨bb, off, h1, Nat.lt_of_lt_of_le h3 b1.size, h4⟩)
  clear b1 HA HLI
  go_wp2_with fail
  refine (HDOC.out _ HL2.out).mono ?_
  rintro r w2 ⟨v2, rfl, hM2⟩
  obtain ⟨a2, c2, rfl, _, _⟩ := hM2.2.1.slice_form
  have B2 := Lib.hid (up_trans B1.out hM2.1)
  have HI2 := Lib.hid hM2.2.1
  clear hM2 HL2 HDOC B1
  go_wp2_with fail
  refine (HOPN.out _ _ _ HI2.out).mono ?_
  rintro r w3 ⟨v3, rfl, hM3⟩
  obtain ⟨a3, c3, rfl, _, _⟩ := hM3.2.1.slice_form
  have B3 := Lib.hid (up_trans B2.out hM3.1)
  have HI3 := Lib.hid hM3.2.1
  clear hM3 HI2 HOPN B2
  obtain ⟨g, off, hA, hb, x0, _⟩ := (evs_win HI3.out (n := M + 1) (by rw [HNN.out]; exact Nat.le_refl _)).cells (i := 0) (by omega)
  subst hA
  have hI0 : 0 < I.length := by rw [HNN.out]; omega
  have hge : getE I 0 = I[0] := by simp [getE, hI0]
  rw [hge] at x0
  have hx0 := x0
  simp only [Nat.zero_mul, Nat.add_zero] at hx0
  clear x0
  by_cases hkk : I[0].k = 5 ∨ I[0].k = 6
  · have ho : opnE I[0] := ⟨hkk, (HDE.out 0 hI0).2 hkk⟩
    have HLK2 := Lib.hid (fun lim j s h hj => HLK.out (fun _ => ho) lim j s h hj)
    have hkc : (I[0].k != 5) = false ∨ ((I[0].k != 5) = true ∧ (I[0].k != 6) = false) := by
      rcases hkk with h | h
      · exact .inl (by simp [h])
      · exact .inr ⟨by simp [h], by simp [h]⟩
    generalize I[0].k = K0 at *
    clear HLK ho hkk hb
    have hMN : szT I M ≤ 29 * M := HSZ.out M (by rw [HNN.out]; omega)
    rcases hkc with hkc | ⟨hkc, hkd⟩
    all_goals
      go_wp2
      go_loopw [6, 7, 8, 9] (fun z i _ _ wr => ∃ (j : Nat), i = .int .i64 j ∧ z = .int .i64 (szT I j : Nat) ∧ j ≤ M ∧ Hid (Below w3.heap.size w3 wr)) (fun _ i _ _ _ => M - (RowKit.intOf i).toNat)
      case atStart => exact ⟨0, rfl, rfl, by omega, Lib.hid (Below.refl _ _)⟩
      case round =>
        obtain ⟨j, rfl, rfl, hj, HB⟩ := hrel
        by_cases hlt : j < M
        · have hjl : j < I.length := by rw [HNN.out]; omega
          have hwin : Win wr 34 5 (.slice (some ⟨g, off, none⟩) (M + 1) c3) (M + 1) (evsC I) := HI3.out.keep fun k hk => HB.out.block k (HI3.out.lt k hk)
          obtain ⟨g', off', hA, hb, y0, y1, y2, y3, y4⟩ := (evs_win hwin (n := M + 1) (by rw [HNN.out]; exact Nat.le_refl _)).cells (i := j) (by omega)
          injection hA with hA
          injection hA with hg1 hg2
          subst hg1 hg2
          have hge : getE I j = I[j] := by simp [getE, hjl]
          rw [hge] at y0 y1 y2 y3 y4
          have hd := (HDE.out j hjl).1
          have hss := HSS.out j hjl
          have hsb := HSZ.out j (by omega)
          generalize I[j] = e at *
          have hO := HO.out e
          rw [if_pos (docE_may hd), decide_eq_true (docE_may hd)] at hO
          have HO1 := Lib.hid hO
          have h29 := docG_size hd
          have HSE := Lib.hid (fun W => gsize_any e (docE_may hd) (by omega) W)
          generalize sizG e = Q at *
          generalize valE e = V at *
          generalize szT I j = Z at *
          have HSJ := Lib.hid hss
          have hzz : IntKind.i64.wrap ((Z : Int) + (Q : Int)) = (Z : Int) + (Q : Int) := by simp only [IntKind.wrap_i64]; omega
          obtain ⟨k, y, mg, t, c⟩ := e
          simp only [evV] at *
          clear hO hd hss hwin hge hjl
          go_wp2_with fail
          refine (HO1.out _).mono ?_
          rintro r w4 ⟨rfl, b4⟩
          have B4 := Lib.hid (up_trans HB.out b4)
          clear b4
          go_wp2_with fail
          refine (HSE.out _).mono ?_
          rintro r w5 ⟨rfl, b5⟩
          have B5 := Lib.hid (up_trans B4.out b5)
          clear b5 y0 y1 y2 y3 y4 B4 HO1 HSE
          go_wp2
          go_roundw
          case rel => exact ⟨j + 1, rfl, by rw [HSJ.out, Int.natCast_add], by omega, B5⟩
          case measure => simp [RowKit.intOf]; omega
        · obtain rfl : j = M := by omega
          have hsb := HSZ.out j (by rw [HNN.out]; omega)
          generalize hZZ : szT I j = Z at *
          have HZ := Lib.hid hZZ
          have BR := Lib.hid (up_trans B3.out HB.out)
          have HIR := Lib.hid (show Win wr 34 5 (.slice (some ⟨g, off, none⟩) (j + 1) c3) (j + 1) (evsC I) from HI3.out.keep fun k hk => HB.out.block k (HI3.out.lt k hk))
          have hzw : IntKind.i64.wrap ((Z : Int) - less) = (Z : Int) - less := by simp only [IntKind.wrap_i64]; omega
          clear hZZ hx0 HI3 HB
          by_cases hz1 : 2000 < Z
          · have hz2 : ((2000 : Int) < (Z : Int)) = True := by simp; omega
            go_wp2
            go_ret
            exact ⟨rfl, BR.out⟩
          · have hz2 : ((2000 : Int) < (Z : Int)) = False := by simp; omega
            by_cases hz3 : (Z : Int) - less < 0
            · have hz4 : ((Z : Int) - less < 0) = True := by simp; omega
              go_wp2
              go_ret
              exact ⟨rfl, BR.out⟩
            · have hz4 : ((Z : Int) - less < 0) = False := by simp; omega
              obtain ⟨LM, hLM⟩ : ∃ LM : Nat, (LM : Int) = (Z : Int) - less := ⟨((Z : Int) - less).toNat, by omega⟩
              generalize wr = wE at *
              have HN1 := Lib.hid (HN.out ((Z : Int) - less) wE)
              rw [show (min (max ((Z : Int) - less) 0) 2000).toNat = LM by omega] at HN1
              have HLM := Lib.hid (And.intro hLM hls)
              have hgt0 : ((Z : Int) - less < 0) = False := hz4
              clear hz1 hz3 HN hLM
              go_wp2_with fail
              refine HN1.out.mono ?_
              rintro r w6 ⟨b, rfl, h6⟩
              have H6 := Lib.hid h6
              have HI6 := Lib.hid (show Win w6 34 5 (.slice (some ⟨g, off, none⟩) (j + 1) c3) (j + 1) (evsC I) from HIR.out.keep fun k hk => h6.bel.block k (HIR.out.lt k hk))
              clear h6 HN1 HIR
              go_wp2
              go_loopw [11, 12, 13, 14, 15, 16, 17, 18, 85] (fun td _ _ _ _ _ _ _ i wr => ∃ (q t : Nat), i = .int .i64 q ∧ td = .int .i64 t ∧ q ≤ j + 1 ∧ Hid (Win wr 34 5 (.slice (some ⟨g, off, none⟩) (j + 1) c3) (j + 1) (evsC I) ∧ ((q < j + 1 ∧ t = 0 ∧ ∃ s, LimK I q s ∧ GK wE wr b LM s) ∨ (q = j + 1 ∧ t = j + 1 ∧ less = 0 ∧ GK wE wr b LM gs0)))) (fun _ _ _ _ _ _ _ _ i _ => j + 1 - (RowKit.intOf i).toNat)
              case atStart => exact ⟨0, 0, rfl, rfl, by omega, Lib.hid ⟨HI6.out, .inl ⟨by omega, rfl, gs0, .inl ⟨rfl, rfl⟩, H6.out⟩⟩⟩
              case round =>
                obtain ⟨q, td, rfl, rfl, hq, HG⟩ := hrel
                by_cases hqt : q < j + 1
                · obtain ⟨hwin, hgg⟩ := HG.out
                  obtain ⟨_, rfl, s, hLK, hG⟩ : q < j + 1 ∧ td = 0 ∧ ∃ s, LimK I q s ∧ GK wE wr b LM s := by
                    rcases hgg with h | h
                    · exact h
                    · omega
                  have hql : q < I.length := by rw [HNN.out]; exact hqt
                  obtain ⟨g', off', hA, hb, y0, y1, y2, y3, y4⟩ := (evs_win hwin (n := j + 1) (by rw [HNN.out]; exact Nat.le_refl _)).cells (i := q) hqt
                  injection hA with hA
                  injection hA with hg1 hg2
                  subst hg1 hg2
                  have hge : getE I q = I[q] := by simp [getE, hql]
                  rw [hge] at y0 y1 y2 y3 y4
                  have hd := (HDE.out q hql).1
                  have hstp := HLK2.out LM q s hLK hql
                  have hSTP := hG.step I[q] (docE_may hd) (by have := docG_size hd; omega)
                  have hwfs := hG.wf
                  have hmq := HSM.out (q + 1) j
                  have HWK := Lib.hid (fun (w4 : World) (hb : Below wr.heap.size wr w4) => (show Win w4 34 5 (.slice (some ⟨g, off, none⟩) (j + 1) c3) (j + 1) (evsC I) from hwin.keep fun k hk => hb.block k (hwin.lt k hk)))
                  have HGG := Lib.hid hG
                  have HLL := Lib.hid hLK
                  generalize hGr : stepG LM s I[q] = G at *
                  generalize I[q] = e at *
                  have hO := HO.out e
                  rw [if_pos (docE_may hd), decide_eq_true (docE_may hd)] at hO
                  have HO1 := Lib.hid hO
                  have HST := Lib.hid (fun W (h : GK wE W b LM s) => h.step e (docE_may hd) (by have := docG_size hd; omega))
                  rw [hGr] at HST
                  generalize valE e = V at *
                  obtain ⟨k, y, mg, t, c⟩ := e
                  simp only [evV] at *
                  have HSP := Lib.hid hstp
                  have HWF := Lib.hid hwfs
                  have HMQ := Lib.hid hmq
                  clear hO hd hwin hge hgg hSTP hstp hLK hG hwfs hmq hGr HG H6 HI6
                  go_wp2_with fail
                  refine (HO1.out _).mono ?_
                  rintro r w7 ⟨rfl, b7⟩
                  have HW7 := Lib.hid (HWK.out _ b7)
                  have H7 := Lib.hid (HST.out _ (HGG.out.go b7))
                  clear b7 HO1 HST HGG HWK y0 y1 y2 y3 y4
                  go_wp2_with fail
                  refine H7.out.mono ?_
                  rintro r w8 ⟨⟨v8, rfl, hv8⟩, h8, hoff⟩
                  obtain ⟨a8, c8, rfl⟩ := hv8.form
                  have HW8 := Lib.hid (show Win w8 34 5 (.slice (some ⟨g, off, none⟩) (j + 1) c3) (j + 1) (evsC I) from HW7.out.keep fun k hk => by
                    obtain ⟨cur, hc⟩ := HW7.out.typed k hk
                    exact (hoff _ _ _ _ hc (by decide)).trans hc.symm)
                  have H8 := Lib.hid h8.held
                  have H9 := Lib.hid h8
                  clear hv8 hoff h8 H7 HW7
                  rcases HSP.out with ⟨hq1, hov, rfl⟩ | ⟨hq1, hle, s', rfl, hLK'⟩ | ⟨hq1, h1q, L, H, op, rfl, rfl, hF⟩
                  · have hgt : (less > 0) = True := by
                      have h1 := HLM.out.1
                      have h2 := HMQ.out (by rw [HNN.out] at hq1; omega) (by rw [HNN.out]; omega)
                      rw [HZ.out] at h2
                      simp
                      omega
                    have hn0 : ((0 : Int) > (Z : Int) - less) = False := by
                      have h1 := HLM.out.1
                      simp
                      omega
                    simp only [heldG, List.length_nil] at H8 ⊢
                    clear hq1 hov
                    have HX := Lib.hid (HNIL.out _ _ _ _ H9.out)
                    go_wp2_with fail
                    refine H8.out.mono ?_
                    rintro r w10 ⟨rfl, rfl⟩
                    go_wp2_with fail
                    refine HX.out.mono ?_
                    rintro r w11 ⟨⟨v11, rfl, hv11⟩, h11, _⟩
                    obtain ⟨a11, c11, rfl⟩ := hv11.form
                    have H11 := Lib.hid h11.held
                    have H12 := Lib.hid h11.empty
                    have BE := Lib.hid (up_trans BR.out h11.bel)
                    simp only [stepG, heldG, emptyG, List.length_nil] at H11 H12 ⊢
                    clear hv11 h11 HX H9
                    go_wp2_with fail
                    refine H11.out.mono ?_
                    rintro r w12 ⟨rfl, rfl⟩
                    go_wp2_with fail
                    refine H12.out.mono ?_
                    rintro r w13 ⟨rfl, rfl⟩
                    go_wp2
                    go_ret
                    exact ⟨rfl, BE.out⟩
                  · have hhe := limK_held hLK'
                    simp only [hhe, List.length_nil] at H8 ⊢
                    have hn0 : ((szT I (q + 1) : Int) > (Z : Int) - less) = False := by
                      have h1 := HLM.out.1
                      simp
                      omega
                    have HR : Hid (Win w8 34 5 (.slice (some ⟨g, off, none⟩) (j + 1) c3) (j + 1) (evsC I) ∧ ((q + 1 < j + 1 ∧ 0 = 0 ∧ ∃ s, LimK I (q + 1) s ∧ GK wE w8 b LM s) ∨ (q + 1 = j + 1 ∧ 0 = j + 1 ∧ less = 0 ∧ GK wE w8 b LM gs0))) := Lib.hid ⟨HW8.out, .inl ⟨by rw [HNN.out] at hq1; exact hq1, rfl, s', hLK', H9.out⟩⟩
                    generalize szT I (q + 1) = Z1 at *
                    clear hhe hq1 hLK' hle
                    go_wp2_with fail
                    refine H8.out.mono ?_
                    rintro r w10 ⟨rfl, rfl⟩
                    go_wp2
                    go_roundw
                    case rel => exact ⟨q + 1, 0, rfl, rfl, by omega, Lib.hid (by simpa using HR.out)⟩
                    case measure => simp [RowKit.intOf]; omega
                  · have hle0 : less = 0 := by
                      have h1 := HLM.out
                      have h2 := HWF.out.1
                      rw [HNN.out] at hq1
                      have hqj : q = j := by omega
                      subst hqj
                      rw [HZ.out] at h2
                      omega
                    have hLl : L.length = j + 1 := by rw [hF.len, HNN.out]
                    have hqj : q = j := by rw [HNN.out] at hq1; omega
                    simp only [heldG, gs0] at H8 ⊢
                    rw [hLl]
                    have hn0 : ((0 : Int) > (Z : Int) - less) = False := by
                      have h1 := HLM.out.1
                      simp
                      omega
                    have HR : Hid (Win w8 34 5 (.slice (some ⟨g, off, none⟩) (j + 1) c3) (j + 1) (evsC I) ∧ ((q + 1 < j + 1 ∧ j + 1 = 0 ∧ ∃ s, LimK I (q + 1) s ∧ GK wE w8 b LM s) ∨ (q + 1 = j + 1 ∧ j + 1 = j + 1 ∧ less = 0 ∧ GK wE w8 b LM gs0))) := Lib.hid ⟨HW8.out, .inr ⟨by omega, rfl, hle0, H9.out⟩⟩
                    clear hF hq1 h1q hle0 hLl
                    go_wp2_with fail
                    refine H8.out.mono ?_
                    rintro r w10 ⟨rfl, rfl⟩
                    go_wp2
                    go_roundw
                    case rel => exact ⟨q + 1, j + 1, by rw [hqj]; rfl, by simp, by omega, Lib.hid (by simpa using HR.out)⟩
                    case measure => simp [RowKit.intOf]; omega
                · obtain ⟨_, rfl, rfl, hG⟩ : q = j + 1 ∧ td = j + 1 ∧ less = 0 ∧ GK wE wr b LM gs0 := by
                    rcases HG.out.2 with h | h
                    · omega
                    · exact h
                  have BE := Lib.hid (up_trans BR.out hG.bel)
                  obtain rfl : q = j + 1 := by omega
                  clear hG
                  go_wp2
                  go_ret
                  exact ⟨rfl, BE.out⟩
  · have hkd : (I[0].k != 5) = true ∧ (I[0].k != 6) = true := by
      constructor <;> simp <;> omega
    generalize I[0].k = K0 at *
    obtain ⟨hk1, hk2⟩ := hkd
    clear HLK hkk hb
    go_wp2
    go_ret
    exact ⟨rfl, B3.out⟩
set_option maxRecDepth 100000 in
set_option maxHeartbeats 4000000 in
theorem glimits_row (A : Option Addr) (n cp : Nat) (Li : Nat → Int) (less : Int) (w : World) (hL : DLAt w w.heap.size A n Li) :
    Calls Try.prog 5 #[.slice A n cp, .int .i64 less] w fun r w' => r = .returned (.bool true) ∧ Below w.heap.size w w' := by
  have HA := Lib.hid (galive_any w)
  by_cases hn : n ≤ 60
  · have t1 : ((60 : Int) < (n : Int)) = False := by simp; omega
    by_cases h1 : less < 0
    · have t2 : (less < 0) = True := by simp [h1]
      clear hL hn h1
      go_enter Try.func5, Try.ntmps5
      go_wp2_with fail
      refine HA.out.mono ?_
      rintro r w1 ⟨rfl, b1⟩
      have B1 := Lib.hid b1
      clear b1
      go_wp2
      go_ret
      exact ⟨rfl, B1.out⟩
    · by_cases h2 : 20 < less
      · have t2 : (less < 0) = False := by simp; omega
        have t3 : (20 < less) = True := by simp [h2]
        clear hL hn h1 h2
        go_enter Try.func5, Try.ntmps5
        go_wp2_with fail
        refine HA.out.mono ?_
        rintro r w1 ⟨rfl, b1⟩
        have B1 := Lib.hid b1
        clear b1
        go_wp2
        go_ret
        exact ⟨rfl, B1.out⟩
      · exact glimits_in A n cp Li less w hL hn ⟨by omega, by omega⟩
  · have t1 : ((60 : Int) < (n : Int)) = True := by simp; omega
    clear hL hn
    go_enter Try.func5, Try.ntmps5
    go_wp2_with fail
    refine HA.out.mono ?_
    rintro r w1 ⟨rfl, b1⟩
    have B1 := Lib.hid b1
    clear b1
    go_wp2
    go_ret
    exact ⟨rfl, B1.out⟩
end Go.Proofs.Ytkfidnfnehnhoaa
