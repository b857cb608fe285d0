/-
  LAWS of chapter 16: PackoutRefuses.
-/
import Derived.Test.YtonjdnahplphhaaG2a
/-
  LAWS of chapter 16: PackoutRefuses.
-/
namespace Go.Proofs.Ytonjdnahplphhaa
open Go.RowKit
open Go.Lib
theorem rstr_none (W : World) : Calls Try.prog 39 #[.iface 9 (.string ⟨#[110, 111, 32, 112, 97, 114, 116]⟩)] W fun r w' => r = .returned (.tuple #[evV evZ, .bool false]) ∧ Below W.heap.size W w' :=
  plain_other 9 (by decide) (by decide) (by decide) (by decide) (by decide) (by decide) _ W
set_option maxRecDepth 100000 in
set_option maxHeartbeats 16000000 in
theorem rrefuses_in (A : Option Addr) (n cp : Nat) (Li : Nat → Int) (at_ : Int) (e : Ev) (hok : EvOk e) (w : World) (hT : NoTaR w) (hL : DLAt w w.heap.size A n Li) (hn : n ≤ 50) (ht : e.t.size ≤ 100) :
    Calls Try.prog 4 #[.slice A n cp, .int .i64 at_, evV e] w fun r w' => r = .returned (.bool true) ∧ Below w.heap.size w w' := by
  have t1 : ((50 : Int) < (n : Int)) = False := by simp; omega
  have t2 : ((100 : Int) < (e.t.size : Int)) = False := by simp; omega
  have HA : Hid (∀ X, Calls Try.prog 10 #[] (w.alloc X) fun r w' => r = .returned (.bool true) ∧ Below (w.alloc X).heap.size (w.alloc X) w') := Lib.hid (fun X => roalive_any _ (hT.alloc X))
  have HO := Lib.hid (fun W => of_any e W)
  have HTD := Lib.hid (fun W => tidy_ref e W)
  have HPT := Lib.hid (fun (w5 wq : World) L i q (h : RPrI w5 wq L i q) (hi : i ≤ 700) => h.tells hi e hok (by omega))
  have hrun := doc_runP n Li 6 (by omega)
  have hde := doc_e n Li 6
  have hlen := item_length n Li 6
  have HDOC := Lib.hid (fun W (h : DLAt W W.heap.size A n Li) => doc_any A n cp Li 6 W h (by omega) (by omega) (cap16 6 (by omega)))
  have HLI := Lib.hid hL
  generalize (itemD n Li 6 0).1 = I at *
  have HRUN := Lib.hid hrun
  have HDE := Lib.hid hde
  obtain ⟨N, hN⟩ : ∃ N, I.length = N := ⟨_, rfl⟩
  rw [hN] at HDOC hlen
  have HN := Lib.hid hN
  have hN482 : N ≤ 482 := by omega
  have hN1 : ((N : Int) == 0) = false := by rw [beq_eq_false_iff_ne]; omega
  obtain ⟨K, hK, hrem⟩ := rem_place at_ N (by omega) (by omega)
  have HT : Hid (∀ X, NoTaR (w.alloc X)) := Lib.hid (fun X => hT.alloc X)
  have H2 : Hid (∀ (hm : mayE e) (U W : World) b F q n0 (hq : stepR q e = (([], n0), q)) (hU : NoTaR U) (hs : q.s.length ≤ 900) (h : PoW U W b F q), Calls Try.prog 12 #[.pointer (some ⟨b, 0, none⟩), valE e] W fun r w' => r = .returned (.tuple #[.string ⟨#[]⟩, .int .i64 (n0 : Nat)]) ∧ ∃ F', PoW U w' b F' q ∧ Jf b 0 F F' W w') :=
    Lib.hid (fun hm U W b F q n0 hq hU hs h => pow_to h hU hs e hm hok (by omega) hq (v := valE e) rfl)
  have H3 : Hid (∀ (U W : World) b F q (h : PoW U W b F q), Calls Try.prog 12 #[.pointer (some ⟨b, 0, none⟩), .iface 9 (.string ⟨#[110, 111, 32, 112, 97, 114, 116]⟩)] W fun r w' => r = .returned (.tuple #[.string ⟨#[]⟩, .int .i64 14]) ∧ ∃ F', PoW U w' b F' q ∧ Jf b 0 F F' W w') :=
    Lib.hid (fun U W b F q h => (ro_other h.at_ _ evZ (fun W => rstr_none W)).mono (by
      rintro r w' ⟨h1, h2, h3⟩
      exact ⟨h1, F, h.next h2 h3, h3⟩))
  have hsb : ¬ mayE e → ∀ q, stepR q e = (([], 14), q) := fun hm q => stepR_bad q e (.inl hm)
  obtain ⟨T, hTe⟩ : ∃ T, tidyE e = T := ⟨_, rfl⟩
  rw [hTe] at HTD HPT
  obtain ⟨ER, hER⟩ : ∃ ER : Kq → Nat, (fun q => (stepR q e).1.2) = ER := ⟨_, rfl⟩
  have hERq : ∀ q, (stepR q e).1.2 = ER q := fun q => by rw [← hER]
  simp only [hERq] at HPT
  obtain ⟨V, hV⟩ : ∃ V, valE e = V := ⟨_, rfl⟩
  rw [hV] at HO H2
  by_cases hm : mayE e
  · rw [if_pos hm, decide_eq_true hm] at HO
    have HST : Hid (∀ (U W : World) b F q (h0 : ER q ≠ 0) (hU : NoTaR U) (hs : q.s.length ≤ 900) (h : PoW U W b F q), Calls Try.prog 12 #[.pointer (some ⟨b, 0, none⟩), V] W fun r w' => r = .returned (.tuple #[.string ⟨#[]⟩, .int .i64 (ER q : Nat)]) ∧ ∃ F', PoW U w' b F' q ∧ Jf b 0 F F' W w') := Lib.hid (fun U W b F q h0 hU hs h => by
      have h1 := hERq q
      have hse := rstep_err_nil (q := q) (e := e) (by rw [h1]; exact h0)
      rw [h1] at hse
      exact H2.out hm U W b F q _ hse hU hs h)
    obtain ⟨k, y, m, t, c⟩ := e
    obtain ⟨k1, y1, m1, t1', c1'⟩ := T
    simp only [evV] at *
    have E0 := Lib.hid (blk_new w #[.int .i64 k, .bool y, .int .u64 m, .string t, .int .i64 c] 35)
    clear hT hrun hde hlen hN hL hn hok ht hsb hTe hV H2 H3 hERq hER hm
    go_enter Try.func4, Try.ntmps4
    go_wp2_with fail
    refine (HA.out _).mono ?_
    rintro r w1 ⟨rfl, b1⟩
    have B1 := Lib.hid b1
    have HL1 := Lib.hid (show DLAt w1 w1.heap.size A n Li from fun h0 => by
      obtain ⟨b, off, h1, h2, h3⟩ := HLI.out.below (up_trans (up_alloc (Below.refl _ _) _) b1) h0
      exact ⟨b, off, h1, Nat.lt_of_lt_of_le h2 (up_trans (up_alloc (Below.refl w.heap.size w) _) b1).size, h3⟩)
    clear b1
    go_wp2_with fail
    refine (HDOC.out _ HL1.out).mono ?_
    rintro r w2 ⟨v2, rfl, hM2⟩
    obtain ⟨a2, c2, rfl, _, _⟩ := hM2.2.1.slice_form
    have B2 := Lib.hid (up_trans B1.out hM2.1)
    have HE2 := Lib.hid (evs_win hM2.2.1 (n := N) (by rw [HN.out]; exact Nat.le_refl _))
    clear hM2
    have BW := Lib.hid (up_trans (up_alloc (Below.refl w.heap.size w) (.cells #[.int .i64 k, .bool y, .int .u64 m, .string t, .int .i64 c] 35)) B2.out)
    have TW := Lib.hid ((HT.out (.cells #[.int .i64 k, .bool y, .int .u64 m, .string t, .int .i64 c] 35)).below B2.out)
    have E2 := Lib.hid (E0.out.go B2.out)
    have H0 : Hid (RRefI w2 ((w2.alloc (.cells #[.slice none 0 0, .bool false] 28)).alloc (.cells #[.slice none 0 0, .bool false] 28)) I 0 ⟨[], false⟩ [] []) := Lib.hid ⟨twor_new w2, rfl, by simp⟩
    clear E0 B1 B2 HL1
    go_wp2
    go_loopw [11, 12, 13, 14, 15, 16, 17, 18, 19, 20, 21, 22, 23, 24, 25, 58] (fun _ _ _ _ _ _ _ _ _ _ _ _ _ _ _ i wr => ∃ (j : Nat) (q : Kq) (F1 F2 : List Nat), i = .int .i64 j ∧ j ≤ N ∧ Hid (RRefI w2 wr I j q F1 F2)) (fun _ _ _ _ _ _ _ _ _ _ _ _ _ _ _ i _ => N - (RowKit.intOf i).toNat)
    case atStart => exact ⟨0, _, _, _, rfl, by omega, H0⟩
    case round =>
      obtain ⟨j, q, F1, F2, rfl, hj, HI⟩ := hrel
      clear H0
      by_cases hlt : j < N
      · have hjL : j < I.length := by rw [HN.out]; exact hlt
        obtain ⟨l1, l2, l3⟩ := HI.out.live HRUN.out hjL
        have hE := HDE.out _ (List.getElem_mem hjL)
        have hdep : q.s.length ≤ 900 := by have := HI.out.dep; omega
        have hst := HI.out.st
        have HOj := Lib.hid (fun W => of_any I[j] W)
        rw [if_pos (docE_may hE), decide_eq_true (docE_may hE)] at HOj
        have HCE := Lib.hid (fun W' (kb : Below w2.heap.size w2 W') => (HE2.out.below kb).cells hlt)
        have hge : getE I j = I[j] := by simp [getE, hjL]
        rw [hge] at HCE
        have HSL : Hid (∀ W' G1 G2, TwoR w2 W' w2.heap.size (w2.heap.size + 1) G1 G2 q q → Calls Try.prog 12 #[.pointer (some ⟨w2.heap.size, 0, none⟩), valE I[j]] W' fun r w' => r = .returned (.tuple #[.string ⟨(stepR q I[j]).1.1.toArray⟩, .int .i64 0]) ∧ ∃ G1', TwoR w2 w' w2.heap.size (w2.heap.size + 1) G1' G2 (stepR q I[j]).2 q) := Lib.hid (fun W' G1 G2 h => by
          have hs := pov_step h.one TW.out hdep I[j] (docE_may hE) (docE_small hE).1 (docE_small hE).2
          rw [l2] at hs
          refine hs.mono ?_
          rintro r w' ⟨h1, F', h2, h3⟩
          exact ⟨h1, F', h.left h2 h3⟩)
        have HSR : Hid (∀ W' G1 G2, TwoR w2 W' w2.heap.size (w2.heap.size + 1) G1 G2 (stepR q I[j]).2 q → Calls Try.prog 12 #[.pointer (some ⟨w2.heap.size + 1, 0, none⟩), valE I[j]] W' fun r w' => r = .returned (.tuple #[.string ⟨(stepR q I[j]).1.1.toArray⟩, .int .i64 0]) ∧ ∃ G2', RRefI w2 w' I (j + 1) (stepR q I[j]).2 G1 G2') := Lib.hid (fun W' G1 G2 h => by
          have hs := pov_step h.two TW.out hdep I[j] (docE_may hE) (docE_small hE).1 (docE_small hE).2
          rw [l2] at hs
          refine hs.mono ?_
          rintro r w' ⟨h1, F', h2, h3⟩
          exact ⟨h1, F', h.right h2 h3, l3, by have := rstep_len q I[j]; have := HI.out.dep; omega⟩)
        generalize valE I[j] = Vj at HOj HSL HSR
        generalize (⟨(stepR q I[j]).1.1.toArray⟩ : ByteArray) = Zj at HSL HSR
        generalize (stepR q I[j]).2 = qj at HSL HSR
        generalize I[j] = ej at HOj HCE
        obtain ⟨k', y', m', t', c'⟩ := ej
        simp only [evV] at HCE HOj
        have hz1 : (Zj.toList != Zj.toList) = false := by simp
        have hz2 : (Zj.toList == Zj.toList) = true := by simp
        clear l1 l2 l3 hE hge
        by_cases hjK : j = K
        · subst hjK
          have hjk2 : ((j : Int) == (j : Int)) = true := by simp
          obtain ⟨⟨z0, z1, z2, z3, z4⟩, ⟨y0, y1, y2, y3, y4⟩⟩ := (E2.out.go HI.out.two.one.bel).ev
          have HST0 := Lib.hid hst
          clear hst
          go_wp2_with fail
          refine (HO.out _).mono ?_
          rintro r w3 ⟨rfl, b3⟩
          have I3 := Lib.hid (HI.out.go b3)
          have P0 := Lib.hid (rpr_new w3 I)
          clear b3 z0 z1 z2 z3 z4 y0 y1 y2 y3 y4
          go_wp2
          go_loopw [15] (fun ii wq => ∃ (i : Nat) (qi : Kq), ii = .int .i64 i ∧ i ≤ j ∧ Hid (RPrI w3 wq I i qi)) (fun ii _ => j - (RowKit.intOf ii).toNat)
          case atStart => exact ⟨0, _, rfl, by omega, P0⟩
          case round =>
            obtain ⟨i, qi, rfl, hi, HP⟩ := hrel
            clear P0
            by_cases hli : i < j
            · have hiL : i < I.length := by omega
              have HPS := Lib.hid (HP.out.step HRUN.out hiL (by omega) (HDE.out _ (List.getElem_mem hiL)))
              obtain ⟨g, off, ha2, hgb, x0, x1, x2, x3, x4⟩ := (HE2.out.below (I3.out.two.one.bel.trans (HP.out.bel.mono I3.out.two.one.bel.size))).cells (by omega : i < N)
              subst ha2
              have hgb2 : g < wr.heap.size := Nat.lt_of_lt_of_le hgb (I3.out.two.one.bel.trans (HP.out.bel.mono I3.out.two.one.bel.size)).size
              have hge : getE I i = I[i] := by simp [getE, hiL]
              rw [hge] at x0 x1 x2 x3 x4
              generalize (stepR qi I[i]).2 = qn at HPS
              generalize I[i] = ei at HPS x0 x1 x2 x3 x4
              obtain ⟨k2, y2, m2, t2', c2'⟩ := ei
              simp only [evV] at x0 x1 x2 x3 x4 HPS
              clear hge hgb hiL
              go_wp2_with fail
              refine HPS.out.mono ?_
              rintro r w4 ⟨v4, rfl, h4⟩
              have P4 := Lib.hid h4
              clear h4
              go_wp2
              go_roundw
              case rel => exact ⟨i + 1, _, rfl, by omega, P4⟩
              case measure => simp [RowKit.intOf]; omega
            · obtain rfl : j = i := by omega
              obtain rfl : qi = q := HP.out.st.trans HST0.out.symm
              obtain ⟨⟨z0, z1, z2, z3, z4⟩, ⟨y0, y1, y2, y3, y4⟩⟩ := (E2.out.go (I3.out.two.one.bel.trans (HP.out.bel.mono I3.out.two.one.bel.size))).ev
              have HP6 := Lib.hid (fun W' (kb : Below wr.heap.size wr W') => HPT.out w3 W' I j qi (HP.out.go kb) (by omega))
              have HS7 := Lib.hid (fun W' F (h0 : ER qi ≠ 0) (h : PoW w2 W' w2.heap.size F qi) => HST.out w2 W' w2.heap.size F qi h0 TW.out hdep h)
              obtain ⟨n0, hn0⟩ : ∃ n0, ER qi = n0 := ⟨_, rfl⟩
              rw [hn0] at HP6 HS7
              go_wp2_with fail
              refine (HTD.out _).mono ?_
              rintro r w5 ⟨rfl, b5⟩
              have B5 := Lib.hid b5
              clear b5 z0 z1 z2 z3 z4 y0 y1 y2 y3 y4
              by_cases h0 : n0 = 0
              · subst h0
                go_wp2_with fail
                refine (HP6.out _ B5.out).mono ?_
                rintro r w6 ⟨Z6, rfl, b6⟩
                have J3 := Lib.hid (I3.out.two.go b6)
                clear b6
                obtain ⟨g, off, ha2, hgb, x0, x1, x2, x3, x4⟩ := HCE.out _ J3.out.one.bel
                subst ha2
                have hgb2 := Nat.lt_of_lt_of_le hgb J3.out.one.bel.size
                clear hgb
                go_wp2_with fail
                refine (HOj.out _).mono ?_
                rintro r w11 ⟨rfl, b11⟩
                have J11 := Lib.hid (J3.out.go b11)
                clear b11
                go_wp2_with fail
                refine (HSL.out _ _ _ J11.out).mono ?_
                rintro r w12 ⟨rfl, F12, h12⟩
                have J12 := Lib.hid h12
                clear h12
                go_wp2_with fail
                refine (HSR.out _ _ _ J12.out).mono ?_
                rintro r w13 ⟨rfl, F13, h13⟩
                have J13 := Lib.hid h13
                clear h13
                go_wp2
                go_roundw
                case rel => exact ⟨j + 1, _, _, _, rfl, hlt, J13⟩
                case measure => simp [RowKit.intOf]; omega
              · have hn1 : ((n0 : Int) != 0) = true := by simp; omega
                have hn2 : ((n0 : Int) != (n0 : Int)) = false := by simp
                go_wp2_with fail
                refine (HP6.out _ B5.out).mono ?_
                rintro r w6 ⟨Z6, rfl, b6⟩
                have J6 := Lib.hid (I3.out.two.go b6)
                clear b6
                go_wp2_with fail
                refine (HS7.out _ _ h0 J6.out.one).mono ?_
                rintro r w7 ⟨rfl, F7, j7, f7⟩
                have J3 := Lib.hid (J6.out.left j7 f7)
                clear j7 f7
                obtain ⟨g, off, ha2, hgb, x0, x1, x2, x3, x4⟩ := HCE.out _ J3.out.one.bel
                subst ha2
                have hgb2 := Nat.lt_of_lt_of_le hgb J3.out.one.bel.size
                clear hgb
                go_wp2_with fail
                refine (HOj.out _).mono ?_
                rintro r w11 ⟨rfl, b11⟩
                have J11 := Lib.hid (J3.out.go b11)
                clear b11
                go_wp2_with fail
                refine (HSL.out _ _ _ J11.out).mono ?_
                rintro r w12 ⟨rfl, F12, h12⟩
                have J12 := Lib.hid h12
                clear h12
                go_wp2_with fail
                refine (HSR.out _ _ _ J12.out).mono ?_
                rintro r w13 ⟨rfl, F13, h13⟩
                have J13 := Lib.hid h13
                clear h13
                go_wp2
                go_roundw
                case rel => exact ⟨j + 1, _, _, _, rfl, hlt, J13⟩
                case measure => simp [RowKit.intOf]; omega
        · have hjk2 : ((j : Int) == (K : Int)) = false := by rw [beq_eq_false_iff_ne]; omega
          obtain ⟨g, off, ha2, hgb, x0, x1, x2, x3, x4⟩ := HCE.out wr HI.out.two.one.bel
          subst ha2
          have hgb2 : g < wr.heap.size := Nat.lt_of_lt_of_le hgb HI.out.two.one.bel.size
          have J3 := Lib.hid HI.out.two
          clear hgb hjL hst hdep
          go_wp2_with fail
          refine (HOj.out _).mono ?_
          rintro r w11 ⟨rfl, b11⟩
          have J11 := Lib.hid (J3.out.go b11)
          clear b11
          go_wp2_with fail
          refine (HSL.out _ _ _ J11.out).mono ?_
          rintro r w12 ⟨rfl, F12, h12⟩
          have J12 := Lib.hid h12
          clear h12
          go_wp2_with fail
          refine (HSR.out _ _ _ J12.out).mono ?_
          rintro r w13 ⟨rfl, F13, h13⟩
          have J13 := Lib.hid h13
          clear h13
          go_wp2
          go_roundw
          case rel => exact ⟨j + 1, _, _, _, rfl, hlt, J13⟩
          case measure => simp [RowKit.intOf]; omega
      · obtain rfl : j = N := by omega
        have hq := HI.out.over HRUN.out (by rw [HN.out]; exact Nat.le_refl _)
        subst hq
        go_wp2_with fail
        refine (doneR HI.out.two.one.at_).mono ?_
        rintro r w3 ⟨rfl, rfl⟩
        go_wp2_with fail
        refine (doneR HI.out.two.two.at_).mono ?_
        rintro r w4 ⟨rfl, rfl⟩
        go_wp2
        go_ret
        exact ⟨rfl, up_trans BW.out HI.out.two.one.bel⟩
  · rw [if_neg hm, decide_eq_false hm] at HO
    have HSE : Hid (∀ q, ER q = 14) := Lib.hid (fun q => by rw [← hERq q, hsb hm q])
    have HST : Hid (∀ (U W : World) b F q (h0 : ER q ≠ 0) (hU : NoTaR U) (hs : q.s.length ≤ 900) (h : PoW U W b F q), Calls Try.prog 12 #[.pointer (some ⟨b, 0, none⟩), .iface 9 (.string ⟨#[110, 111, 32, 112, 97, 114, 116]⟩)] W fun r w' => r = .returned (.tuple #[.string ⟨#[]⟩, .int .i64 (ER q : Nat)]) ∧ ∃ F', PoW U w' b F' q ∧ Jf b 0 F F' W w') := Lib.hid (fun U W b F q h0 hU hs h => by
      rw [HSE.out q]
      exact H3.out U W b F q h)
    obtain ⟨k, y, m, t, c⟩ := e
    obtain ⟨k1, y1, m1, t1', c1'⟩ := T
    simp only [evV] at *
    have E0 := Lib.hid (blk_new w #[.int .i64 k, .bool y, .int .u64 m, .string t, .int .i64 c] 35)
    clear hT hrun hde hlen hN hL hn hok ht hsb hTe hV H2 H3 hERq hER hm V
    go_enter Try.func4, Try.ntmps4
    go_wp2_with fail
    refine (HA.out _).mono ?_
    rintro r w1 ⟨rfl, b1⟩
    have B1 := Lib.hid b1
    have HL1 := Lib.hid (show DLAt w1 w1.heap.size A n Li from fun h0 => by
      obtain ⟨b, off, h1, h2, h3⟩ := HLI.out.below (up_trans (up_alloc (Below.refl _ _) _) b1) h0
      exact ⟨b, off, h1, Nat.lt_of_lt_of_le h2 (up_trans (up_alloc (Below.refl w.heap.size w) _) b1).size, h3⟩)
    clear b1
    go_wp2_with fail
    refine (HDOC.out _ HL1.out).mono ?_
    rintro r w2 ⟨v2, rfl, hM2⟩
    obtain ⟨a2, c2, rfl, _, _⟩ := hM2.2.1.slice_form
    have B2 := Lib.hid (up_trans B1.out hM2.1)
    have HE2 := Lib.hid (evs_win hM2.2.1 (n := N) (by rw [HN.out]; exact Nat.le_refl _))
    clear hM2
    have BW := Lib.hid (up_trans (up_alloc (Below.refl w.heap.size w) (.cells #[.int .i64 k, .bool y, .int .u64 m, .string t, .int .i64 c] 35)) B2.out)
    have TW := Lib.hid ((HT.out (.cells #[.int .i64 k, .bool y, .int .u64 m, .string t, .int .i64 c] 35)).below B2.out)
    have E2 := Lib.hid (E0.out.go B2.out)
    have H0 : Hid (RRefI w2 ((w2.alloc (.cells #[.slice none 0 0, .bool false] 28)).alloc (.cells #[.slice none 0 0, .bool false] 28)) I 0 ⟨[], false⟩ [] []) := Lib.hid ⟨twor_new w2, rfl, by simp⟩
    clear E0 B1 B2 HL1
    go_wp2
    go_loopw [11, 12, 13, 14, 15, 16, 17, 18, 19, 20, 21, 22, 23, 24, 25, 58] (fun _ _ _ _ _ _ _ _ _ _ _ _ _ _ _ i wr => ∃ (j : Nat) (q : Kq) (F1 F2 : List Nat), i = .int .i64 j ∧ j ≤ N ∧ Hid (RRefI w2 wr I j q F1 F2)) (fun _ _ _ _ _ _ _ _ _ _ _ _ _ _ _ i _ => N - (RowKit.intOf i).toNat)
    case atStart => exact ⟨0, _, _, _, rfl, by omega, H0⟩
    case round =>
      obtain ⟨j, q, F1, F2, rfl, hj, HI⟩ := hrel
      clear H0
      by_cases hlt : j < N
      · have hjL : j < I.length := by rw [HN.out]; exact hlt
        obtain ⟨l1, l2, l3⟩ := HI.out.live HRUN.out hjL
        have hE := HDE.out _ (List.getElem_mem hjL)
        have hdep : q.s.length ≤ 900 := by have := HI.out.dep; omega
        have hst := HI.out.st
        have HOj := Lib.hid (fun W => of_any I[j] W)
        rw [if_pos (docE_may hE), decide_eq_true (docE_may hE)] at HOj
        have HCE := Lib.hid (fun W' (kb : Below w2.heap.size w2 W') => (HE2.out.below kb).cells hlt)
        have hge : getE I j = I[j] := by simp [getE, hjL]
        rw [hge] at HCE
        have HSL : Hid (∀ W' G1 G2, TwoR w2 W' w2.heap.size (w2.heap.size + 1) G1 G2 q q → Calls Try.prog 12 #[.pointer (some ⟨w2.heap.size, 0, none⟩), valE I[j]] W' fun r w' => r = .returned (.tuple #[.string ⟨(stepR q I[j]).1.1.toArray⟩, .int .i64 0]) ∧ ∃ G1', TwoR w2 w' w2.heap.size (w2.heap.size + 1) G1' G2 (stepR q I[j]).2 q) := Lib.hid (fun W' G1 G2 h => by
          have hs := pov_step h.one TW.out hdep I[j] (docE_may hE) (docE_small hE).1 (docE_small hE).2
          rw [l2] at hs
          refine hs.mono ?_
          rintro r w' ⟨h1, F', h2, h3⟩
          exact ⟨h1, F', h.left h2 h3⟩)
        have HSR : Hid (∀ W' G1 G2, TwoR w2 W' w2.heap.size (w2.heap.size + 1) G1 G2 (stepR q I[j]).2 q → Calls Try.prog 12 #[.pointer (some ⟨w2.heap.size + 1, 0, none⟩), valE I[j]] W' fun r w' => r = .returned (.tuple #[.string ⟨(stepR q I[j]).1.1.toArray⟩, .int .i64 0]) ∧ ∃ G2', RRefI w2 w' I (j + 1) (stepR q I[j]).2 G1 G2') := Lib.hid (fun W' G1 G2 h => by
          have hs := pov_step h.two TW.out hdep I[j] (docE_may hE) (docE_small hE).1 (docE_small hE).2
          rw [l2] at hs
          refine hs.mono ?_
          rintro r w' ⟨h1, F', h2, h3⟩
          exact ⟨h1, F', h.right h2 h3, l3, by have := rstep_len q I[j]; have := HI.out.dep; omega⟩)
        generalize valE I[j] = Vj at HOj HSL HSR
        generalize (⟨(stepR q I[j]).1.1.toArray⟩ : ByteArray) = Zj at HSL HSR
        generalize (stepR q I[j]).2 = qj at HSL HSR
        generalize I[j] = ej at HOj HCE
        obtain ⟨k', y', m', t', c'⟩ := ej
        simp only [evV] at HCE HOj
        have hz1 : (Zj.toList != Zj.toList) = false := by simp
        have hz2 : (Zj.toList == Zj.toList) = true := by simp
        clear l1 l2 l3 hE hge
        by_cases hjK : j = K
        · subst hjK
          have hjk2 : ((j : Int) == (j : Int)) = true := by simp
          obtain ⟨⟨z0, z1, z2, z3, z4⟩, ⟨y0, y1, y2, y3, y4⟩⟩ := (E2.out.go HI.out.two.one.bel).ev
          have HST0 := Lib.hid hst
          clear hst
          go_wp2_with fail
          refine (HO.out _).mono ?_
          rintro r w3 ⟨rfl, b3⟩
          have I3 := Lib.hid (HI.out.go b3)
          have P0 := Lib.hid (rpr_new w3 I)
          clear b3 z0 z1 z2 z3 z4 y0 y1 y2 y3 y4
          go_wp2
          go_loopw [15] (fun ii wq => ∃ (i : Nat) (qi : Kq), ii = .int .i64 i ∧ i ≤ j ∧ Hid (RPrI w3 wq I i qi)) (fun ii _ => j - (RowKit.intOf ii).toNat)
          case atStart => exact ⟨0, _, rfl, by omega, P0⟩
          case round =>
            obtain ⟨i, qi, rfl, hi, HP⟩ := hrel
            clear P0
            by_cases hli : i < j
            · have hiL : i < I.length := by omega
              have HPS := Lib.hid (HP.out.step HRUN.out hiL (by omega) (HDE.out _ (List.getElem_mem hiL)))
              obtain ⟨g, off, ha2, hgb, x0, x1, x2, x3, x4⟩ := (HE2.out.below (I3.out.two.one.bel.trans (HP.out.bel.mono I3.out.two.one.bel.size))).cells (by omega : i < N)
              subst ha2
              have hgb2 : g < wr.heap.size := Nat.lt_of_lt_of_le hgb (I3.out.two.one.bel.trans (HP.out.bel.mono I3.out.two.one.bel.size)).size
              have hge : getE I i = I[i] := by simp [getE, hiL]
              rw [hge] at x0 x1 x2 x3 x4
              generalize (stepR qi I[i]).2 = qn at HPS
              generalize I[i] = ei at HPS x0 x1 x2 x3 x4
              obtain ⟨k2, y2, m2, t2', c2'⟩ := ei
              simp only [evV] at x0 x1 x2 x3 x4 HPS
              clear hge hgb hiL
              go_wp2_with fail
              refine HPS.out.mono ?_
              rintro r w4 ⟨v4, rfl, h4⟩
              have P4 := Lib.hid h4
              clear h4
              go_wp2
              go_roundw
              case rel => exact ⟨i + 1, _, rfl, by omega, P4⟩
              case measure => simp [RowKit.intOf]; omega
            · obtain rfl : j = i := by omega
              obtain rfl : qi = q := HP.out.st.trans HST0.out.symm
              obtain ⟨⟨z0, z1, z2, z3, z4⟩, ⟨y0, y1, y2, y3, y4⟩⟩ := (E2.out.go (I3.out.two.one.bel.trans (HP.out.bel.mono I3.out.two.one.bel.size))).ev
              have HP6 := Lib.hid (fun W' (kb : Below wr.heap.size wr W') => HPT.out w3 W' I j qi (HP.out.go kb) (by omega))
              have HS7 := Lib.hid (fun W' F (h0 : ER qi ≠ 0) (h : PoW w2 W' w2.heap.size F qi) => HST.out w2 W' w2.heap.size F qi h0 TW.out hdep h)
              have hn0 : ER qi = 14 := HSE.out qi
              rw [hn0] at HP6 HS7
              go_wp2_with fail
              refine (HTD.out _).mono ?_
              rintro r w5 ⟨rfl, b5⟩
              have B5 := Lib.hid b5
              clear b5 z0 z1 z2 z3 z4 y0 y1 y2 y3 y4
              go_wp2_with fail
              refine (HP6.out _ B5.out).mono ?_
              rintro r w6 ⟨Z6, rfl, b6⟩
              have J6 := Lib.hid (I3.out.two.go b6)
              clear b6
              go_wp2_with fail
              refine (HS7.out _ _ (by omega) J6.out.one).mono ?_
              rintro r w7 ⟨rfl, F7, j7, f7⟩
              have J3 := Lib.hid (J6.out.left j7 f7)
              clear j7 f7
              obtain ⟨g, off, ha2, hgb, x0, x1, x2, x3, x4⟩ := HCE.out _ J3.out.one.bel
              subst ha2
              have hgb2 := Nat.lt_of_lt_of_le hgb J3.out.one.bel.size
              clear hgb
              go_wp2_with fail
              refine (HOj.out _).mono ?_
              rintro r w11 ⟨rfl, b11⟩
              have J11 := Lib.hid (J3.out.go b11)
              clear b11
              go_wp2_with fail
              refine (HSL.out _ _ _ J11.out).mono ?_
              rintro r w12 ⟨rfl, F12, h12⟩
              have J12 := Lib.hid h12
              clear h12
              go_wp2_with fail
              refine (HSR.out _ _ _ J12.out).mono ?_
              rintro r w13 ⟨rfl, F13, h13⟩
              have J13 := Lib.hid h13
              clear h13
              go_wp2
              go_roundw
              case rel => exact ⟨j + 1, _, _, _, rfl, hlt, J13⟩
              case measure => simp [RowKit.intOf]; omega
        · have hjk2 : ((j : Int) == (K : Int)) = false := by rw [beq_eq_false_iff_ne]; omega
          obtain ⟨g, off, ha2, hgb, x0, x1, x2, x3, x4⟩ := HCE.out wr HI.out.two.one.bel
          subst ha2
          have hgb2 : g < wr.heap.size := Nat.lt_of_lt_of_le hgb HI.out.two.one.bel.size
          have J3 := Lib.hid HI.out.two
          clear hgb hjL hst hdep
          go_wp2_with fail
          refine (HOj.out _).mono ?_
          rintro r w11 ⟨rfl, b11⟩
          have J11 := Lib.hid (J3.out.go b11)
          clear b11
          go_wp2_with fail
          refine (HSL.out _ _ _ J11.out).mono ?_
          rintro r w12 ⟨rfl, F12, h12⟩
          have J12 := Lib.hid h12
          clear h12
          go_wp2_with fail
          refine (HSR.out _ _ _ J12.out).mono ?_
          rintro r w13 ⟨rfl, F13, h13⟩
          have J13 := Lib.hid h13
          clear h13
          go_wp2
          go_roundw
          case rel => exact ⟨j + 1, _, _, _, rfl, hlt, J13⟩
          case measure => simp [RowKit.intOf]; omega
      · obtain rfl : j = N := by omega
        have hq := HI.out.over HRUN.out (by rw [HN.out]; exact Nat.le_refl _)
        subst hq
        go_wp2_with fail
        refine (doneR HI.out.two.one.at_).mono ?_
        rintro r w3 ⟨rfl, rfl⟩
        go_wp2_with fail
        refine (doneR HI.out.two.two.at_).mono ?_
        rintro r w4 ⟨rfl, rfl⟩
        go_wp2
        go_ret
        exact ⟨rfl, up_trans BW.out HI.out.two.one.bel⟩
set_option maxRecDepth 100000 in
set_option maxHeartbeats 2000000 in
theorem rrefuses_row (A : Option Addr) (n cp : Nat) (Li : Nat → Int) (at_ : Int) (e : Ev) (w : World) (hT : NoTaR w) (hL : DLAt w w.heap.size A n Li) (hok : EvOk e) :
    Calls Try.prog 4 #[.slice A n cp, .int .i64 at_, evV e] w fun r w' => r = .returned (.bool true) ∧ Below w.heap.size w w' := by
  have HA : Hid (∀ X, Calls Try.prog 10 #[] (w.alloc X) fun r w' => r = .returned (.bool true) ∧ Below w.heap.size w w') := Lib.hid (fun X => (roalive_any _ (hT.alloc X)).mono (by
    rintro r w' ⟨h1, h2⟩
    exact ⟨h1, up_trans (up_alloc (Below.refl _ _) X) h2⟩))
  by_cases h1 : n ≤ 50
  · by_cases h2 : e.t.size ≤ 100
    · exact rrefuses_in A n cp Li at_ e hok w hT hL h1 h2
    · have c1 : ((50 : Int) < (n : Int)) = False := by simp; omega
      have c2 : ((100 : Int) < (e.t.size : Int)) = True := by simp; omega
      obtain ⟨k, y, m, t, c⟩ := e
      simp only [evV] at *
      clear hT hok h1 h2 hL
      go_enter Try.func4, Try.ntmps4
      go_wp2_with fail
      refine (HA.out _).mono ?_
      rintro r w1 ⟨rfl, b1⟩
      have B1 := Lib.hid b1
      clear b1
      go_wp2
      go_ret
      exact ⟨rfl, B1.out⟩
  · have c1 : ((50 : Int) < (n : Int)) = True := by simp; omega
    obtain ⟨k, y, m, t, c⟩ := e
    simp only [evV] at *
    clear hT hok h1 hL
    go_enter Try.func4, Try.ntmps4
    go_wp2_with fail
    refine (HA.out _).mono ?_
    rintro r w1 ⟨rfl, b1⟩
    have B1 := Lib.hid b1
    clear b1
    go_wp2
    go_ret
    exact ⟨rfl, B1.out⟩
end Go.Proofs.Ytonjdnahplphhaa
