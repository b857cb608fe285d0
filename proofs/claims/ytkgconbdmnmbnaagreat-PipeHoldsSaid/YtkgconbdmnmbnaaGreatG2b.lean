/-
  Parts: PipC, PipD, PipE, PipF.
-/
import Derived.Test.YtkgconbdmnmbnaaGreatG2a
import Derived.Test.YtkgconbdmnmbnaaGreatG0m
import Derived.Test.YtkgconbdmnmbnaaGreatG0l
import Derived.Handy
import Derived.Stop.Asserts
set_option maxRecDepth 100000
set_option maxHeartbeats 16000000
open Go.Lib (hid)
namespace Go.Proofs.YtkgconbdmnmbnaaGreat
section
open Go.RowKit
open Go.Lib
theorem wdrop_at {L : List Ev} {j : Nat} (h : j < L.length) : L.drop j = L[j] :: L.drop (j + 1) := List.drop_eq_getElem_cons h
theorem writes_err {q : Ws} {e : Ev} {l : List Ev} (h : (stepWs q e).1.2 ≠ 0) : writesP q (e :: l) = (([], (stepWs q e).1.2), (stepWs q e).2) := by
  conv => lhs; unfold writesP
  rw [if_pos h]
theorem writes_ok {q : Ws} {e : Ev} {l : List Ev} (h : (stepWs q e).1.2 = 0) : writesP q (e :: l) = (((stepWs q e).1.1 ++ (writesP (stepWs q e).2 l).1.1, (writesP (stepWs q e).2 l).1.2), (writesP (stepWs q e).2 l).2) := by
  conv => lhs; unfold writesP
  rw [if_neg (fun hh => hh h)]
structure WrI (w0 w1 wr : World) (B bo lim n : Nat) (SV WV u : Value) (FS FW FW' : List Nat) (g : Option Gs) (l : List Ev) (q : Ws) (bs : List UInt8) (R : (List UInt8 × Nat) × Ws) (j : Nat) (qj : Ws) (acc : List UInt8) : Prop where
  gs : GtAt wr lim SV FS g
  ws : WtAt w0 wr WV FW' qj
  bld : IsB B bo (bs ++ acc) wr
  lst : Win wr 20 1 u n (l.map valE)
  fr : Pf B FW FW' w1 wr
  eq : R = ((acc ++ (writesP qj (l.drop j)).1.1, (writesP qj (l.drop j)).1.2), (writesP qj (l.drop j)).2)
  len : acc.length ≤ 100001 * j
  dep : dpW qj ≤ dpW q + j
  B0 : B ≤ wr.heap.size ∧ w0.heap.size ≤ B
  ap : ∀ k ∈ FS, k ∉ FW'
theorem WrI.mid {w0 w1 wr w2 : World} {B bo lim n : Nat} {SV WV u : Value} {FS FW FW' F2 : List Nat} {g : Option Gs} {l : List Ev} {q : Ws} {bs : List UInt8} {R : (List UInt8 × Nat) × Ws} {j : Nat} {qj q2 : Ws} {acc : List UInt8} (h : WrI w0 w1 wr B bo lim n SV WV u FS FW FW' g l q bs R j qj acc)
    (_hw : WtAt w0 w2 WV F2 q2) (hs : Step FW' F2 wr w2) (ho : Off wts wr w2) : GtAt w2 lim SV FS g ∧ IsB B bo (bs ++ acc) w2 ∧ Win w2 20 1 u n (l.map valE) ∧ Pf B FW F2 w1 w2 ∧ B ≤ w2.heap.size :=
  ⟨h.gs.kept ho (by decide), isB_off h.bld ho (by decide) (by decide), h.lst.keep (fun k hk => by
    obtain ⟨cur, hc⟩ := h.lst.typed k hk; rw [hc, ho _ _ _ _ hc (by decide)]), h.fr.trans (hs.pf h.B0.1), Nat.le_trans h.B0.1 hs.size⟩
theorem WrI.next {w0 w1 wr w2 w3 : World} {B bo lim n : Nat} {SV WV u : Value} {FS FW FW' F2 : List Nat} {g : Option Gs} {l : List Ev} {q : Ws} {bs : List UInt8} {R : (List UInt8 × Nat) × Ws} {j : Nat} {qj q2 : Ws} {acc T : List UInt8} (h : WrI w0 w1 wr B bo lim n SV WV u FS FW FW' g l q bs R j qj acc)
    (hj : j < l.length) (hq : stepWs qj l[j] = ((T, 0), q2)) (hT : T.length ≤ 100001) (hw : WtAt w0 w2 WV F2 q2) (hs : Step FW' F2 wr w2) (ho : Off wts wr w2)
    (hi : IsB B bo (bs ++ acc ++ T) w3) (hb : Below B w2 w3) (hk : Lib.OthersKept 5 (some bo) w2 w3) : WrI w0 w1 w3 B bo lim n SV WV u FS FW F2 g l q bs R (j + 1) q2 (acc ++ T) := by
  obtain ⟨m1, m2, m3, m4, m5⟩ := h.mid hw hs ho; have hO := off_kept m2 hk; have hd := dpW_step qj l[j]; rw [hq] at hd; refine ⟨m1.kept hO (by decide), hw.kept hO (by decide) (hw.bel.trans (hb.mono h.B0.2)), by rw [← List.append_assoc]; exact hi, m3.keep (fun k hk => by
    obtain ⟨cur, hc⟩ := m3.typed k hk; rw [hc, hO _ _ _ _ hc (by decide)]), m4.trans (pf_below hb _), ?_, ?_, ?_, ⟨Nat.le_trans m5 hb.size, h.B0.2⟩, fun k hk hm => (hs.foot k hm).elim (h.ap k hk) (fun h1 => by have := h.gs.lt k hk; omega)⟩
  · have := h.eq
    rw [wdrop_at hj, writes_ok (by rw [hq]), hq] at this; rw [this]; simp
  · have := h.len
    rw [List.length_append]; omega
  · have := h.dep
    simp only at hd; omega
def PassR (w0 w w' : World) (B bo lim : Nat) (SV WV : Value) (FS FW : List Nat) (bs : List UInt8) (q : (List UInt8 × Nat) × (Option Gs × Ws)) (r : Ending) : Prop :=
  r = .returned (.int .i64 (q.1.2 : Nat)) ∧ ∃ FS' FW', GtAt w' lim SV FS' q.2.1 ∧ WtAt w0 w' WV FW' q.2.2 ∧ IsB B bo (bs ++ q.1.1) w' ∧ Pf B (FS ++ FW) (FS' ++ FW') w w' ∧ (∀ k ∈ FS', k ∉ FW') ∧ B ≤ w'.heap.size
theorem pass_fr {w w1 wr : World} {B : Nat} {FS0 FS FW FW' : List Nat} (h0 : Step FS0 FS w w1) (hB : B ≤ w.heap.size) (h : Pf B FW FW' w1 wr) : Pf B (FS0 ++ FW) (FS ++ FW') w wr :=
  ((h0.pf hB).widen (G := FS0 ++ FW) (G' := FS ++ FW) (fun k hk => by simp [hk]) (fun k hk => by
    rcases List.mem_append.1 hk with hk | hk
    · exact .inr hk
    · exact .inl (by simp [hk]))).trans (h.widen (fun k hk => by simp [hk]) (fun k hk => by
    rcases List.mem_append.1 hk with hk | hk
    · exact .inl (by simp [hk])
    · exact .inr hk))
theorem pass_free {w0 w w1 : World} {pb B bo e0 : Nat} {RV SV WV : Value} {FS FS1 FW : List Nat} {q : Ws} {bs : List UInt8} (h : Blk w pb (pipC e0 RV SV WV) 62) (hW : WtAt w0 w WV FW q)
    (hap : ∀ k ∈ FS, k ∉ FW) (hpb : pb < B ∧ pb ∉ FS ∧ pb ∉ FW) (hSl : ∀ k ∈ FS, w0.heap.size ≤ k) (hI : IsB B bo bs w) (hB : B ≤ w.heap.size ∧ w0.heap.size ≤ B) (hs : Step FS FS1 w w1) (ho : Off gts w w1) :
    WtAt w0 w1 WV FW q ∧ IsB B bo bs w1 ∧ Blk w1 pb (pipC e0 RV SV WV) 62 ∧ (∀ k ∈ FS1, k ∉ FW) ∧ B ≤ w1.heap.size := by
  have hbl : ∀ k, k < w.heap.size → k ∉ FS → w1.heap[k]? = w.heap[k]? := hs.block; have hlt : pb < w.heap.size := h.lt; exact ⟨hW.keep (fun k hk => hbl k (hW.lt k hk) (fun hk' => hap k hk' hk)) (hW.bel.trans ⟨hs.os, hs.tape, hs.output, hs.size, fun k hk => hbl k (by omega) (fun hk' => by have := hSl k hk'; omega)⟩), isB_off hI ho (by decide) (by decide), (hbl pb hlt hpb.2.1).trans h, fun k hk hm => (hs.foot k hk).elim (fun h1 => hap k h1 hm) (fun h1 => by have := hW.lt k hm; omega), Nat.le_trans hB.1 hs.size⟩
theorem pipass_any {w0 w : World} {pb B bo lim e0 : Nat} {RV SV WV : Value} {FS FW : List Nat} {g : Option Gs} {q : Ws} {bs : List UInt8} (h : Blk w pb (pipC e0 RV SV WV) 62) (hG : GtAt w lim SV FS g) (hW : WtAt w0 w WV FW q)
    (hap : ∀ k ∈ FS, k ∉ FW) (hpb : pb < B ∧ pb ∉ FS ∧ pb ∉ FW) (hSl : ∀ k ∈ FS, w0.heap.size ≤ k) (hok : OkOG lim g) (hlim : lim ≤ 2000) (hdep : lenOG g + dpW q ≤ 880) (hbs : bs.length ≤ 1000000000000) (hI : IsB B bo bs w) (hB : B ≤ w.heap.size ∧ w0.heap.size ≤ B) {e : Ev} (he : TolE e) :
    Calls Tryz.prog 40 #[.pointer (some ⟨pb, 0, none⟩), valE e, .pointer (some ⟨bo, 0, none⟩)] w fun r w' => PassR w0 w w' B bo lim SV WV FS FW bs (passP lim g q e) r := by
  have HFree := hid (pifree_any h hG hok hlim he); obtain ⟨f1, f2, f3⟩ := okOG_free hlim hok he; have hP : passP lim g q e = if (freeP lim g e).2.2 ≠ 0 then (([], (freeP lim g e).2.2), ((freeP lim g e).1, q)) else ((writesP q (freeP lim g e).2.1).1, ((freeP lim g e).1, (writesP q (freeP lim g e).2.1).2)) := rfl
  generalize passP lim g q e = PP0 at *
  generalize freeP lim g e = R0 at *
  obtain ⟨g', l, er⟩ := R0; simp only at f1 f2 f3 hP; have HK : Hid (∀ w1 FS1, GtAt w1 lim SV FS1 g' → Step FS FS1 w w1 → Off gts w w1 → WtAt w0 w1 WV FW q ∧ IsB B bo bs w1 ∧ Blk w1 pb (pipC e0 RV SV WV) 62 ∧ (∀ k ∈ FS1, k ∉ FW) ∧ B ≤ w1.heap.size) := hid (fun w1 FS1 _ hs ho => pass_free h hW hap hpb hSl hI hB hs ho); generalize valE e = V0 at *
  by_cases hz : er = 0
  · subst hz
    rw [if_neg (by simp)] at hP; obtain ⟨n, hn⟩ : ∃ n, l.length = n := ⟨_, rfl⟩
    obtain ⟨R, hR⟩ : ∃ R, writesP q l = R := ⟨_, rfl⟩
    rw [hR] at hP; have HPP := hid hP; have HR := hid hR; have HNN := hid hn; have HTOL := hid f2; have HNB : Hid (n + dpW q ≤ 881 ∧ bs.length ≤ 1000000000000 ∧ B ≤ w.heap.size ∧ w0.heap.size ≤ B ∧ pb < B ∧ pb ∉ FW) := hid ⟨by omega, hbs, hB.1, hB.2, hpb.1, hpb.2.2⟩; have hn1 : n ≤ 881 := by omega
    clear h hG hok he hP hR hn f1 f2 f3 hbs hB hpb hSl hap hdep hlim hI hW; go_enter Tryz.func40, Tryz.ntmps40; (go_wp2_with fail); refine HFree.out.mono ?_; rintro r w1 ⟨u, FS1, rfl, hWin, hg1, hs1, ho1⟩; simp only at hWin hg1; rw [HNN.out] at hWin; obtain ⟨A, cp, rfl, _, _⟩ := hWin.slice_form; have HK1 := hid (HK.out w1 FS1 hg1 hs1 ho1); have HS1 := hid hs1; have H0 : Hid (WrI w0 w1 w1 B bo lim n SV WV (.slice A n cp) FS1 FW FW g' l q bs R 0 q []) := hid ⟨hg1, HK1.out.1, by rw [List.append_nil]; exact HK1.out.2.1, hWin, Pf.refl _ _ _, by rw [List.drop_zero, HR.out]; simp, by simp, by simp, ⟨HK1.out.2.2.2.2, HNB.out.2.2.2.1⟩, HK1.out.2.2.2.1⟩; have HC0 : Hid (w1.cell? ⟨pb, 3, none⟩ = some WV) := hid ((HK1.out.2.2.1.cell 3).trans rfl); have HCL : Hid (∀ (w2 w3 : World) (F2 : List Nat), Pf B FW F2 w1 w3 → w3.cell? ⟨pb, 3, none⟩ = some WV) := hid (fun _ w3 F2 hf => by
      have hbk : Blk w3 pb (pipC e0 RV SV WV) 62 := (hf.block pb HNB.out.2.2.2.2.1 HNB.out.2.2.2.2.2).trans HK1.out.2.2.1; exact (hbk.cell 3).trans rfl)
    clear hWin hg1 hs1 ho1 HFree HK; go_wp2
    go_loopw [10, 11, 12, 24] (fun _ _ _ i wr => ∃ (j : Nat) (qj : Ws) (F1 : List Nat) (acc : List UInt8), i = .int .i64 j ∧ j ≤ n ∧ Hid (WrI w0 w1 wr B bo lim n SV WV (.slice A n cp) FS1 FW F1 g' l q bs R j qj acc)) (fun _ _ _ i _ => n - (RowKit.intOf i).toNat)
    case atStart => exact ⟨0, _, _, _, rfl, by omega, H0⟩
    case round =>
      obtain ⟨j, qj, F1, acc, rfl, hj, HI⟩ := hrel; clear H0 HC0; by_cases hlt : j < n
      · have hjl : j < l.length := by rw [HNN.out]; exact hlt
        have hTe := HTOL.out _ (List.getElem_mem hjl); have hws := HI.out.ws; have hpw := hws.prW; have hdj : dpW qj ≤ 890 := by have := HI.out.dep; have := HNB.out.1; omega
        have hcell := HCL.out wr wr _ HI.out.fr; obtain ⟨gg, off, c', hv, x0⟩ := HI.out.lst.elem j (valE l[j]) (by simp [hjl]); simp only [Value.slice.injEq] at hv; obtain ⟨rfl, hv2, rfl⟩ := hv; clear hv2; have HFIN : Hid (∀ (w2 : World) (F2 : List Nat) (q2 : Ws) (T : List UInt8), WtAt w0 w2 WV F2 q2 → Step F1 F2 wr w2 → Off wts wr w2 → ∀ e1, R = ((acc, e1), q2) → PassR w0 w w2 B bo lim SV WV FS FW bs PP0 (.returned (.int .i64 (e1 : Nat)))) := hid (fun w2 F2 q2 T a b c e1 hr => by
          obtain ⟨m1, m2, m3, m4, m5⟩ := HI.out.mid a b c; rw [HPP.out, hr]; exact ⟨rfl, FS1, F2, m1, a, m2, pass_fr HS1.out HNB.out.2.2.1 m4, fun k hk hm => (b.foot k hm).elim (HI.out.ap k hk) (fun h1 => by have := HI.out.gs.lt k hk; omega), m5⟩)
        cases qj with
        | js pr q2 =>
          obtain ⟨b, F2, hWV, rfl, hJ, hT⟩ := hws; have HS := hid (wt_js hJ hT hdj hTe); have hsz := szW_step hpw hTe; rw [hWV] at hcell; have HWV := hid hWV; generalize hQ : stepWs (.js pr q2) l[j] = Q at HS hsz; obtain ⟨⟨T, e1⟩, q3⟩ := Q; obtain ⟨Z, hZ⟩ : ∃ Z : ByteArray, (⟨T.toArray⟩ : ByteArray) = Z := ⟨_, rfl⟩
          have hZl : Z.data.toList = T := by rw [← hZ]
          have hZs : Z.size ≤ 100001 := by rw [← hZ, size_of]; exact hsz
          simp only [WtStep] at HS; rw [hZ] at HS; generalize hVV : valE l[j] = V at *
          by_cases h0 : e1 = 0
          · subst h0
            have HQ := hid hQ; have HZ := hid (And.intro hZl (And.intro hZs hsz)); have HAL := hid (And.intro HI.out.len hj); clear hQ hZ hZl hZs hsz hpw hTe hdj hJ hT hWV hVV HFIN; (go_wp2_with fail); refine HS.out.mono ?_; rintro r w2 ⟨rfl, F3, hw2, hs2, ho2⟩; rw [← HWV.out] at hw2; have H2 := hid (And.intro hw2 (And.intro hs2 ho2)); have HM := hid (HI.out.mid hw2 hs2 ho2); clear hw2 hs2 ho2 HS; (go_wp2_with fail); refine (sb_write B bo (bs ++ acc) Z w2 HM.out.2.1 (by have := HAL.out; have := HNB.out; have := HZ.out.2.1; simp only [List.length_append]; omega) HM.out.2.2.2.2).mono ?_; rintro r w3 ⟨rfl, i3, b3, k3⟩; rw [HZ.out.1] at i3; have H3 := hid (HI.out.next hjl HQ.out HZ.out.2.2 H2.out.1 H2.out.2.1 H2.out.2.2 i3 b3 k3); clear i3 b3 k3 HM; go_wp2
            go_roundw
            case rel => exact ⟨j + 1, _, _, _, rfl, hlt, H3⟩
            case measure => simp [RowKit.intOf]; omega
          · have hne : ((e1 : Int) != 0) = true := by rw [bne_iff_ne]; omega
            have hRR : R = ((acc, e1), q3) := by
              have := HI.out.eq; rw [wdrop_at hjl, writes_err (by rw [hQ]; exact h0), hQ] at this; simpa using this
            have HRR := hid hRR; clear hQ hZ hZl hZs hsz hpw hTe hdj hJ hT hRR h0 hWV hVV; (go_wp2_with fail); refine HS.out.mono ?_; rintro r w2 ⟨rfl, F3, hw2, hs2, ho2⟩; rw [← HWV.out] at hw2; have HF := hid (HFIN.out _ _ _ T hw2 hs2 ho2 _ HRR.out); clear hw2 hs2 ho2 HS; go_wp2; go_ret; exact HF.out
        | cb q2 =>
          obtain ⟨b, F2, hWV, rfl, hJ⟩ := hws; have HS := hid (wt_cb hJ hdj hTe); have hsz := szW_step hpw hTe; rw [hWV] at hcell; have HWV := hid hWV; generalize hQ : stepWs (.cb q2) l[j] = Q at HS hsz; obtain ⟨⟨T, e1⟩, q3⟩ := Q; obtain ⟨Z, hZ⟩ : ∃ Z : ByteArray, (⟨T.toArray⟩ : ByteArray) = Z := ⟨_, rfl⟩
          have hZl : Z.data.toList = T := by rw [← hZ]
          have hZs : Z.size ≤ 100001 := by rw [← hZ, size_of]; exact hsz
          simp only [WtStep] at HS; rw [hZ] at HS; generalize hVV : valE l[j] = V at *
          by_cases h0 : e1 = 0
          · subst h0
            have HQ := hid hQ; have HZ := hid (And.intro hZl (And.intro hZs hsz)); have HAL := hid (And.intro HI.out.len hj); clear hQ hZ hZl hZs hsz hpw hTe hdj hJ hWV hVV HFIN; (go_wp2_with fail); refine HS.out.mono ?_; rintro r w2 ⟨rfl, F3, hw2, hs2, ho2⟩; rw [← HWV.out] at hw2; have H2 := hid (And.intro hw2 (And.intro hs2 ho2)); have HM := hid (HI.out.mid hw2 hs2 ho2); clear hw2 hs2 ho2 HS; (go_wp2_with fail); refine (sb_write B bo (bs ++ acc) Z w2 HM.out.2.1 (by have := HAL.out; have := HNB.out; have := HZ.out.2.1; simp only [List.length_append]; omega) HM.out.2.2.2.2).mono ?_; rintro r w3 ⟨rfl, i3, b3, k3⟩; rw [HZ.out.1] at i3; have H3 := hid (HI.out.next hjl HQ.out HZ.out.2.2 H2.out.1 H2.out.2.1 H2.out.2.2 i3 b3 k3); clear i3 b3 k3 HM; go_wp2
            go_roundw
            case rel => exact ⟨j + 1, _, _, _, rfl, hlt, H3⟩
            case measure => simp [RowKit.intOf]; omega
          · have hne : ((e1 : Int) != 0) = true := by rw [bne_iff_ne]; omega
            have hRR : R = ((acc, e1), q3) := by
              have := HI.out.eq; rw [wdrop_at hjl, writes_err (by rw [hQ]; exact h0), hQ] at this; simpa using this
            have HRR := hid hRR; clear hQ hZ hZl hZs hsz hpw hTe hdj hJ hRR h0 hWV hVV; (go_wp2_with fail); refine HS.out.mono ?_; rintro r w2 ⟨rfl, F3, hw2, hs2, ho2⟩; rw [← HWV.out] at hw2; have HF := hid (HFIN.out _ _ _ T hw2 hs2 ho2 _ HRR.out); clear hw2 hs2 ho2 HS; go_wp2; go_ret; exact HF.out
        | pk q2 =>
          obtain ⟨b, F2, hWV, rfl, hJ⟩ := hws; have HS := hid (wt_pk hJ hdj hTe); have hsz := szW_step hpw hTe; rw [hWV] at hcell; have HWV := hid hWV; generalize hQ : stepWs (.pk q2) l[j] = Q at HS hsz; obtain ⟨⟨T, e1⟩, q3⟩ := Q; obtain ⟨Z, hZ⟩ : ∃ Z : ByteArray, (⟨T.toArray⟩ : ByteArray) = Z := ⟨_, rfl⟩
          have hZl : Z.data.toList = T := by rw [← hZ]
          have hZs : Z.size ≤ 100001 := by rw [← hZ, size_of]; exact hsz
          simp only [WtStep] at HS; rw [hZ] at HS; generalize hVV : valE l[j] = V at *
          by_cases h0 : e1 = 0
          · subst h0
            have HQ := hid hQ; have HZ := hid (And.intro hZl (And.intro hZs hsz)); have HAL := hid (And.intro HI.out.len hj); clear hQ hZ hZl hZs hsz hpw hTe hdj hJ hWV hVV HFIN; (go_wp2_with fail); refine HS.out.mono ?_; rintro r w2 ⟨rfl, F3, hw2, hs2, ho2⟩; rw [← HWV.out] at hw2; have H2 := hid (And.intro hw2 (And.intro hs2 ho2)); have HM := hid (HI.out.mid hw2 hs2 ho2); clear hw2 hs2 ho2 HS; (go_wp2_with fail); refine (sb_write B bo (bs ++ acc) Z w2 HM.out.2.1 (by have := HAL.out; have := HNB.out; have := HZ.out.2.1; simp only [List.length_append]; omega) HM.out.2.2.2.2).mono ?_; rintro r w3 ⟨rfl, i3, b3, k3⟩; rw [HZ.out.1] at i3; have H3 := hid (HI.out.next hjl HQ.out HZ.out.2.2 H2.out.1 H2.out.2.1 H2.out.2.2 i3 b3 k3); clear i3 b3 k3 HM; go_wp2
            go_roundw
            case rel => exact ⟨j + 1, _, _, _, rfl, hlt, H3⟩
            case measure => simp [RowKit.intOf]; omega
          · have hne : ((e1 : Int) != 0) = true := by rw [bne_iff_ne]; omega
            have hRR : R = ((acc, e1), q3) := by
              have := HI.out.eq; rw [wdrop_at hjl, writes_err (by rw [hQ]; exact h0), hQ] at this; simpa using this
            have HRR := hid hRR; clear hQ hZ hZl hZs hsz hpw hTe hdj hJ hRR h0 hWV hVV; (go_wp2_with fail); refine HS.out.mono ?_; rintro r w2 ⟨rfl, F3, hw2, hs2, ho2⟩; rw [← HWV.out] at hw2; have HF := hid (HFIN.out _ _ _ T hw2 hs2 ho2 _ HRR.out); clear hw2 hs2 ho2 HS; go_wp2; go_ret; exact HF.out
      · obtain rfl : j = n := by omega
        have HF : Hid (PassR w0 w wr B bo lim SV WV FS FW bs PP0 (.returned (.int .i64 0))) := hid (by
          have hq := HI.out.eq; rw [List.drop_of_length_le (by rw [HNN.out]; exact Nat.le_refl _)] at hq; simp only [writesP, List.append_nil] at hq; rw [HPP.out, hq]; exact ⟨rfl, FS1, F1, HI.out.gs, HI.out.ws, HI.out.bld, pass_fr HS1.out HNB.out.2.2.1 HI.out.fr, HI.out.ap, HI.out.B0.1⟩)
        go_wp2; go_ret; exact HF.out
  · rw [if_pos hz] at hP
    have hne : ((er : Int) != 0) = true := by rw [bne_iff_ne]; omega
    have HPP := hid hP; have HB := hid hB; clear h hG hok he hP f1 f2 f3 hbs hB hpb hSl hap hdep hlim hI hW hz; go_enter Tryz.func40, Tryz.ntmps40; (go_wp2_with fail); refine HFree.out.mono ?_; rintro r w1 ⟨u, FS1, rfl, hWin, hg1, hs1, ho1⟩; have HF : Hid (PassR w0 w w1 B bo lim SV WV FS FW bs PP0 (.returned (.int .i64 (er : Nat)))) := hid (by
      obtain ⟨a, b, c, d, f⟩ := HK.out w1 FS1 hg1 hs1 ho1; rw [HPP.out]; exact ⟨rfl, FS1, FW, hg1, a, by rw [List.append_nil]; exact b, pass_fr hs1 HB.out.1 (Pf.refl _ _ _), d, f⟩)
    clear hWin hg1 hs1 ho1; go_wp2; go_ret; exact HF.out
end
section
open Go.RowKit
open Go.Lib
structure TurnI (w0 w wr : World) (bo lim n : Nat) (SV WV u : Value) (FS FW FS' FW' : List Nat) (g : Option Gs) (q : Ws) (L : List Ev) (told : Nat) (R : (List UInt8 × Nat) × (Option Gs × Ws)) (j : Nat) (gj : Option Gs) (qj : Ws) (acc : List UInt8) : Prop where
  gs : GtAt wr lim SV FS' gj
  ws : WtAt w0 wr WV FW' qj
  bld : IsB w.heap.size bo acc wr
  lst : Win wr 20 1 u n (L.map valE)
  fr : Pf w.heap.size (FS ++ FW) (FS' ++ FW') w wr
  eq : R = ((acc ++ (turnP lim gj qj (L.drop j) told).1.1, (turnP lim gj qj (L.drop j) told).1.2), (turnP lim gj qj (L.drop j) told).2)
  len : acc.length ≤ 100001 * 900 * j
  dep : lenOG gj + dpW qj ≤ lenOG g + dpW q + j
  ok : OkOG lim gj
  sz : w.heap.size ≤ wr.heap.size
  ap : ∀ k ∈ FS', k ∉ FW'
  low : ∀ k ∈ FS', w0.heap.size ≤ k
theorem turn_cons (lim : Nat) (g : Option Gs) (q : Ws) (e : Ev) (L : List Ev) (t : Nat) : turnP lim g q (e :: L) t = if (passP lim g q e).1.2 ≠ 0 then passP lim g q e else (((passP lim g q e).1.1 ++ (turnP lim (passP lim g q e).2.1 (passP lim g q e).2.2 L t).1.1, (turnP lim (passP lim g q e).2.1 (passP lim g q e).2.2 L t).1.2), (turnP lim (passP lim g q e).2.1 (passP lim g q e).2.2 L t).2) := rfl
theorem TurnI.pass {w0 w wr w2 : World} {bo lim n : Nat} {SV WV u : Value} {FS FW FS' FW' FS2 FW2 : List Nat} {g gj g2 : Option Gs} {q qj q2 : Ws} {L : List Ev} {told : Nat} {R : (List UInt8 × Nat) × (Option Gs × Ws)} {j : Nat} {acc T : List UInt8}
    (h : TurnI w0 w wr bo lim n SV WV u FS FW FS' FW' g q L told R j gj qj acc) (hlim : lim ≤ 2000) (hj : j < L.length) (he : TolE L[j]) (hd : lenOG gj + dpW qj ≤ 880) (hw : w0.heap.size ≤ w.heap.size) (huS : ∀ k ∈ Value.owner u, k < w.heap.size ∧ k ∉ FS ++ FW)
    (hq : passP lim gj qj L[j] = ((T, 0), (g2, q2))) (h1 : GtAt w2 lim SV FS2 g2) (h2 : WtAt w0 w2 WV FW2 q2) (h3 : IsB w.heap.size bo (acc ++ T) w2) (h4 : Pf w.heap.size (FS' ++ FW') (FS2 ++ FW2) wr w2) (h5 : ∀ k ∈ FS2, k ∉ FW2) (h6 : w.heap.size ≤ w2.heap.size) :
    TurnI w0 w w2 bo lim n SV WV u FS FW FS2 FW2 g q L told R (j + 1) g2 q2 (acc ++ T) := by
  obtain ⟨d1, d2, d3⟩ := dpW_pass hlim h.ok qj he; have d4 := (d3 h.ws.prW).1; rw [hq] at d1 d2 d4; simp only at d1 d2 d4; have hne : ∀ k ∈ Value.owner u, k ∉ FS' ++ FW' := fun k hk hm => (h.fr.foot k hm).elim (huS k hk).2 (fun hb => by have := (huS k hk).1; omega)
  refine ⟨h1, h2, h3, h.lst.keep fun k hk => h4.block k (huS k hk).1 (hne k hk), h.fr.trans h4, ?_, ?_, by have := h.dep; omega, d1, h6, h5, fun k hk => ?_⟩
  · have := h.eq
    rw [wdrop_at hj, turn_cons] at this; simp only [hq] at this; rw [this]; simp
  · have := h.len
    rw [List.length_append]; have : 100001 * (lenOG gj + 1) ≤ 100001 * 900 := Nat.mul_le_mul_left _ (by omega); omega
  · rcases h4.foot k (by simp [hk]) with hk | hk
    · rcases List.mem_append.1 hk with hk | hk
      · exact h.low k hk
      · exact h.ws.low k hk
    · omega
def TurnR (w0 w w' : World) (lim : Nat) (SV WV : Value) (FS FW : List Nat) (q : (List UInt8 × Nat) × (Option Gs × Ws)) (r : Ending) : Prop :=
  r = .returned (.tuple #[.string ⟨q.1.1.toArray⟩, .int .i64 (q.1.2 : Nat)]) ∧ ∃ FS' FW', GtAt w' lim SV FS' q.2.1 ∧ WtAt w0 w' WV FW' q.2.2 ∧ Step (FS ++ FW) (FS' ++ FW') w w' ∧ (∀ k ∈ FS', k ∉ FW')
theorem turn_end {w0 w w2 w3 : World} {bo lim : Nat} {SV WV : Value} {FS FW FS2 FW2 : List Nat} {g2 : Option Gs} {q2 : Ws} {acc : List UInt8} (h1 : GtAt w2 lim SV FS2 g2) (h2 : WtAt w0 w2 WV FW2 q2) (h3 : IsB w.heap.size bo acc w2) (h4 : Pf w.heap.size (FS ++ FW) (FS2 ++ FW2) w w2) (h5 : ∀ k ∈ FS2, k ∉ FW2)
    (hw : w0.heap.size ≤ w.heap.size) (b3 : Below w.heap.size w2 w3) (k3 : Lib.OthersKept 5 (some bo) w2 w3) : GtAt w3 lim SV FS2 g2 ∧ WtAt w0 w3 WV FW2 q2 ∧ Step (FS ++ FW) (FS2 ++ FW2) w w3 ∧ (∀ k ∈ FS2, k ∉ FW2) := by
  have hO := off_kept h3 k3; exact ⟨h1.kept hO (by decide), h2.kept hO (by decide) (h2.bel.trans (b3.mono hw)), (h4.trans (pf_below b3 _)).step, h5⟩
theorem piturn_any {w0 w : World} {pb lim e0 told : Nat} {RV SV WV u : Value} {FS FW : List Nat} {g : Option Gs} {q : Ws} {L : List Ev} (h : Blk w pb (pipC e0 RV SV WV) 62) (hG : GtAt w lim SV FS g) (hW : WtAt w0 w WV FW q)
    (hap : ∀ k ∈ FS, k ∉ FW) (hpb : pb ∉ FS ∧ pb ∉ FW) (hSl : ∀ k ∈ FS, w0.heap.size ≤ k) (hok : OkOG lim g) (hlim : lim ≤ 2000) (hdep : lenOG g + dpW q + L.length ≤ 880) (hL : ∀ e ∈ L, TolE e) (hU : Win w 20 1 u L.length (L.map valE)) (hUo : ∀ k ∈ Value.owner u, k ∉ FS ++ FW) :
    Calls Tryz.prog 28 #[.pointer (some ⟨pb, 0, none⟩), u, .int .i64 (told : Nat)] w fun r w' => TurnR w0 w w' lim SV WV FS FW (turnP lim g q L told) r := by
  obtain ⟨n, hn⟩ : ∃ n, L.length = n := ⟨_, rfl⟩
  obtain ⟨R, hR⟩ : ∃ R, turnP lim g q L told = R := ⟨_, rfl⟩
  obtain ⟨A, cp, rfl, _, _⟩ := hU.slice_form; have hw0 : w0.heap.size ≤ w.heap.size := hW.bel.size; have hlt : pb < w.heap.size := h.lt; have HNN := hid hn; have HR := hid hR; have HTOL := hid hL; have HLIM := hid hlim; have HUO : Hid (∀ k ∈ Value.owner (.slice A L.length cp), k < w.heap.size ∧ k ∉ FS ++ FW) := hid (fun k hk => ⟨hU.lt k hk, hUo k hk⟩); have HNB : Hid (n + (lenOG g + dpW q) ≤ 880 ∧ w0.heap.size ≤ w.heap.size ∧ pb < w.heap.size ∧ pb ∉ FS ++ FW) := hid ⟨by omega, hw0, hlt, by simp [hpb]⟩; have hn1 : n ≤ 880 := by omega
  have k1 : Below w.heap.size w (w.alloc (.cells #[.pointer none, .slice none 0 0] 72)) := up_alloc (Below.refl _ _) _; have H0 : Hid (TurnI w0 w (w.alloc (.cells #[.pointer none, .slice none 0 0] 72)) w.heap.size lim n SV WV (.slice A L.length cp) FS FW FS FW g q L told R 0 g q []) := hid ⟨hG.go k1, hW.go k1, isB_new _ _ _ (Nat.le_refl _) (heap_alloc_new w _), by rw [← hn]; exact hU.keep fun i hi => k1.block i (hU.lt i hi), pf_below k1 _, by rw [List.drop_zero, hR]; simp, by simp, by omega, hok, k1.size, hap, hSl⟩; have HBK : Hid (∀ (wr : World) (F2 : List Nat), Pf w.heap.size (FS ++ FW) F2 w wr → Blk wr pb (pipC e0 RV SV WV) 62 ∧ pb ∉ F2) := hid (fun wr F2 hf => ⟨(hf.block pb hlt (by simp [hpb])).trans h, fun hk => (hf.foot pb hk).elim (by simp [hpb]) (fun hb => by omega)⟩); rw [hR]; rw [hn] at H0 HUO ⊢; clear h hG hW hap hpb hSl hok hlim hdep hL hU hUo hR hn hw0 hlt k1; go_enter Tryz.func28, Tryz.ntmps28; go_wp2
  go_loopw [10, 11, 14] (fun _ _ i wr => ∃ (j : Nat) (gj : Option Gs) (qj : Ws) (F1 F2 : List Nat) (acc : List UInt8), i = .int .i64 j ∧ j ≤ n ∧ Hid (TurnI w0 w wr w.heap.size lim n SV WV (.slice A n cp) FS FW F1 F2 g q L told R j gj qj acc)) (fun _ _ i _ => n - (RowKit.intOf i).toNat)
  case atStart => exact ⟨0, _, _, _, _, _, rfl, by omega, H0⟩
  case round =>
    obtain ⟨j, gj, qj, F1, F2, acc, rfl, hj, HI⟩ := hrel; clear H0; by_cases hlt : j < n
    · have hjl : j < L.length := by rw [HNN.out]; exact hlt
      have hTe := HTOL.out _ (List.getElem_mem hjl); have hdj : lenOG gj + dpW qj ≤ 880 := by have := HI.out.dep; have := HNB.out.1; omega
      obtain ⟨hbk, hpn⟩ := HBK.out wr _ HI.out.fr; obtain ⟨gg, off, c', hv, x0⟩ := HI.out.lst.elem j (valE L[j]) (by simp [hjl]); simp only [Value.slice.injEq] at hv; obtain ⟨rfl, hv2, rfl⟩ := hv; clear hv2; have HP := hid (pipass_any hbk HI.out.gs HI.out.ws HI.out.ap ⟨HNB.out.2.2.1, fun hk => hpn (by simp [hk]), fun hk => hpn (by simp [hk])⟩ HI.out.low HI.out.ok HLIM.out hdj (by have := HI.out.len; omega) HI.out.bld ⟨HI.out.sz, HNB.out.2.1⟩ hTe); generalize hQ : passP lim gj qj L[j] = Q at HP; obtain ⟨⟨T, e1⟩, ⟨g2, q2⟩⟩ := Q; simp only [PassR] at HP; generalize hVV : valE L[j] = V at *
      have HQ := hid (And.intro hQ (And.intro hTe (And.intro hdj hjl))); by_cases h0 : e1 = 0
      · subst h0
        clear hQ hTe hdj hVV hbk hpn; (go_wp2_with fail); refine HP.out.mono ?_; rintro r w2 ⟨rfl, FS2, FW2, p1, p2, p3, p4, p5, p6⟩; have H2 := hid (HI.out.pass HLIM.out HQ.out.2.2.2 HQ.out.2.1 HQ.out.2.2.1 HNB.out.2.1 HUO.out HQ.out.1 p1 p2 p3 p4 p5 p6); clear p1 p2 p3 p4 p5 p6; go_wp2
        go_roundw
        case rel => exact ⟨j + 1, _, _, _, _, _, rfl, hlt, H2⟩
        case measure => simp [RowKit.intOf]; omega
      · have hne : ((e1 : Int) != 0) = true := by rw [bne_iff_ne]; omega
        have hRR : R = ((acc ++ T, e1), (g2, q2)) := by
          have := HI.out.eq; rw [wdrop_at hjl, turn_cons] at this; simp only [hQ] at this; rw [if_pos h0] at this; exact this
        have HRR := hid hRR; clear hQ hTe hdj hVV hRR h0 hbk hpn; (go_wp2_with fail); refine HP.out.mono ?_; rintro r w2 ⟨rfl, FS2, FW2, p1, p2, p3, p4, p5, p6⟩; have H2 := hid (And.intro p1 (And.intro p2 (And.intro p3 (And.intro (HI.out.fr.trans p4) (And.intro p5 p6))))); clear p1 p2 p3 p4 p5 p6; (go_wp2_with fail); refine (sb_string w.heap.size w.heap.size (acc ++ T) w2 H2.out.2.2.1 H2.out.2.2.2.2.2).mono ?_; rintro r w3 ⟨rfl, i3, b3, k3⟩; have HF : Hid (TurnR w0 w w3 lim SV WV FS FW R (.returned (.tuple #[.string ⟨(acc ++ T).toArray⟩, .int .i64 (e1 : Nat)]))) := hid (by
          rw [HRR.out]; exact ⟨rfl, FS2, FW2, turn_end H2.out.1 H2.out.2.1 H2.out.2.2.1 H2.out.2.2.2.1 H2.out.2.2.2.2.1 HNB.out.2.1 b3 k3⟩)
        clear i3 b3 k3; go_wp2; go_ret2; exact HF.out
    · obtain rfl : j = n := by omega
      have hRR : R = ((acc, told), (gj, qj)) := by
        have hq := HI.out.eq; rw [List.drop_of_length_le (by rw [HNN.out]; exact Nat.le_refl _)] at hq; simpa [turnP] using hq
      have HRR := hid hRR; clear hRR; (go_wp2_with fail); refine (sb_string w.heap.size w.heap.size acc wr HI.out.bld HI.out.sz).mono ?_; rintro r w3 ⟨rfl, i3, b3, k3⟩; have HF : Hid (TurnR w0 w w3 lim SV WV FS FW R (.returned (.tuple #[.string ⟨acc.toArray⟩, .int .i64 (told : Nat)]))) := hid (by
        rw [HRR.out]; exact ⟨rfl, F1, F2, turn_end HI.out.gs HI.out.ws HI.out.bld HI.out.fr HI.out.ap HNB.out.2.1 b3 k3⟩)
      clear i3 b3 k3; go_wp2; go_ret2; exact HF.out
end
section
open Go.RowKit
open Go.Lib
def PipR (w0 w w' : World) (pb D lim : Nat) (F : List Nat) (q : Pp × (List UInt8 × Nat)) (r : Ending) : Prop :=
  r = .returned (.tuple #[.string ⟨q.2.1.toArray⟩, .int .i64 (q.2.2 : Nat)]) ∧ ∃ F', PipAt w0 w' pb D lim F' q.1 ∧ Step F F' w w'
theorem Blk.four {w : World} {pb : Nat} {a0 a1 a2 a3 b0 b1 b2 b3 : Value} {t : TypeId} (h : Blk w pb #[a0, a1, a2, a3] t) : Blk ((((w.setCell ⟨pb, 0, none⟩ b0).setCell ⟨pb, 1, none⟩ b1).setCell ⟨pb, 2, none⟩ b2).setCell ⟨pb, 3, none⟩ b3) pb #[b0, b1, b2, b3] t := by
  have := (((h.set 0 b0).set 1 b1).set 2 b2).set 3 b3; simpa using this
theorem step_mid {w0 w w1 : World} {pb D lim : Nat} {RV SV WV u : Value} {FR FS FW FR' : List Nat} {r' : Rs} {g : Option Gs} {q : Ws} {L : List Ev} (h1 : Blk w pb (pipC 0 RV SV WV) 62) (h3 : GtAt w lim SV FS g) (h4 : WtAt w0 w WV FW q) (_hl : ∀ k ∈ FR, k < w.heap.size)
    (h5 : w0.heap.size ≤ pb) (h6 : ∀ k ∈ FR ++ (FS ++ FW), w0.heap.size ≤ k ∧ k ≠ pb) (h7 : ∀ k ∈ FR, k ∉ FS ++ FW) (hv : Vls w w1 u L) (hr : RdAt w1 D RV FR' r') (hs : Step FR FR' w w1) :
    Blk w1 pb (pipC 0 RV SV WV) 62 ∧ GtAt w1 lim SV FS g ∧ WtAt w0 w1 WV FW q ∧ (∀ k ∈ Value.owner u, k ∉ FS ++ FW) ∧ (∀ k ∈ FR', k ∉ FS ++ FW ∧ k ≠ pb ∧ w0.heap.size ≤ k ∧ k < w1.heap.size) := by
  have hlt : pb < w.heap.size := h1.lt; have hpF : pb ∉ FR := fun hk => (h6 pb (by simp [hk])).2 rfl
  have hGW : ∀ k ∈ FS ++ FW, k < w.heap.size := fun k hk => (List.mem_append.1 hk).elim (h3.lt k) (h4.lt k)
  have hne : ∀ k ∈ FS ++ FW, k ∉ FR := fun k hk hm => h7 k hm hk
  have hbel : Below w0.heap.size w w1 := ⟨hs.os, hs.tape, hs.output, hs.size, fun k hk => hs.block k (by have := h4.bel.size; omega) (fun hm => by have := (h6 k (by simp [hm])).1; omega)⟩
  refine ⟨(hs.block pb hlt hpF).trans h1, h3.keep fun k hk => hs.block k (h3.lt k hk) (hne k (by simp [hk])), h4.keep (fun k hk => hs.block k (h4.lt k hk) (hne k (by simp [hk]))) (h4.bel.trans hbel), fun k hk hm => ?_, fun k hk => ?_⟩
  · have := hv.new k hk
    have := hGW k hm; omega
  · have hlt1 := hr.lt k hk
    rcases hs.foot k hk with h | h
    · exact ⟨h7 k h, (h6 k (by simp [h])).2, (h6 k (by simp [h])).1, hlt1⟩
    · have := h4.bel.size
      exact ⟨fun hm => by have := hGW k hm; omega, by omega, by omega, hlt1⟩
theorem two_steps {FR FR' G G' : List Nat} {w w1 w2 : World} (pb : Nat) (h : Step FR FR' w w1) (k : Step G G' w1 w2) : Step (pb :: (FR ++ G)) (pb :: (FR' ++ G')) w w2 :=
  ⟨k.os.trans h.os, k.tape.trans h.tape, k.output.trans h.output, Nat.le_trans h.size k.size, fun i hi hn => (k.block i (Nat.lt_of_lt_of_le hi h.size) (fun hg => hn (by simp [hg]))).trans (h.block i hi (fun hf => hn (by simp [hf]))), fun i hi => by
    rcases List.mem_cons.1 hi with rfl | hi
    · exact .inl (by simp)
    · rcases List.mem_append.1 hi with hi | hi
      · exact (h.foot i hi).imp (fun hf => by simp [hf]) id
      · exact (k.foot i hi).imp (fun hg => by simp [hg]) (fun hs => Nat.le_trans h.size hs)⟩
theorem over_stp {F F2 : List Nat} {w w2 : World} {pb : Nat} {v0 v1 v2 v3 : Value} (h : Step F F2 w w2) (hp : pb ∈ F) : Step F [pb] w ((((w2.setCell ⟨pb, 0, none⟩ v0).setCell ⟨pb, 1, none⟩ v1).setCell ⟨pb, 2, none⟩ v2).setCell ⟨pb, 3, none⟩ v3) := by
  have hf : ∀ k, k ≠ pb → ((((w2.setCell ⟨pb, 0, none⟩ v0).setCell ⟨pb, 1, none⟩ v1).setCell ⟨pb, 2, none⟩ v2).setCell ⟨pb, 3, none⟩ v3).heap[k]? = w2.heap[k]? := fun k hk => by
    rw [Below.heap_setCell _ _ _ k hk, Below.heap_setCell _ _ _ k hk, Below.heap_setCell _ _ _ k hk, Below.heap_setCell _ _ _ k hk]
  exact ⟨h.os, h.tape, h.output, by have := h.size; simpa [World.setCell] using this, fun k hk hn => (hf k (fun e => hn (e ▸ hp))).trans (h.block k hk hn), fun k hk => .inl (by simp only [List.mem_singleton] at hk; exact hk ▸ hp)⟩
theorem step_last {w0 w w1 w2 : World} {pb D lim : Nat} {RV SV WV : Value} {FR FS FW FR' FS' FW' : List Nat} {r' : Rs} {g' : Option Gs} {q' : Ws} (m1 : Blk w1 pb (pipC 0 RV SV WV) 62) (hr : RdAt w1 D RV FR' r') (h5 : w0.heap.size ≤ pb)
    (h6 : ∀ k ∈ FS ++ FW, w0.heap.size ≤ k ∧ k ≠ pb) (m5 : ∀ k ∈ FR', k ∉ FS ++ FW ∧ k ≠ pb ∧ w0.heap.size ≤ k ∧ k < w1.heap.size) (hw : Below w0.heap.size w0 w1) (t1 : GtAt w2 lim SV FS' g') (t2 : WtAt w0 w2 WV FW' q') (t3 : Step (FS ++ FW) (FS' ++ FW') w1 w2) (t4 : ∀ k ∈ FS', k ∉ FW') (hs : Step FR FR' w w1) :
    PipAt w0 w2 pb D lim (pb :: (FR' ++ (FS' ++ FW'))) (.live r' g' q') ∧ Blk w2 pb (pipC 0 RV SV WV) 62 ∧ Step (pb :: (FR ++ (FS ++ FW))) (pb :: (FR' ++ (FS' ++ FW'))) w w2 := by
  have hlt : pb < w1.heap.size := m1.lt; have hpn : pb ∉ FS ++ FW := fun hk => (h6 pb hk).2 rfl
  have hb2 : Blk w2 pb (pipC 0 RV SV WV) 62 := (t3.block pb hlt hpn).trans m1; refine ⟨⟨RV, SV, WV, FR', FS', FW', hb2, hr.keep fun k hk => t3.block k (m5 k hk).2.2.2 (m5 k hk).1, t1, t2, h5, fun k hk => ?_, fun k hk hm => ?_, t4, t2.bel, rfl⟩, hb2, two_steps pb hs t3⟩
  · rcases List.mem_append.1 hk with hk | hk
    · exact ⟨(m5 k hk).2.2.1, (m5 k hk).2.1⟩
    · rcases t3.foot k hk with h | h
      · exact h6 k h
      · have := hw.size
        omega
  · rcases t3.foot k hm with h | h
    · exact (m5 k hk).1 h
    · have := (m5 k hk).2.2.2
      omega
theorem over_at {w0 w2 : World} {pb D lim e : Nat} {RV SV WV : Value} (h : Blk w2 pb (pipC 0 RV SV WV) 62) (h5 : w0.heap.size ≤ pb) (hb : Below w0.heap.size w0 w2) :
    PipAt w0 ((((w2.setCell ⟨pb, 0, none⟩ (.int .i64 (e : Nat))).setCell ⟨pb, 1, none⟩ .nilIface).setCell ⟨pb, 2, none⟩ (.pointer none)).setCell ⟨pb, 3, none⟩ .nilIface) pb D lim [pb] (.over e) :=
  ⟨h.four, h5, ((((hb.setCell h5 _).setCell h5 _).setCell h5 _).setCell h5 _), rfl⟩
theorem pistep_over {w0 w : World} {pb D lim e : Nat} {F : List Nat} (h : PipAt w0 w pb D lim F (.over e)) (y : UInt8) :
    Calls Tryz.prog 14 #[.pointer (some ⟨pb, 0, none⟩), .int .u8 y.toNat] w fun r w' => PipR w0 w w' pb D lim F (stepPp D lim (.over e) y) r := by
  have HH := hid (pihad_over h.1); have HF : Hid (PipR w0 w w pb D lim F (stepPp D lim (.over e) y) (.returned (.tuple #[.string ⟨#[]⟩, .int .i64 (overE e : Nat)]))) := hid ⟨rfl, F, h, Step.refl _ _⟩; have hne : ((overE e : Int) != 0) = true := by
    rw [bne_iff_ne]; unfold overE; split <;> omega
  generalize overE e = E at *
  clear h; go_enter Tryz.func14, Tryz.ntmps14; (go_wp2_with fail); refine HH.out.mono ?_; rintro r w1 ⟨rfl, rfl⟩; go_wp2; go_ret2; exact HF.out
theorem pistep_js {w0 w : World} {pb D lim M : Nat} {s : Js} {F : List Nat} {g : Option Gs} {q : Ws} (h : PipAt w0 w pb D lim F (.live (.js s) g q)) (hw : WfPp D lim M (.live (.js s) g q)) (hM : M ≤ 430) (hD : 1 ≤ D ∧ D ≤ 16) (hlim : lim ≤ 2000) (y : UInt8) :
    Calls Tryz.prog 14 #[.pointer (some ⟨pb, 0, none⟩), .int .u8 y.toNat] w fun r w' => PipR w0 w w' pb D lim F (stepPp D lim (.live (.js s) g q) y) r := by
  obtain ⟨RV, SV, WV, FR, FS, FW, h1, h2, h3, h4, h5, h6, h7, h8, h9, rfl⟩ := h; have hlF := h2.lt; obtain ⟨t1, t2, t3⟩ := told_rs hD.2 hw.1 y; have hokg := hw.2.1; have hpot := hw.2.2; obtain ⟨b, rfl, rfl, h2⟩ := h2; have HH := hid (pihad_live h1); have HR := hid (rd_js h2 y); have c1 := h1.cell 1; simp only [pipC] at c1; have hst : stepPp D lim (.live (.js s) g q) y = if (turnP lim g q (stepRs D (.js s) y).2 (errRs (stepRs D (.js s) y).1)).1.2 ≠ 0 then (.over (turnP lim g q (stepRs D (.js s) y).2 (errRs (stepRs D (.js s) y).1)).1.2, (turnP lim g q (stepRs D (.js s) y).2 (errRs (stepRs D (.js s) y).1)).1)
      else (.live (stepRs D (.js s) y).1 (turnP lim g q (stepRs D (.js s) y).2 (errRs (stepRs D (.js s) y).1)).2.1 (turnP lim g q (stepRs D (.js s) y).2 (errRs (stepRs D (.js s) y).1)).2.2, (turnP lim g q (stepRs D (.js s) y).2 (errRs (stepRs D (.js s) y).1)).1) := rfl
  generalize stepPp D lim (.live (.js s) g q) y = ST at *
  generalize stepRs D (.js s) y = R at *
  obtain ⟨r', L⟩ := R; simp only at t2 t3 hst; simp only [RdStep] at HR; have HK : Hid (∀ u w1 F1, Vls w w1 u L → RdAt w1 D _ F1 r' → Step _ F1 w w1 → _) := hid (fun u w1 F1 hv hr hs => step_mid h1 h3 h4 hlF h5 h6 h7 hv hr hs); have HT : Hid (∀ u w1, Blk w1 pb (pipC 0 (.iface 86 (.pointer (some ⟨b, 0, none⟩))) SV WV) 62 → GtAt w1 lim SV FS g → WtAt w0 w1 WV FW q → Win w1 20 1 u L.length (L.map valE) → (∀ k ∈ Value.owner u, k ∉ FS ++ FW) → _) := hid (fun u w1 a b c d f => piturn_any (told := errRs r') a b c h8 ⟨fun hk => (h6 pb (by simp [hk])).2 rfl, fun hk => (h6 pb (by simp [hk])).2 rfl⟩ (fun k hk => (h6 k (by simp [hk])).1) hokg hlim (by omega) (fun e he => tol_of (t2 e he)) d f); have H9 := hid (And.intro h5 (And.intro h6 h9)); generalize turnP lim g q L (errRs r') = T at *
  obtain ⟨⟨X, e⟩, g', q'⟩ := T; simp only [TurnR] at HT hst; clear t1 t2 t3 hw hM hD hlim hokg hpot h1 h2 h3 h4 h5 h6 h7 h8 h9 hlF; go_enter Tryz.func14, Tryz.ntmps14; (go_wp2_with fail); refine HH.out.mono ?_; rintro r w1 ⟨rfl, rfl⟩; (go_wp2_with fail); refine HR.out.mono ?_; rintro r w1 ⟨u, F1, rfl, hv, hr, hs⟩; obtain ⟨m1, m2, m3, m4, m5⟩ := HK.out u w1 F1 hv hr hs; have HT1 := hid (HT.out u w1 m1 m2 m3 hv.win m4); have HM := hid (And.intro m1 (And.intro hr (And.intro m5 (And.intro m3.bel hs)))); clear HK HT HR HH hv hr hs m1 m2 m3 m4 m5; (go_wp2_with fail); refine HT1.out.mono ?_; rintro r w2 ⟨rfl, FS', FW', p1, p2, p3, p4⟩; have HL := hid (step_last HM.out.1 HM.out.2.1 H9.out.1 (fun k hk => H9.out.2.1 k (by simp [List.mem_append.1 hk])) HM.out.2.2.1 HM.out.2.2.2.1 p1 p2 p3 p4 HM.out.2.2.2.2); have HB2 := hid p2.bel; clear p1 p2 p3 p4 HT1; by_cases h0 : e = 0
  · subst h0
    rw [if_neg (by simp)] at hst; have HF : Hid (PipR w0 w w2 pb D lim _ ST (.returned (.tuple #[.string ⟨X.toArray⟩, .int .i64 0]))) := hid (by rw [hst]; exact ⟨rfl, _, HL.out.1, HL.out.2.2⟩); clear hst; go_wp2; go_ret2; exact HF.out
  · rw [if_pos h0] at hst
    have hne : ((e : Int) != 0) = true := by rw [bne_iff_ne]; omega
    have HO := hid (over_at (D := D) (lim := lim) (e := e) HL.out.2.1 H9.out.1 HB2.out); have HF : Hid (PipR w0 w _ pb D lim _ ST (.returned (.tuple #[.string ⟨X.toArray⟩, .int .i64 (e : Nat)]))) := hid (by rw [hst]; exact ⟨rfl, _, HO.out, over_stp HL.out.2.2 (by simp)⟩); have k0 := (HL.out.2.1.cell 0)
    have k1 := (HL.out.2.1.cell 1)
    have k2 := (HL.out.2.1.cell 2)
    have k3 := (HL.out.2.1.cell 3)
    simp only [pipC] at k0 k1 k2 k3; have f0 := HL.out.2.1.froz 0; have f1 := HL.out.2.1.froz 1; have f2 := HL.out.2.1.froz 2; have f3 := HL.out.2.1.froz 3; clear hst h0; go_wp2; go_ret2; exact HF.out
theorem pistep_cb {w0 w : World} {pb D lim M : Nat} {s : Ci} {F : List Nat} {g : Option Gs} {q : Ws} (h : PipAt w0 w pb D lim F (.live (.cb s) g q)) (hw : WfPp D lim M (.live (.cb s) g q)) (hM : M ≤ 430) (hD : 1 ≤ D ∧ D ≤ 16) (hlim : lim ≤ 2000) (y : UInt8) :
    Calls Tryz.prog 14 #[.pointer (some ⟨pb, 0, none⟩), .int .u8 y.toNat] w fun r w' => PipR w0 w w' pb D lim F (stepPp D lim (.live (.cb s) g q) y) r := by
  obtain ⟨RV, SV, WV, FR, FS, FW, h1, h2, h3, h4, h5, h6, h7, h8, h9, rfl⟩ := h; have hlF := h2.lt; obtain ⟨t1, t2, t3⟩ := told_rs hD.2 hw.1 y; have hokg := hw.2.1; have hpot := hw.2.2; obtain ⟨b, vt, vs, rfl, rfl, h2⟩ := h2; have HH := hid (pihad_live h1); have HR := hid (rd_cb hD h2 hw.1.1 (by omega) y); have c1 := h1.cell 1; simp only [pipC] at c1; have hst : stepPp D lim (.live (.cb s) g q) y = if (turnP lim g q (stepRs D (.cb s) y).2 (errRs (stepRs D (.cb s) y).1)).1.2 ≠ 0 then (.over (turnP lim g q (stepRs D (.cb s) y).2 (errRs (stepRs D (.cb s) y).1)).1.2, (turnP lim g q (stepRs D (.cb s) y).2 (errRs (stepRs D (.cb s) y).1)).1)
      else (.live (stepRs D (.cb s) y).1 (turnP lim g q (stepRs D (.cb s) y).2 (errRs (stepRs D (.cb s) y).1)).2.1 (turnP lim g q (stepRs D (.cb s) y).2 (errRs (stepRs D (.cb s) y).1)).2.2, (turnP lim g q (stepRs D (.cb s) y).2 (errRs (stepRs D (.cb s) y).1)).1) := rfl
  generalize stepPp D lim (.live (.cb s) g q) y = ST at *
  generalize stepRs D (.cb s) y = R at *
  obtain ⟨r', L⟩ := R; simp only at t2 t3 hst; simp only [RdStep] at HR; have HK : Hid (∀ u w1 F1, Vls w w1 u L → RdAt w1 D _ F1 r' → Step _ F1 w w1 → _) := hid (fun u w1 F1 hv hr hs => step_mid h1 h3 h4 hlF h5 h6 h7 hv hr hs); have HT : Hid (∀ u w1, Blk w1 pb (pipC 0 (.iface 88 (.pointer (some ⟨b, 0, none⟩))) SV WV) 62 → GtAt w1 lim SV FS g → WtAt w0 w1 WV FW q → Win w1 20 1 u L.length (L.map valE) → (∀ k ∈ Value.owner u, k ∉ FS ++ FW) → _) := hid (fun u w1 a b c d f => piturn_any (told := errRs r') a b c h8 ⟨fun hk => (h6 pb (by simp [hk])).2 rfl, fun hk => (h6 pb (by simp [hk])).2 rfl⟩ (fun k hk => (h6 k (by simp [hk])).1) hokg hlim (by omega) (fun e he => tol_of (t2 e he)) d f); have H9 := hid (And.intro h5 (And.intro h6 h9)); generalize turnP lim g q L (errRs r') = T at *
  obtain ⟨⟨X, e⟩, g', q'⟩ := T; simp only [TurnR] at HT hst; clear t1 t2 t3 hw hM hD hlim hokg hpot h1 h2 h3 h4 h5 h6 h7 h8 h9 hlF; go_enter Tryz.func14, Tryz.ntmps14; (go_wp2_with fail); refine HH.out.mono ?_; rintro r w1 ⟨rfl, rfl⟩; (go_wp2_with fail); refine HR.out.mono ?_; rintro r w1 ⟨u, F1, rfl, hv, hr, hs⟩; obtain ⟨m1, m2, m3, m4, m5⟩ := HK.out u w1 F1 hv hr hs; have HT1 := hid (HT.out u w1 m1 m2 m3 hv.win m4); have HM := hid (And.intro m1 (And.intro hr (And.intro m5 (And.intro m3.bel hs)))); clear HK HT HR HH hv hr hs m1 m2 m3 m4 m5; (go_wp2_with fail); refine HT1.out.mono ?_; rintro r w2 ⟨rfl, FS', FW', p1, p2, p3, p4⟩; have HL := hid (step_last HM.out.1 HM.out.2.1 H9.out.1 (fun k hk => H9.out.2.1 k (by simp [List.mem_append.1 hk])) HM.out.2.2.1 HM.out.2.2.2.1 p1 p2 p3 p4 HM.out.2.2.2.2); have HB2 := hid p2.bel; clear p1 p2 p3 p4 HT1; by_cases h0 : e = 0
  · subst h0
    rw [if_neg (by simp)] at hst; have HF : Hid (PipR w0 w w2 pb D lim _ ST (.returned (.tuple #[.string ⟨X.toArray⟩, .int .i64 0]))) := hid (by rw [hst]; exact ⟨rfl, _, HL.out.1, HL.out.2.2⟩); clear hst; go_wp2; go_ret2; exact HF.out
  · rw [if_pos h0] at hst
    have hne : ((e : Int) != 0) = true := by rw [bne_iff_ne]; omega
    have HO := hid (over_at (D := D) (lim := lim) (e := e) HL.out.2.1 H9.out.1 HB2.out); have HF : Hid (PipR w0 w _ pb D lim _ ST (.returned (.tuple #[.string ⟨X.toArray⟩, .int .i64 (e : Nat)]))) := hid (by rw [hst]; exact ⟨rfl, _, HO.out, over_stp HL.out.2.2 (by simp)⟩); have k0 := (HL.out.2.1.cell 0)
    have k1 := (HL.out.2.1.cell 1)
    have k2 := (HL.out.2.1.cell 2)
    have k3 := (HL.out.2.1.cell 3)
    simp only [pipC] at k0 k1 k2 k3; have f0 := HL.out.2.1.froz 0; have f1 := HL.out.2.1.froz 1; have f2 := HL.out.2.1.froz 2; have f3 := HL.out.2.1.froz 3; clear hst h0; go_wp2; go_ret2; exact HF.out
theorem pistep_pk {w0 w : World} {pb D lim M : Nat} {s : Pm} {F : List Nat} {g : Option Gs} {q : Ws} (h : PipAt w0 w pb D lim F (.live (.pk s) g q)) (hw : WfPp D lim M (.live (.pk s) g q)) (hM : M ≤ 430) (hD : 1 ≤ D ∧ D ≤ 16) (hlim : lim ≤ 2000) (y : UInt8) :
    Calls Tryz.prog 14 #[.pointer (some ⟨pb, 0, none⟩), .int .u8 y.toNat] w fun r w' => PipR w0 w w' pb D lim F (stepPp D lim (.live (.pk s) g q) y) r := by
  obtain ⟨RV, SV, WV, FR, FS, FW, h1, h2, h3, h4, h5, h6, h7, h8, h9, rfl⟩ := h; have hlF := h2.lt; obtain ⟨t1, t2, t3⟩ := told_rs hD.2 hw.1 y; have hokg := hw.2.1; have hpot := hw.2.2; obtain ⟨b, vt, vs, rfl, rfl, h2⟩ := h2; have HH := hid (pihad_live h1); have HR := hid (rd_pk hD h2 hw.1 y); have c1 := h1.cell 1; simp only [pipC] at c1; have hst : stepPp D lim (.live (.pk s) g q) y = if (turnP lim g q (stepRs D (.pk s) y).2 (errRs (stepRs D (.pk s) y).1)).1.2 ≠ 0 then (.over (turnP lim g q (stepRs D (.pk s) y).2 (errRs (stepRs D (.pk s) y).1)).1.2, (turnP lim g q (stepRs D (.pk s) y).2 (errRs (stepRs D (.pk s) y).1)).1)
      else (.live (stepRs D (.pk s) y).1 (turnP lim g q (stepRs D (.pk s) y).2 (errRs (stepRs D (.pk s) y).1)).2.1 (turnP lim g q (stepRs D (.pk s) y).2 (errRs (stepRs D (.pk s) y).1)).2.2, (turnP lim g q (stepRs D (.pk s) y).2 (errRs (stepRs D (.pk s) y).1)).1) := rfl
  generalize stepPp D lim (.live (.pk s) g q) y = ST at *
  generalize stepRs D (.pk s) y = R at *
  obtain ⟨r', L⟩ := R; simp only at t2 t3 hst; simp only [RdStep] at HR; have HK : Hid (∀ u w1 F1, Vls w w1 u L → RdAt w1 D _ F1 r' → Step _ F1 w w1 → _) := hid (fun u w1 F1 hv hr hs => step_mid h1 h3 h4 hlF h5 h6 h7 hv hr hs); have HT : Hid (∀ u w1, Blk w1 pb (pipC 0 (.iface 90 (.pointer (some ⟨b, 0, none⟩))) SV WV) 62 → GtAt w1 lim SV FS g → WtAt w0 w1 WV FW q → Win w1 20 1 u L.length (L.map valE) → (∀ k ∈ Value.owner u, k ∉ FS ++ FW) → _) := hid (fun u w1 a b c d f => piturn_any (told := errRs r') a b c h8 ⟨fun hk => (h6 pb (by simp [hk])).2 rfl, fun hk => (h6 pb (by simp [hk])).2 rfl⟩ (fun k hk => (h6 k (by simp [hk])).1) hokg hlim (by omega) (fun e he => tol_of (t2 e he)) d f); have H9 := hid (And.intro h5 (And.intro h6 h9)); generalize turnP lim g q L (errRs r') = T at *
  obtain ⟨⟨X, e⟩, g', q'⟩ := T; simp only [TurnR] at HT hst; clear t1 t2 t3 hw hM hD hlim hokg hpot h1 h2 h3 h4 h5 h6 h7 h8 h9 hlF; go_enter Tryz.func14, Tryz.ntmps14; (go_wp2_with fail); refine HH.out.mono ?_; rintro r w1 ⟨rfl, rfl⟩; (go_wp2_with fail); refine HR.out.mono ?_; rintro r w1 ⟨u, F1, rfl, hv, hr, hs⟩; obtain ⟨m1, m2, m3, m4, m5⟩ := HK.out u w1 F1 hv hr hs; have HT1 := hid (HT.out u w1 m1 m2 m3 hv.win m4); have HM := hid (And.intro m1 (And.intro hr (And.intro m5 (And.intro m3.bel hs)))); clear HK HT HR HH hv hr hs m1 m2 m3 m4 m5; (go_wp2_with fail); refine HT1.out.mono ?_; rintro r w2 ⟨rfl, FS', FW', p1, p2, p3, p4⟩; have HL := hid (step_last HM.out.1 HM.out.2.1 H9.out.1 (fun k hk => H9.out.2.1 k (by simp [List.mem_append.1 hk])) HM.out.2.2.1 HM.out.2.2.2.1 p1 p2 p3 p4 HM.out.2.2.2.2); have HB2 := hid p2.bel; clear p1 p2 p3 p4 HT1; by_cases h0 : e = 0
  · subst h0
    rw [if_neg (by simp)] at hst; have HF : Hid (PipR w0 w w2 pb D lim _ ST (.returned (.tuple #[.string ⟨X.toArray⟩, .int .i64 0]))) := hid (by rw [hst]; exact ⟨rfl, _, HL.out.1, HL.out.2.2⟩); clear hst; go_wp2; go_ret2; exact HF.out
  · rw [if_pos h0] at hst
    have hne : ((e : Int) != 0) = true := by rw [bne_iff_ne]; omega
    have HO := hid (over_at (D := D) (lim := lim) (e := e) HL.out.2.1 H9.out.1 HB2.out); have HF : Hid (PipR w0 w _ pb D lim _ ST (.returned (.tuple #[.string ⟨X.toArray⟩, .int .i64 (e : Nat)]))) := hid (by rw [hst]; exact ⟨rfl, _, HO.out, over_stp HL.out.2.2 (by simp)⟩); have k0 := (HL.out.2.1.cell 0)
    have k1 := (HL.out.2.1.cell 1)
    have k2 := (HL.out.2.1.cell 2)
    have k3 := (HL.out.2.1.cell 3)
    simp only [pipC] at k0 k1 k2 k3; have f0 := HL.out.2.1.froz 0; have f1 := HL.out.2.1.froz 1; have f2 := HL.out.2.1.froz 2; have f3 := HL.out.2.1.froz 3; clear hst h0; go_wp2; go_ret2; exact HF.out
end
section
open Go.RowKit
open Go.Lib
def EndS (w w' : World) (F : List Nat) (q : List Ev × Nat) (r : Ending) : Prop :=
  ∃ u F', r = .returned (.tuple #[u, .int .i64 (q.2 : Nat)]) ∧ Vls w w' u q.1 ∧ Step F F' w w'
theorem js_teller (v : Value) (W : World) : (Instr.typeAssert (.iface 86 v) 55 114 true).run Tryz.prog W = .ok (.tuple #[.iface 86 v, .bool true]) W := run_typeAssert_hasB Tryz.underlying114 (by kernel_rfl) v _ W
theorem cb_teller (v : Value) (W : World) : (Instr.typeAssert (.iface 88 v) 55 114 true).run Tryz.prog W = .ok (.tuple #[.nilIface, .bool false]) W := run_typeAssert_lacksB Tryz.underlying114 (by kernel_rfl) (by kernel_rfl) v _ W
theorem cb_asker (v : Value) (W : World) : (Instr.typeAssert (.iface 88 v) 55 118 true).run Tryz.prog W = .ok (.tuple #[.iface 88 v, .bool true]) W := run_typeAssert_hasB Tryz.underlying118 (by kernel_rfl) v _ W
theorem pk_teller (v : Value) (W : World) : (Instr.typeAssert (.iface 90 v) 55 114 true).run Tryz.prog W = .ok (.tuple #[.nilIface, .bool false]) W := run_typeAssert_lacksB Tryz.underlying114 (by kernel_rfl) (by kernel_rfl) v _ W
theorem pk_asker (v : Value) (W : World) : (Instr.typeAssert (.iface 90 v) 55 118 true).run Tryz.prog W = .ok (.tuple #[.iface 90 v, .bool true]) W := run_typeAssert_hasB Tryz.underlying118 (by kernel_rfl) v _ W
theorem endof_js {w : World} {b D : Nat} {s : Js} (h : PAt w b 0 D s) : Calls Tryz.prog 32 #[.iface 86 (.pointer (some ⟨b, 0, none⟩))] w fun r w' => EndS w w' [b] (endRs D (.js s)) r := by
  have HE := hid (jend_at h); have a1 := js_teller; simp only [endRs]; generalize endJ D s = Q at *
  clear h; go_enter Tryz.func32, Tryz.ntmps32; (go_wp2_with fail); refine HE.out.mono ?_; rintro r w1 ⟨⟨u, rfl, hv⟩, hs⟩; have HF : Hid (EndS w w1 [b] Q (.returned (.tuple #[u, .int .i64 (Q.2 : Nat)]))) := hid ⟨u, [b], rfl, hv, hs.step⟩; clear hv hs; go_wp2; go_ret2; exact HF.out
theorem endof_cb {w : World} {b D M : Nat} {s : Ci} {vt vs : Value} (hD : 1 ≤ D) (h : StP w b 0 D s vt vs) (hw : WfK D M s) : Calls Tryz.prog 32 #[.iface 88 (.pointer (some ⟨b, 0, none⟩))] w fun r w' => EndS w w' (b :: (Value.owner vt ++ Value.owner vs)) (endRs D (.cb s)) r := by
  have HE := hid (cend_at hD h hw); have a1 := cb_teller; have a2 := cb_asker; simp only [endRs]; generalize endCi s = Q at *
  clear h hw hD; go_enter Tryz.func32, Tryz.ntmps32; (go_wp2_with fail); refine HE.out.mono ?_; rintro r w1 ⟨rfl, rfl⟩; have HF : Hid (EndS w w (b :: (Value.owner vt ++ Value.owner vs)) ([], Q) (.returned (.tuple #[.slice none 0 0, .int .i64 (Q : Nat)]))) := hid ⟨_, _, rfl, Vls.nil_ _ _, Step.refl _ _⟩; go_wp2; go_ret2; exact HF.out
theorem endof_pk {w : World} {b D : Nat} {s : Pm} {vt vs : Value} (hD : 1 ≤ D) (h : StPm w b 0 D s vt vs) (hw : WfPm D s) : Calls Tryz.prog 32 #[.iface 90 (.pointer (some ⟨b, 0, none⟩))] w fun r w' => EndS w w' (b :: (Value.owner vt ++ Value.owner vs)) (endRs D (.pk s)) r := by
  have HE := hid (pend_at hD h hw); have a1 := pk_teller; have a2 := pk_asker; simp only [endRs]; generalize endPm s = Q at *
  clear h hw hD; go_enter Tryz.func32, Tryz.ntmps32; (go_wp2_with fail); refine HE.out.mono ?_; rintro r w1 ⟨rfl, rfl⟩; have HF : Hid (EndS w w (b :: (Value.owner vt ++ Value.owner vs)) ([], Q) (.returned (.tuple #[.slice none 0 0, .int .i64 (Q : Nat)]))) := hid ⟨_, _, rfl, Vls.nil_ _ _, Step.refl _ _⟩; go_wp2; go_ret2; exact HF.out
theorem endof_any {w : World} {D M : Nat} {V : Value} {F : List Nat} {r0 : Rs} (h : RdAt w D V F r0) (hD : 1 ≤ D) (hw : WfRs D M r0) : Calls Tryz.prog 32 #[V] w fun r w' => EndS w w' F (endRs D r0) r := by
  cases r0 with
  | js s =>
    obtain ⟨b, rfl, rfl, h⟩ := h; exact endof_js h
  | cb s =>
    obtain ⟨b, vt, vs, rfl, rfl, h⟩ := h; exact endof_cb hD h hw.1
  | pk s =>
    obtain ⟨b, vt, vs, rfl, rfl, h⟩ := h; exact endof_pk hD h hw
theorem end_mid {w0 w w1 : World} {pb lim : Nat} {RV SV WV u : Value} {FR FS FW F' : List Nat} {g : Option Gs} {q : Ws} {L : List Ev} (h1 : Blk w pb (pipC 0 RV SV WV) 62) (h3 : GtAt w lim SV FS g) (h4 : WtAt w0 w WV FW q)
    (h6 : ∀ k ∈ FR ++ (FS ++ FW), w0.heap.size ≤ k ∧ k ≠ pb) (h7 : ∀ k ∈ FR, k ∉ FS ++ FW) (hv : Vls w w1 u L) (hs : Step FR F' w w1) :
    Blk w1 pb (pipC 0 RV SV WV) 62 ∧ GtAt w1 lim SV FS g ∧ WtAt w0 w1 WV FW q ∧ (∀ k ∈ Value.owner u, k ∉ FS ++ FW) := by
  have hlt : pb < w.heap.size := h1.lt; have hpF : pb ∉ FR := fun hk => (h6 pb (by simp [hk])).2 rfl
  have hGW : ∀ k ∈ FS ++ FW, k < w.heap.size := fun k hk => (List.mem_append.1 hk).elim (h3.lt k) (h4.lt k)
  have hne : ∀ k ∈ FS ++ FW, k ∉ FR := fun k hk hm => h7 k hm hk
  have hbel : Below w0.heap.size w w1 := ⟨hs.os, hs.tape, hs.output, hs.size, fun k hk => hs.block k (by have := h4.bel.size; omega) (fun hm => by have := (h6 k (by simp [hm])).1; omega)⟩
  refine ⟨(hs.block pb hlt hpF).trans h1, h3.keep fun k hk => hs.block k (h3.lt k hk) (hne k (by simp [hk])), h4.keep (fun k hk => hs.block k (h4.lt k hk) (hne k (by simp [hk]))) (h4.bel.trans hbel), fun k hk hm => ?_⟩; have := hv.new k hk; have := hGW k hm; omega
theorem piend_over {w0 w : World} {pb D lim e : Nat} {F : List Nat} (h : PipAt w0 w pb D lim F (.over e)) :
    Calls Tryz.prog 18 #[.pointer (some ⟨pb, 0, none⟩)] w fun r w' => PipR w0 w w' pb D lim F (endPp D lim (.over e)) r := by
  have HH := hid (pihad_over h.1); have HF : Hid (PipR w0 w w pb D lim F (endPp D lim (.over e)) (.returned (.tuple #[.string ⟨#[]⟩, .int .i64 (overE e : Nat)]))) := hid ⟨rfl, F, h, Step.refl _ _⟩; have hne : ((overE e : Int) != 0) = true := by
    rw [bne_iff_ne]; unfold overE; split <;> omega
  generalize overE e = E at *
  clear h; go_enter Tryz.func18, Tryz.ntmps18; (go_wp2_with fail); refine HH.out.mono ?_; rintro r w1 ⟨rfl, rfl⟩; go_wp2; go_ret2; exact HF.out
theorem piend_live {w0 w : World} {pb D lim M : Nat} {F : List Nat} {r0 : Rs} {g : Option Gs} {q : Ws} (h : PipAt w0 w pb D lim F (.live r0 g q)) (hw : WfPp D lim M (.live r0 g q)) (hM : M ≤ 430) (hD : 1 ≤ D ∧ D ≤ 16) (hlim : lim ≤ 2000) :
    Calls Tryz.prog 18 #[.pointer (some ⟨pb, 0, none⟩)] w fun r w' => PipR w0 w w' pb D lim F (endPp D lim (.live r0 g q)) r := by
  obtain ⟨RV, SV, WV, FR, FS, FW, h1, h2, h3, h4, h5, h6, h7, h8, h9, rfl⟩ := h; obtain ⟨t2, t3⟩ := told_end_rs D r0; have hokg := hw.2.1; have hpot := hw.2.2; have HR := hid (endof_any h2 hD.1 hw.1); obtain ⟨d, b, rfl⟩ := h2.form; have HH := hid (pihad_live h1); have c1 := h1.cell 1; simp only [pipC] at c1; have hst : endPp D lim (.live r0 g q) = (.over (turnP lim g q (endRs D r0).1 (endRs D r0).2).1.2, (turnP lim g q (endRs D r0).1 (endRs D r0).2).1) := rfl; generalize endPp D lim (.live r0 g q) = ST at *
  generalize endRs D r0 = R at *
  obtain ⟨L, er⟩ := R; simp only at t2 t3 hst; simp only [EndS] at HR; have HK : Hid (∀ u w1 F1, Vls w w1 u L → Step FR F1 w w1 → _) := hid (fun u w1 F1 hv hs => end_mid h1 h3 h4 h6 h7 hv hs); have HT : Hid (∀ u w1, Blk w1 pb (pipC 0 (.iface d (.pointer (some ⟨b, 0, none⟩))) SV WV) 62 → GtAt w1 lim SV FS g → WtAt w0 w1 WV FW q → Win w1 20 1 u L.length (L.map valE) → (∀ k ∈ Value.owner u, k ∉ FS ++ FW) → _) := hid (fun u w1 a b c d f => piturn_any (told := er) a b c h8 ⟨fun hk => (h6 pb (by simp [hk])).2 rfl, fun hk => (h6 pb (by simp [hk])).2 rfl⟩ (fun k hk => (h6 k (by simp [hk])).1) hokg hlim (by omega) (fun e he => tol_of (t2 e he)) d f); have H9 : Hid (w0.heap.size ≤ pb ∧ pb ∉ FS ++ FW) := hid ⟨h5, fun hk => (h6 pb (List.mem_append_right _ hk)).2 rfl⟩; generalize turnP lim g q L er = T at *
  obtain ⟨⟨X, e⟩, g', q'⟩ := T; simp only [TurnR] at HT hst; clear t2 t3 hw hM hD hlim hokg hpot h1 h2 h3 h4 h5 h6 h7 h8 h9; go_enter Tryz.func18, Tryz.ntmps18; (go_wp2_with fail); refine HH.out.mono ?_; rintro r w1 ⟨rfl, rfl⟩; (go_wp2_with fail); refine HR.out.mono ?_; rintro r w1 ⟨u, F1, rfl, hv, hs⟩; obtain ⟨m1, m2, m3, m4⟩ := HK.out u w1 F1 hv hs; have HT1 := hid (HT.out u w1 m1 m2 m3 hv.win m4); have HM := hid (And.intro m1 hs); clear HK HT HR HH hv hs m1 m2 m3 m4; (go_wp2_with fail); refine HT1.out.mono ?_; rintro r w2 ⟨rfl, FS', FW', p1, p2, p3, p4⟩; have hB2 : Blk w2 pb (pipC 0 (.iface d (.pointer (some ⟨b, 0, none⟩))) SV WV) 62 := (p3.block pb HM.out.1.lt H9.out.2).trans HM.out.1; have HL := hid hB2; have HST := hid (two_steps pb HM.out.2 p3); have HB2 := hid p2.bel; clear p1 p2 p3 p4 HT1 hB2; have HO := hid (over_at (D := D) (lim := lim) (e := e) HL.out H9.out.1 HB2.out); have HF : Hid (PipR w0 w _ pb D lim _ ST (.returned (.tuple #[.string ⟨X.toArray⟩, .int .i64 (e : Nat)]))) := hid (by rw [hst]; exact ⟨rfl, _, HO.out, over_stp HST.out (by simp)⟩); have k0 := (HL.out.cell 0)
  have k1 := (HL.out.cell 1)
  have k2 := (HL.out.cell 2)
  have k3 := (HL.out.cell 3)
  simp only [pipC] at k0 k1 k2 k3; have f0 := HL.out.froz 0; have f1 := HL.out.froz 1; have f2 := HL.out.froz 2; have f3 := HL.out.froz 3; clear hst; go_wp2; go_ret2; exact HF.out
theorem pistep_any {w0 w : World} {pb D lim M : Nat} {F : List Nat} {s : Pp} (h : PipAt w0 w pb D lim F s) (hw : WfPp D lim M s) (hM : M ≤ 430) (hD : 1 ≤ D ∧ D ≤ 16) (hlim : lim ≤ 2000) (y : UInt8) :
    Calls Tryz.prog 14 #[.pointer (some ⟨pb, 0, none⟩), .int .u8 y.toNat] w fun r w' => PipR w0 w w' pb D lim F (stepPp D lim s y) r := by
  cases s with
  | over e => exact pistep_over h y
  | live r g q =>
    cases r with
    | js s => exact pistep_js h hw hM hD hlim y
    | cb s => exact pistep_cb h hw hM hD hlim y
    | pk s => exact pistep_pk h hw hM hD hlim y
theorem piend_any {w0 w : World} {pb D lim M : Nat} {F : List Nat} {s : Pp} (h : PipAt w0 w pb D lim F s) (hw : WfPp D lim M s) (hM : M ≤ 430) (hD : 1 ≤ D ∧ D ≤ 16) (hlim : lim ≤ 2000) :
    Calls Tryz.prog 18 #[.pointer (some ⟨pb, 0, none⟩)] w fun r w' => PipR w0 w w' pb D lim F (endPp D lim s) r := by
  cases s with
  | over e => exact piend_over h
  | live r g q => exact piend_live h hw hM hD hlim
end
end Go.Proofs.YtkgconbdmnmbnaaGreat
