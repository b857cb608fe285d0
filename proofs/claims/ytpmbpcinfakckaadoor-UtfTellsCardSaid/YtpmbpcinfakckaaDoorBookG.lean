/-
  THE HELPERS' BOOK OF LISTS OF INTS, PART 7: Apart.
-/
import Derived.Test.YtpmbpcinfakckaaDoorBookF
namespace Go.Proofs.YtpmbpcinfakckaaDoor
open Go.RowKit
open Go.Lib
theorem FamF.fam {w : World} {vs : List Value} {c : Nat → List Int} (h : FamF w vs c) : Fam w vs ((List.range vs.length).map c) := by
  refine ⟨by simp, fun i v xs hv hx => ?_⟩
  have hi := (List.getElem?_eq_some_iff.1 hv).1
  rw [List.getElem?_map, List.getElem?_range hi] at hx
  injection hx with hx
  subst hx
  exact h i v hv
theorem fam_marks {w : World} {vs : List Value} {n : Nat} (f : Nat → Nat) (hn : vs.length = n) (h : ∀ (i : Nat) (v : Value), vs[i]? = some v → IWin w v (marks i 0 (f i))) : Fam w vs ((((List.range n).map f).zipIdx).map fun p => marks p.2 0 p.1) := by
  refine ⟨by simp [hn], fun i v xs hv hx => ?_⟩
  have hi := (List.getElem?_eq_some_iff.1 hv).1
  rw [List.getElem?_map, List.getElem?_zipIdx, List.getElem?_map, List.getElem?_range (by omega)] at hx
  simp at hx
  subst hx
  exact h i v hv
theorem not_owns {w : World} {vs : List Value} {c : Nat → List Int} (h : FamF w vs c) {x : Nat} {cur : Array Value} {t : TypeId} {fr : Nat × Nat} (hx : w.heap[x]? = some (.cells cur t fr)) (ht : 3 ≠ t) : ¬ Owns vs x := by
  rintro ⟨i, v, hv, hxv⟩
  obtain ⟨c', hc⟩ := Win.typed (h i v hv) x hxv
  rw [hx] at hc
  injection hc with hc
  injection hc with _ h2 _
  exact ht h2.symm
set_option maxRecDepth 100000 in
set_option maxHeartbeats 1000000 in
theorem apart_any {B : Nat} {w : World} {b : Nat} {vs ws : List Value} {xss : Nat → List Int} (h : BookI B w b vs ws xss) (hB : B ≤ w.heap.size) (hn : ∀ i, (xss i).length ≤ 80000) (hm : vs.length ≤ 250) :
    Calls Tryd.prog 21 #[.pointer (some ⟨b, 0, none⟩)] w fun e w' => e = .returned (.bool true) ∧ Below B w w' := by
  obtain ⟨vi, wi, hb, hvi, hwi, hlen, hfv, hfw, hd, hdis, hbB, hoB, hviB, hwiB⟩ := h
  have cells : ∀ {W : World} {vi wi : Value}, W.heap[b]? = some (.cells #[.slice none 0 0, .slice none 0 0, vi, wi, .slice none 0 0, .slice none 0 0] 38 (0, 0)) →
      W.cell? ⟨b, 0, none⟩ = some (.slice none 0 0) ∧ W.cell? ⟨b, 2, none⟩ = some vi ∧ W.cell? ⟨b, 3, none⟩ = some wi ∧ W.cell? ⟨b, 4, none⟩ = some (.slice none 0 0) := fun {W vi wi} h => by
    simp [World.cell?, h]
  have hbo : ¬ Owns vs b := not_owns hfv hb (by decide)
  have hvio : ∀ x ∈ Value.owner vi, ¬ Owns vs x := fun x hx => by
    obtain ⟨cur, hc⟩ := Win.typed hvi x hx
    exact not_owns hfv hc (by decide)
  have hbl : b < w.heap.size := (Array.getElem?_eq_some_iff.1 hb).1
  obtain ⟨d0, d2, d3, d4⟩ := cells hb
  have hStill := still_any d2 d3 hvi hwi hlen hfv.fam (by
    have := hfw.fam
    rw [hlen] at this
    exact this) (fun xs hx => by
    obtain ⟨i, _, rfl⟩ := List.mem_map.1 hx
    have := hn i
    omega) (by omega)
  have HS := Lib.hid hStill
  have HST := Lib.hid (stillTexts_none w b d0)
  have HALL := Lib.hid (And.intro hb (And.intro hvi (And.intro hfv (And.intro hd (And.intro hbo hvio)))))
  have HFRM := Lib.hid (And.intro hbB (And.intro hoB hB))
  have HN := Lib.hid hn
  clear hStill d0 d2 d3 d4 hwi hlen hfw hdis hviB hwiB hn hb hvi hfv hd hbo hvio hbB hoB hB
  go_enter Tryd.func21, Tryd.ntmps21
  go_wp2_with fail
  refine HST.out.mono ?_
  rintro e w' ⟨rfl, rfl⟩
  go_wp2_with fail
  refine HS.out.mono ?_
  rintro e W ⟨rfl, q, hW⟩
  have hWh : W.heap = w.heap := by rw [hW]; rfl
  have HW0 : Hid (Below B w W) := Lib.hid (by rw [hW]; exact below_drewN (Below.refl _ _) q)
  have hbW := HALL.out.1
  rw [← hWh] at hbW
  have HB1 := Lib.hid hbW
  have HV1 : Hid (LWin W vi vs) := Lib.hid (Win.keep HALL.out.2.1 fun k _ => by rw [hWh])
  have HF1 : Hid (FamF W vs xss) := Lib.hid (fun i v hv => (HALL.out.2.2.1 i v hv).heap hWh)
  have hszW : w.heap.size = W.heap.size := by rw [hWh]
  obtain ⟨_, _, _, e4⟩ := cells HB1.out
  have HSE := Lib.hid (stillEvs_none W b e4)
  obtain ⟨e0, _, _, _⟩ := cells HB1.out
  have HPT := Lib.hid (putTexts_none W b e0)
  obtain ⟨_, e2, _, _⟩ := cells HB1.out
  have hPut := put_any (ns := fun i => (xss i).length) (w := W) (b := b) (vi := vi) (vs := vs) ⟨⟨xss, HF1.out, fun i => rfl, fun i hi => by omega⟩, e2, HV1.out, Fr.refl _ _⟩ HALL.out.2.2.2.1 HALL.out.2.2.2.2.1 HALL.out.2.2.2.2.2 (fun i _ => by have := HN.out i; show (xss i).length ≤ 100000; omega) (by omega)
  have HP := Lib.hid hPut
  clear HST HS hbW hWh hW e0 e2 e4 hPut HF1 HV1
  go_wp2_with fail
  refine HSE.out.mono ?_
  rintro e w' ⟨rfl, rfl⟩
  go_wp2_with fail
  refine HPT.out.mono ?_
  rintro e w' ⟨rfl, rfl⟩
  go_wp2_with fail
  refine HP.out.mono ?_
  rintro e w2 ⟨rfl, hS2⟩
  obtain ⟨⟨c, f1, f2, f3⟩, f4, f5, f6⟩ := hS2
  have hb2 := (f6.block b (by omega) HALL.out.2.2.2.2.1).trans HB1.out
  have HB2 := Lib.hid hb2
  have HF2 : Hid (FamF w2 vs (fun i => marks i 0 (xss i).length)) := Lib.hid (fun i v hv => by
    have := f1 i v hv
    rw [f3 i (List.getElem?_eq_some_iff.1 hv).1] at this
    exact this)
  have HFr : Hid (Below B w w2) := Lib.hid (HW0.out.trans (f6.below HFRM.out.2.1 (by have := HFRM.out.2.2; omega)))
  obtain ⟨g0, _, _, g4⟩ := cells HB2.out
  have HPE := Lib.hid (putEvs_none w2 b g4)
  have HGT := Lib.hid (growTexts_none w2 b g0)
  have hGrow := grow_any (ns := fun i => (xss i).length) HF2.out f4 f5 HALL.out.2.2.2.1 HALL.out.2.2.2.2.1 HALL.out.2.2.2.2.2 (fun i _ => by have := HN.out i; show (xss i).length ≤ 90000; omega) (by omega)
  have HG := Lib.hid hGrow
  have hbl2 : b < w2.heap.size := (Array.getElem?_eq_some_iff.1 hb2).1
  clear HSE HPT HP f1 f2 f3 f4 f5 f6 hb2 g0 g4 hGrow HF2
  go_wp2_with fail
  refine HPE.out.mono ?_
  rintro e w' ⟨rfl, rfl⟩
  go_wp2_with fail
  refine HGT.out.mono ?_
  rintro e w' ⟨rfl, rfl⟩
  go_wp2_with fail
  refine HG.out.mono ?_
  rintro e w3 ⟨out, gs, rfl, hS3⟩
  obtain ⟨k1, k2, k3, k4, k5, k6, k7, k8⟩ := hS3
  have hb3 := (k8.block b hbl2 HALL.out.2.2.2.2.1).trans HB2.out
  have HB3 := Lib.hid hb3
  have HFr3 : Hid (Below B w w3) := Lib.hid (HFr.out.trans (k8.below HFRM.out.2.1 (Nat.le_trans HFRM.out.2.2 HFr.out.size)))
  obtain ⟨_, _, _, g4⟩ := cells HB3.out
  have HGE := Lib.hid (growEvs_none w3 b g4)
  have hM1 := marked_any ((List.range vs.length).map fun i => (xss i).length + 72) k2 (by simp [k1]) (fam_marks (fun i => (xss i).length + 72) k1 (fun i u hu => (k5 i u hu).1)) (fun n hn => by
    obtain ⟨i, _, rfl⟩ := List.mem_map.1 hn
    have := HN.out i
    omega) (by omega)
  have HM1 := Lib.hid hM1
  have HV3 := Lib.hid k7
  have HF3 := Lib.hid k4
  obtain ⟨oa, oc, rfl, _, _⟩ := Win.slice_form k2
  have hbl3 : b < w3.heap.size := (Array.getElem?_eq_some_iff.1 hb3).1
  clear HPE HGT HG k1 k2 k3 k4 k5 k6 k7 k8 g4 hb3 hM1
  have HT := Lib.hid (markedTexts_none)
  have HE := Lib.hid (markedEvs_none)
  go_wp2_with fail
  refine HGE.out.mono ?_
  rintro e w' ⟨rfl, rfl⟩
  obtain ⟨g0, g2, _, g4⟩ := cells HB3.out
  go_wp2_with fail
  refine (HT.out _).mono ?_
  rintro e w' ⟨rfl, rfl⟩
  go_wp2_with fail
  refine (HT.out _).mono ?_
  rintro e w' ⟨rfl, rfl⟩
  go_wp2_with fail
  refine HM1.out.mono ?_
  rintro e w4 ⟨rfl, b4⟩
  have hb4 := (b4.block b hbl3).trans HB3.out
  have HB4 := Lib.hid hb4
  have hM2 := marked_any ((List.range vs.length).map fun i => (xss i).length) (HV3.out.new b4) (by simp) (fam_marks (fun i => (xss i).length) rfl (fun i u hu => HF3.out.new b4 i u hu)) (fun n hn => by
    obtain ⟨i, _, rfl⟩ := List.mem_map.1 hn
    have := HN.out i
    show (xss i).length ≤ 100000
    omega) (by omega)
  have HM2 := Lib.hid hM2
  have HFr4 : Hid (Below B w w4) := Lib.hid (HFr3.out.trans (b4.mono (Nat.le_trans HFRM.out.2.2 HFr3.out.size)))
  obtain ⟨va, vc, rfl, _, _⟩ := Win.slice_form HV3.out
  clear b4 hb4 hM2 HM1 g0 g2 g4
  obtain ⟨_, g2, _, g4⟩ := cells HB4.out
  have hbl4 : b < w4.heap.size := (Array.getElem?_eq_some_iff.1 HB4.out).1
  go_wp2_with fail
  refine HM2.out.mono ?_
  rintro e w5 ⟨rfl, b5⟩
  have hb5 := (b5.block b hbl4).trans HB4.out
  have HFr5 : Hid (Below B w w5) := Lib.hid (HFr4.out.trans (b5.mono (Nat.le_trans HFRM.out.2.2 HFr4.out.size)))
  clear g2 g4
  obtain ⟨_, _, _, g4⟩ := cells hb5
  clear hb5 b5 HM2
  go_wp2_with fail
  refine (HE.out _).mono ?_
  rintro e w' ⟨rfl, rfl⟩
  go_wp2_with fail
  refine (HE.out _).mono ?_
  rintro e w' ⟨rfl, rfl⟩
  go_wp2
  go_ret
  exact ⟨rfl, HFr5.out⟩
end Go.Proofs.YtpmbpcinfakckaaDoor
