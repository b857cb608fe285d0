/-
  LAWS of chapter 4: UtfCuts.
-/
import Derived.Test.YtpmbpcinfakckaaDoorUtfMap
import Derived.Deep.RegionHeld3
namespace Go.Proofs.YtpmbpcinfakckaaDoor
open Go.RowKit
open Go.Lib
/-- What the loop over the runes has made of k of them: the text, and the map of its ends. -/
def CutMid (B : Nat) (w0 : World) (zs : List Int) (b : Nat) (k : Nat) (t : ByteArray) (w : World) : Prop :=
  ∃ ns : List Nat, ns.length = k ∧ zs.take k = ns.map (fun (n : Nat) => (n : Int)) ∧ (∀ n ∈ ns, IsRune n) ∧ t = textOf ns ∧ MIs w b (k + 1) (endAt ns) ∧ Below B w0 w ∧ B ≤ b
def CutAt (B : Nat) (w0 : World) (zs : List Int) (b : Nat) (k : Nat) (t : ByteArray) (ns : List Nat) (w : World) : Prop :=
  ns.length = k ∧ zs.take k = ns.map (fun (n : Nat) => (n : Int)) ∧ (∀ n ∈ ns, IsRune n) ∧ t = textOf ns ∧ MIs w b (k + 1) (endAt ns) ∧ Below B w0 w ∧ B ≤ b
theorem cut_next {B : Nat} {w0 w w' : World} {zs : List Int} {b k n : Nat} {t : ByteArray} {ns : List Nat} (h : CutAt B w0 zs b k t ns w) (hB : B ≤ w0.heap.size) (hk : k < zs.length) (hz : zs[k]'hk = (n : Int)) (hr : IsRune n)
    (hm : MIs w' b (k + 1 + 1) (fun j => endAt ns j || decide (j = (t.size : Int) + ((Utf8.encode (n : Int)).size : Int)))) (hg : w.grownBy w' (some b)) : CutMid B w0 zs b (k + 1) (t ++ Utf8.encode (n : Int)) w' := by
  obtain ⟨h1, h2, h3, rfl, h5, h6, h7⟩ := h
  refine ⟨ns ++ [n], by simp [h1], ?_, ?_, textOf_snoc ns n, ?_, h6.grown hg (Nat.le_trans hB h6.size) (fun j hj => by cases hj; exact h7), h7⟩
  · rw [List.take_add_one, List.getElem?_eq_getElem hk, hz, h2]
    simp
  · intro m hm
    rcases List.mem_append.1 hm with hm | hm
    · exact h3 m hm
    · simp only [List.mem_singleton] at hm
      subst hm
      exact hr
  · rw [enc_size, show (textOf ns).size = (ns.flatMap encL).length from (size_list _).symm, ← Int.natCast_add] at hm
    exact hm.same fun j => endAt_snoc ns n h3 hr j
theorem rem_place2 (a : Int) (n : Nat) (hm : n ≤ 1000000) : ∃ k : Nat, k ≤ n ∧ ((wrap64 (wrap64 (a.tmod ((n : Int) + 1) + n) + 1)).tmod ((n : Int) + 1)) = (k : Int) := by
  have h1 := Int.tmod_lt_of_pos a (show (0 : Int) < (n : Int) + 1 by omega)
  have h2 := Int.lt_tmod_of_pos a (show (0 : Int) < (n : Int) + 1 by omega)
  rw [wrap64_of (x := a.tmod ((n : Int) + 1) + n) (by omega), wrap64_of (by omega)]
  have h3 : 0 ≤ a.tmod ((n : Int) + 1) + n + 1 := by omega
  have h4 := Int.tmod_nonneg ((n : Int) + 1) h3
  have h5 := Int.tmod_lt_of_pos (a.tmod ((n : Int) + 1) + n + 1) (show (0 : Int) < (n : Int) + 1 by omega)
  exact ⟨((a.tmod ((n : Int) + 1) + n + 1).tmod ((n : Int) + 1)).toNat, by omega, by omega⟩
/-- The Check and the map beside it. -/
def Two (B : Nat) (w0 w : World) (p : Nat) (s : Option (Nat × Nat × Nat)) (b m : Nat) (S : Int → Bool) : Prop := CIs B w0 w p s ∧ MIs w b m S ∧ b < p
theorem Two.post {B : Nat} {w0 w w' : World} {p : Nat} {s s' : Option (Nat × Nat × Nat)} {b m : Nat} {S : Int → Bool} (h : Two B w0 w p s b m S) (hB : B ≤ w0.heap.size) (hp : CPost w p s' w') : Two B w0 w' p s' b m S :=
  ⟨h.1.post hB hp, h.2.1.keep (hp.2.block b h.2.1.lt (by simp; have := h.2.2; omega)), h.2.2⟩
/-- What the last statement's calls leave as it is. -/
def CutS (p : Nat) (s : Option (Nat × Nat × Nat)) (w0 w : World) : Prop := CAt w p s ∧ Below w0.heap.size w0 w
theorem CutS.go {p : Nat} {s : Option (Nat × Nat × Nat)} {w0 w w' : World} (h : CutS p s w0 w) (hb : Below w.heap.size w w') : CutS p s w0 w' :=
  ⟨h.1.below hb h.1.lt, h.2.trans (hb.mono h.2.size)⟩
theorem CutS.drew {p : Nat} {s : Option (Nat × Nat × Nat)} {w0 w : World} (h : CutS p s w0 w) : CutS p s w0 w.drew := ⟨h.1, h.2.drew⟩
set_option maxRecDepth 100000 in
set_option maxHeartbeats 1600000 in
theorem cuts_main (A : Option Addr) (n c : Nat) (zs : List Int) (k0 : Int) (w : World) (hl : zs.length = n) (hR : Reads w w.heap.size 1 A n (zs.map (Value.int .i64))) (hn : n ≤ 40) (_ : -9223372036854775808 ≤ k0 ∧ k0 ≤ 9223372036854775807) (hT : Tabs w) :
    Calls Tryd.prog 5 #[.slice A n c, .int .i64 k0] w fun e w' => e = .returned (.bool true) ∧ Below w.heap.size w w' := by
  have HA := Lib.hid (alive_any w hT)
  have HT := Lib.hid hT
  have hTl := hT.lt
  have HR := Lib.hid hR
  have c1 : ¬ (40 : Int) < (n : Int) := by omega
  have hmm := @run_makeMap Tryd.prog
  clear hT hR
  go_enter Tryd.func5, Tryd.ntmps5
  go_wp2_with fail
  refine HA.out.mono ?_
  rintro e w1 ⟨rfl, b1⟩
  obtain ⟨b, hb⟩ : ∃ b, b = w1.heap.size := ⟨_, rfl⟩
  have hwb : w.heap.size ≤ b := by rw [hb]; exact b1.size
  have HB := Lib.hid hb
  have B1 := Lib.hid (b1.alloc b1.size (.map #[] 0))
  have M1 : MIs (w1.alloc (.map #[] 0)) b 0 (fun _ => false) := by rw [hb]; exact mis_made w1
  have HM1 := Lib.hid M1
  clear HA b1 M1 hb
  go_wp2_with (refine wpList_put_mis rfl _ _ _ (.inr rfl) b 0 _ (by rw [HB.out]; rfl) HM1.out (by unfold maxLen; omega) 0 rfl rfl (by decide) ?_)
  intro w2 hM2 hg2
  have hC0 : CutMid w.heap.size w zs b 0 ⟨#[]⟩ w2 := ⟨[], rfl, by simp, by simp, rfl, hM2.same endAt_nil, B1.out.grown hg2 B1.out.size (fun j hj => by cases hj; exact hwb), hwb⟩
  have HC0 := Lib.hid hC0
  clear hC0 hM2 hg2 HM1 B1
  rw [← HB.out]
  clear hmm HB
  go_wp2
  go_loopw [5, 8, 9, 10, 25] (fun s _ _ _ i wr => ∃ (k : Nat) (t : ByteArray), k ≤ n ∧ i = .int .i64 k ∧ s = .string t ∧ Hid (CutMid w.heap.size w zs b k t wr)) (fun _ _ _ _ i _ => n - (RowKit.intOf i).toNat)
  case atStart => exact ⟨0, ⟨#[]⟩, Nat.zero_le _, rfl, rfl, HC0⟩
  case round =>
    obtain ⟨k, t, hk, rfl, rfl, HP⟩ := hrel
    clear HC0
    have hpre : Pre zs k t := by
      obtain ⟨ns, h1, h2, h3, h4, _⟩ := HP.out
      exact ⟨ns, h1, h2, h3, h4⟩
    have hps := pre_size hpre
    have hbl : Below w.heap.size w wr := by
      obtain ⟨ns, _, _, _, _, _, h, _⟩ := HP.out
      exact h
    have BR := Lib.hid hbl
    clear hpre
    obtain ⟨ns, hAt⟩ := HP.out
    have HP : Hid (CutAt w.heap.size w zs b k t ns wr) := Lib.hid hAt
    clear hAt
    by_cases hlt : k < n
    · have hkz : k < zs.length := by omega
      obtain ⟨ad, u, rfl, hb0, hu, hcell⟩ := (HR.out.below hbl).at_ hlt
      rw [List.getElem?_map, List.getElem?_eq_getElem hkz, Option.map_some, Option.some.injEq] at hu
      subst hu
      clear hbl
      obtain ⟨z, hz⟩ : ∃ z, zs[k]'hkz = z := ⟨_, rfl⟩
      rw [hz] at hcell
      rcases rune_or z with ⟨m, rfl, hm⟩ | hno
      · have hPut := Lib.hid (put_ok m hm)
        have HN := Lib.hid (fun w' => cut_next (w' := w') HP.out (Nat.le_refl _) hkz hz hm)
        have HMm := Lib.hid HP.out.2.2.2.2.1
        have hes : (Utf8.encode (m : Int)).size ≤ 4 := by rw [enc_size]; exact (enc_len hm).2
        generalize Utf8.encode (m : Int) = y at *
        have hbig : ¬ 9223372036854775807 < t.size + y.size := by omega
        have hys : (t ++ y).size ≤ 1000 := by rw [ByteArray.size_append]; omega
        clear hz hm HP hys
        go_wp2_with fail
        refine (hPut.out _).mono ?_
        rintro e w' ⟨rfl, rfl⟩
        go_wp2_with (refine wpList_put_mis rfl _ _ _ (.inl rfl) b (k + 1) _ rfl HMm.out (by unfold maxLen; omega) _ rfl rfl ?hwf ?_)
        case hwf => simp [Lit.wf, IntKind.min, IntKind.max, IntKind.signed, IntKind.bits]; omega
        intro w3 hM3 hg3
        have HN3 := Lib.hid (HN.out w3 hM3 hg3)
        clear hM3 hg3 HN HMm
        go_wp2
        go_roundw
        case rel => exact ⟨k + 1, t ++ y, by omega, by go_num, rfl, HN3⟩
        case measure => simp [RowKit.intOf]; omega
      · have hPut := Lib.hid (put_no z hno)
        clear hz HP hno
        go_wp2_with fail
        refine (hPut.out _).mono ?_
        rintro e w' ⟨rfl, rfl⟩
        go_wp2
        go_ret
        exact ⟨rfl, BR.out⟩
    · obtain ⟨h1, h2, h3, h4, h5, h6, h7⟩ := HP.out
      have hir := Lib.hid h3
      have hts := textOf_len ns h3
      have hL : t.size = (ns.flatMap encL).length := by rw [h4]; exact (size_list _).symm
      have hlst : t.data.toList = ns.flatMap encL := by rw [h4]; rfl
      have HM := Lib.hid h5
      have HLs := Lib.hid hlst
      have HLz := Lib.hid hL
      rw [← h4] at hts
      clear h1 h2 h3 h4 h5 h6 hL hlst HP
      obtain ⟨kk, hkk1, hkk2⟩ := rem_place2 k0 t.size (by omega)
      have hz0 : ((t.size : Int) + 1 == 0) = false := by rw [beq_eq_false_iff_ne]; omega
      obtain ⟨p, hp⟩ : ∃ p, p = wr.heap.size := ⟨_, rfl⟩
      have hwp : w.heap.size ≤ p := by rw [hp]; exact hbl.size
      have HP := Lib.hid hp
      clear hp
      have hC : Two w.heap.size w (wr.alloc (.cells #[.int .i64 0, .int .u8 0, .int .u8 0, .bool false] 25)) p st0 b (k + 1) (endAt ns) :=
        ⟨⟨by rw [HP.out]; exact cat_new wr, hbl.alloc hbl.size _, hwp⟩, HM.out.keep (Below.heap_alloc _ _ _ HM.out.lt), by rw [HP.out]; exact HM.out.lt⟩
      have HC0 := Lib.hid hC
      clear hC HM BR hbl
      go_wp2
      rw [← HP.out]
      clear HP
      generalize wr.alloc (.cells #[.int .i64 0, .int .u8 0, .int .u8 0, .bool false] 25) = W at HC0 ⊢
      clear hkk2 hz0
      go_loopw [12] (fun i wr => ∃ j : Nat, j ≤ kk ∧ i = .int .i64 j ∧ Hid (Two w.heap.size w wr p (runS st0 (t.data.toList.take j)) b (k + 1) (endAt ns))) (fun i _ => kk - (RowKit.intOf i).toNat)
      case atStart => exact ⟨0, Nat.zero_le _, rfl, HC0⟩
      case round =>
        obtain ⟨j, hj, rfl, HC⟩ := hrel
        clear HC0
        by_cases hlj : j < kk
        · have hjt : j < t.size := by omega
          obtain ⟨x, hx⟩ : ∃ x, t[j]'hjt = x := ⟨_, rfl⟩
          have hls := size_list t
          have hsn := runS_snoc st0 t.data.toList j (by omega)
          rw [show t.data.toList[j]'(by omega) = x from hx] at hsn
          have hsome : stepS (runS st0 (t.data.toList.take j)) x ≠ none := by
            rw [← hsn, HLs.out]
            exact prefix_some ns hir.out (j + 1)
          have hso : (stepS (runS st0 (t.data.toList.take j)) x).isSome = true := by
            cases hq : stepS (runS st0 (t.data.toList.take j)) x with
            | none => exact absurd hq hsome
            | some q => rfl
          have HS := Lib.hid hsn
          have hStep := step_at HC.out.1.1 x
          rw [hso] at hStep
          have HSt := Lib.hid hStep
          clear hsn hsome hso hStep
          go_wp2_with fail
          refine HSt.out.mono ?_
          rintro e w5 ⟨rfl, hp5⟩
          have HN : Hid (Two w.heap.size w w5 p (runS st0 (t.data.toList.take (j + 1))) b (k + 1) (endAt ns)) := by
            rw [HS.out]
            exact Lib.hid (HC.out.post (Nat.le_refl _) hp5)
          clear hp5 HC HS HSt
          go_wp2
          go_roundw
          case rel => exact ⟨j + 1, by omega, by go_num, HN⟩
          case measure => simp [RowKit.intOf]; omega
        · have hjk : j = kk := by omega
          subst hjk
          clear hlj
          obtain ⟨⟨hC1, hC2, hC3⟩, hM, hbp⟩ := HC.out
          obtain ⟨st, hst⟩ : ∃ st, runS st0 (t.data.toList.take j) = st := ⟨_, rfl⟩
          rw [hst] at hC1
          obtain ⟨q, hq⟩ : ∃ q, wholeS st = q := ⟨_, rfl⟩
          have hnn : st.isNone = false := by
            have := prefix_some ns hir.out j
            rw [← HLs.out, hst] at this
            cases st with
            | none => exact absurd rfl this
            | some _ => rfl
          have hend : endAt ns (j : Int) = q := by
            unfold endAt
            rw [Int.toNat_natCast, ← HLs.out, hst, hq]
            cases q with
            | false => rw [decide_eq_false (fun x => by simp at x)]
            | true => rw [decide_eq_true ⟨by omega, by rw [size_list]; omega, rfl⟩]
          have hwf : (Lit.int .i64 (j : Int)).wf = true := by simp [Lit.wf, IntKind.min, IntKind.max, IntKind.signed, IntKind.bits]; omega
          have hlook : ∀ W, Below wr.heap.size wr W → (Instr.lookup 46 (.map (some b)) (.int .i64 (j : Int)) false).run Tryd.prog W = .ok (.bool q) W := fun W hW => by
            have := (hM.keep (hW.block b hM.lt)).look (j : Int) hwf
            rw [hend] at this
            exact this
          have hv1 : validD (t.extract 0 j).data.toList = q := by rw [valid_run, ext_list, List.drop_zero, hst, hq]
          have hv2 : validD (t.extract j t.size).data.toList = q := by
            rw [valid_run, ext_list, List.take_of_length_le (by rw [size_list]; omega), HLs.out, cut_drop ns hir.out j (by rw [← HLz.out]; omega), ← HLs.out, hst, hq]
          have hlo := slice_str_hi t j (by omega)
          have hhi := slice_str_lo t j (by omega)
          have hz1 : (t.extract 0 j).size ≤ 1000 := by rw [← size_list, ext_list]; simp; omega
          have hz2 : (t.extract j t.size).size ≤ 1000 := by rw [← size_list, ext_list]; simp; omega
          have T0 := HT.out.below hC2 hTl
          have HB2 := Lib.hid hC2
          have hval1 := Lib.hid (fun W (hW : CutS p st wr W) => valid_lit (t.extract 0 j) W (by omega) (T0.below hW.2 T0.lt) q hv1)
          have hval2 := Lib.hid (fun W (hW : CutS p st wr W) => valid_lit (t.extract j t.size) W (by omega) (T0.below hW.2 T0.lt) q hv2)
          have hbad : ∀ W, CutS p st wr W → Calls Tryd.prog 12 #[.pointer (some ⟨p, 0, none⟩)] W fun e w' => e = .returned (.bool false) ∧ W = w' := fun W hW => by
            have := bad_at hW.1
            rw [hnn] at this
            exact this
          have hwho : ∀ W, CutS p st wr W → Calls Tryd.prog 13 #[.pointer (some ⟨p, 0, none⟩)] W fun e w' => e = .returned (.bool q) ∧ W = w' := fun W hW => by
            have := whole_at hW.1
            rw [hq] at this
            exact this
          have Hbad := Lib.hid hbad
          have Hwho := Lib.hid hwho
          have HLook := Lib.hid hlook
          have HS0 : Hid (CutS p st wr wr.drew) := Lib.hid ⟨hC1, (Below.refl _ _).drew⟩
          have hnlt : ¬ (j : Int) < (j : Int) := by omega
          clear hC1 hC2 hM hst hq hnn hend hwf hlook hv1 hv2 hz1 hz2 T0 hbad hwho HC hir HLs HLz hbp hC3 HT HR
          generalize t.extract 0 j = x1 at *
          generalize t.extract j t.size = x2 at *
          go_wp2
          go_region_held3 (fun w' => (Instr.lookup 46 (.map (some b)) (.int .i64 (j : Int)) false).run Tryd.prog w' = .ok (.bool q) w' ∧ CutS p st wr w')
            (first | assumption | exact ⟨HLook.out _ HS0.out.2, HS0.out⟩ | exact ⟨HLook.out _ ((by assumption : _ ∧ CutS p st wr _).2.go (by assumption)).2, (by assumption : _ ∧ CutS p st wr _).2.go (by assumption)⟩)
            (first
            | ((go_at_call 12); (with_reducible refine (Hbad.out _ (by assumption : _ ∧ CutS p st wr _).2).mono ?_); rintro e v1 ⟨rfl, rfl⟩)
            | ((go_at_call 13); (with_reducible refine (Hwho.out _ (by assumption : _ ∧ CutS p st wr _).2).mono ?_); rintro e v1 ⟨rfl, rfl⟩)
            | ((go_at_call 16); (with_reducible refine (hval1.out _ (by assumption : _ ∧ CutS p st wr _).2).mono ?_); rintro e v1 ⟨rfl, b1⟩)
            | ((go_at_call 16); (with_reducible refine (hval2.out _ (by assumption : _ ∧ CutS p st wr _).2).mono ?_); rintro e v1 ⟨rfl, b2⟩))
          all_goals
            have hfin : CutS p st wr _ := (by assumption : _ ∧ CutS p st wr _).2
            have HF := Lib.hid (HB2.out.trans (hfin.2.mono HB2.out.size))
            clear hfin
            go_wp2
            go_ret
            exact ⟨rfl, HF.out⟩
set_option maxRecDepth 100000 in
set_option maxHeartbeats 400000 in
theorem cuts_long (A : Option Addr) (n c : Nat) (k0 : Int) (w : World) (hn : 40 < n) (hT : Tabs w) :
    Calls Tryd.prog 5 #[.slice A n c, .int .i64 k0] w fun e w' => e = .returned (.bool true) ∧ Below w.heap.size w w' := by
  have HA := Lib.hid (alive_any w hT)
  have c1 : (40 : Int) < (n : Int) := by omega
  clear hT hn
  go_enter Tryd.func5, Tryd.ntmps5
  go_wp2_with fail
  refine HA.out.mono ?_
  rintro e w1 ⟨rfl, b1⟩
  go_wp2
  go_ret
  exact ⟨rfl, b1⟩
theorem cuts_any (A : Option Addr) (n c : Nat) (zs : List Int) (k0 : Int) (w : World) (hl : zs.length = n) (hR : Reads w w.heap.size 1 A n (zs.map (Value.int .i64))) (_ : ∀ z ∈ zs, -9223372036854775808 ≤ z ∧ z ≤ 9223372036854775807) (hkk : -9223372036854775808 ≤ k0 ∧ k0 ≤ 9223372036854775807) (hT : Tabs w) :
    Calls Tryd.prog 5 #[.slice A n c, .int .i64 k0] w fun e w' => e = .returned (.bool true) ∧ Below w.heap.size w w' := by
  by_cases h : n ≤ 40
  · exact cuts_main A n c zs k0 w hl hR h hkk hT
  · exact cuts_long A n c k0 w (by omega) hT
end Go.Proofs.YtpmbpcinfakckaaDoor
