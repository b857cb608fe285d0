/-
  LAWS of chapter 4: UtfTells.
-/
import Derived.Test.YtpmbpcinfakckaaDoorUtfLawsD
import Derived.Test.YtpmbpcinfakckaaDoorBookG
namespace Go.Proofs.YtpmbpcinfakckaaDoor
open Go.RowKit
open Go.Lib
def zrunes (s : ByteArray) : List Int := (runesOf s).map fun (n : Nat) => (n : Int)
theorem zrunes_cells (s : ByteArray) : zCells (zrunes s) = intCells (runesOf s) := by simp [zCells, zrunes, intCells]
theorem zrunes_length (s : ByteArray) : (zrunes s).length = (runesOf s).length := by simp [zrunes]
theorem runes_iwin (s : ByteArray) (w : World) (hs : s.size ≤ 100000) (hT : Tabs w) :
    Calls Tryd.prog 18 #[.string s] w fun e w' => ∃ v, e = .returned v ∧ IWin w' v (zrunes s) ∧ Fresh w w' v :=
  (runes_any s w hs hT).mono fun e w' ⟨v, h1, h2, h3⟩ => ⟨v, h1, by unfold IWin; rw [zrunes_length, zrunes_cells]; exact h2, h3⟩
theorem runesOf_le (s : ByteArray) : (runesOf s).length ≤ s.size := by
  unfold runesOf
  split
  · have := runesD_length s.size s.data.toList
    rw [size_list] at this
    exact this
  · simp
theorem runesOf_is (s : ByteArray) : ∀ n ∈ runesOf s, IsRune n := by
  unfold runesOf
  split
  · rename_i h
    exact (encs_runes s.size s.data.toList (by rw [size_list]; exact Nat.le_refl _) h).2
  · simp
theorem runesOf_back (s : ByteArray) (h : validD s.data.toList = true) : textOf (runesOf s) = s := by
  unfold runesOf textOf
  rw [if_pos h, (encs_runes s.size s.data.toList (by rw [size_list]; exact Nat.le_refl _) h).1]
theorem runesOf_bad (s : ByteArray) (h : validD s.data.toList = false) : runesOf s = [] := by
  unfold runesOf
  simp [h]
/-- What a round of the first loop compares. -/
theorem tell_round (s : ByteArray) (i : Nat) (hi : i < s.size) : (runS st0 (s.data.toList.take (i + 1))).isSome = decide ((i : Int) < (goodN st0 s.data.toList : Int)) ∧ (runS st0 (s.data.toList.take (i + 1))).isNone = decide ((goodN st0 s.data.toList : Int) ≤ (i : Int)) := by
  have := good_iff st0 s.data.toList i (by rw [size_list]; exact hi)
  cases h : runS st0 (s.data.toList.take (i + 1)) with
  | none =>
    rw [h] at this
    have hn : ¬ i < goodN st0 s.data.toList := fun x => this.1 x rfl
    exact ⟨(decide_eq_false (by omega)).symm, (decide_eq_true (by omega)).symm⟩
  | some p =>
    rw [h] at this
    have hn : i < goodN st0 s.data.toList := this.2 (by simp)
    exact ⟨(decide_eq_true (by omega)).symm, (decide_eq_false (by omega)).symm⟩
theorem BookI.new {B : Nat} {w w' : World} {b : Nat} {vs ws : List Value} {xss : Nat → List Int} (h : BookI B w b vs ws xss) (hb : Below w.heap.size w w') : BookI B w' b vs ws xss := by
  obtain ⟨vi, wi, h1, h2, h3, h4, h5, h6, h7⟩ := h
  exact ⟨vi, wi, (hb.block b (Array.getElem?_eq_some_iff.1 h1).1).trans h1, h2.new hb, h3.new hb, h4, h5.new hb, h6.new hb, h7⟩
theorem put_rune (r : Int) : ∃ (y : ByteArray) (q : Bool), (∀ W, Calls Tryd.prog 14 #[.int .i64 r] W fun e w' => e = .returned (.tuple #[.string y, .bool q]) ∧ W = w') ∧
    (∀ W, Calls Tryd.prog 15 #[.int .i64 r] W fun e w' => e = .returned (.string y) ∧ Below W.heap.size W w') ∧ (q = true ∧ ¬ y.toList = [] ∨ q = false ∧ y.toList = []) := by
  rcases rune_or r with ⟨m, rfl, hm⟩ | hno
  · refine ⟨_, true, put_ok m hm, ref_ok m hm, .inl ⟨rfl, fun e => ?_⟩⟩
    rw [enc_toList] at e
    have := (enc_len hm).1
    rw [e] at this
    simp at this
  · exact ⟨_, false, put_no r hno, fun W => (ref_no r hno W).mono fun e w' ⟨h1, h2⟩ => ⟨h1, by subst h2; exact Below.refl _ _⟩, .inr ⟨rfl, toList_nil rfl⟩⟩
theorem text_take (ns : List Nat) (k : Nat) (h : k < ns.length) : textOf (ns.take k) ++ Utf8.encode ((ns[k]'h : Nat) : Int) = textOf (ns.take (k + 1)) := by
  rw [textOf_snoc, List.take_add_one, List.getElem?_eq_getElem h]
  rfl
set_option maxRecDepth 100000 in
set_option maxHeartbeats 40000000 in
theorem tells_main (s : ByteArray) (r : Int) (w : World) (hs : s.size ≤ 200) (hT : Tabs w) :
    Calls Tryd.prog 3 #[.string s, .int .i64 r] w fun e w' => e = .returned (.bool true) ∧ Below w.heap.size w w' := by
  have HA := Lib.hid (alive_any w hT)
  have HT := Lib.hid hT
  have hTl := hT.lt
  have hls := size_list s
  have c1 : ¬ (200 : Int) < (s.size : Int) := by omega
  have HU := Lib.hid (fun W => refutf_any s W (by omega))
  clear hT
  go_enter Tryd.func3, Tryd.ntmps3
  go_wp2_with fail
  refine HA.out.mono ?_
  rintro e w1 ⟨rfl, b1⟩
  obtain ⟨p, hp⟩ : ∃ p, p = w1.heap.size := ⟨_, rfl⟩
  have HPP := Lib.hid hp
  have hsz := b1.size
  have H0 : Hid (CIs w.heap.size w (w1.alloc (.cells #[.int .i64 0, .int .u8 0, .int .u8 0, .bool false] 25)) p st0) :=
    Lib.hid ⟨by rw [hp]; exact cat_new w1, b1.alloc hsz _, by omega⟩
  clear b1 HA hp hsz
  go_wp2_with fail
  refine (HU.out _).mono ?_
  rintro e w' ⟨⟨ga, gb, rfl, hpost⟩, rfl⟩
  obtain ⟨gk, rfl, rfl, hkk0⟩ := hpost
  clear hkk0
  rw [← HPP.out]
  clear HPP HU
  generalize w1.alloc (.cells #[.int .i64 0, .int .u8 0, .int .u8 0, .bool false] 25) = W at H0 ⊢
  obtain ⟨gd, hgd⟩ : ∃ gd, goodN st0 s.data.toList = gd := ⟨_, rfl⟩
  rw [hgd]
  have HGD := Lib.hid hgd
  clear hgd
  go_wp2
  go_loopw [8, 9, 10] (fun i _ _ wr => ∃ k : Nat, k ≤ s.size ∧ i = .int .i64 k ∧ Hid (CIs w.heap.size w wr p (runS st0 (s.data.toList.take k)))) (fun i _ _ _ => s.size - (RowKit.intOf i).toNat)
  case atStart => exact ⟨0, Nat.zero_le _, rfl, H0⟩
  case round =>
    obtain ⟨k, hk, rfl, HC⟩ := hrel
    clear H0
    by_cases hlt : k < s.size
    · obtain ⟨x, hx⟩ : ∃ x, s[k]'hlt = x := ⟨_, rfl⟩
      have hsn := runS_snoc st0 s.data.toList k (by omega)
      rw [show s.data.toList[k]'(by omega) = x from hx] at hsn
      have HS := Lib.hid hsn
      obtain ⟨t1, t2⟩ := tell_round s k hlt
      rw [hsn, HGD.out] at t1 t2
      have HTR := Lib.hid (And.intro t1 t2)
      have hsl := slice_str_hi s (k + 1) (by omega)
      rw [show ((k + 1 : Nat) : Int) = (k : Int) + 1 by omega] at hsl
      have HX : Hid (∀ W, Calls Tryd.prog 10 #[.string (s.extract 0 (k + 1))] W fun e w' => (∃ a b : Int, e = .returned (.tuple #[.int .i64 a, .int .i64 b]) ∧ RefPost (s.extract 0 (k + 1)) a b) ∧ W = w') :=
        Lib.hid (fun W => refutf_any _ W (by rw [← size_list, ext_list]; simp; omega))
      have hxl : (s.extract 0 (k + 1)).data.toList = s.data.toList.take (k + 1) := by rw [ext_list]; rfl
      have HXL := Lib.hid hxl
      clear hsn t1 t2 hxl
      generalize s.extract 0 (k + 1) = x1 at *
      have hStep := step_at HC.out.1 x
      cases hst : stepS (runS st0 (s.data.toList.take k)) x with
      | none =>
        have d1 : ¬ (k : Int) < (gd : Int) := by
          have := HTR.out.1
          rw [hst] at this
          simpa using this
        have d2 : (gd : Int) ≤ (k : Int) := by omega
        have HN' : ∀ w2, CPost wr p none w2 → Hid (CIs w.heap.size w w2 p (runS st0 (s.data.toList.take (k + 1)))) := fun w2 h => by
          rw [HS.out, hst]
          exact Lib.hid (HC.out.post (Nat.le_refl _) h)
        rw [hst] at hStep
        simp only [Option.isSome] at hStep
        have HSt := Lib.hid hStep
        have HNN := Lib.hid HN'
        clear hStep HN' HTR HGD HS hst
        go_wp2_with fail
        refine HSt.out.mono ?_
        rintro e w2 ⟨rfl, hp2⟩
        have HN := HNN.out w2 hp2
        have HCp := Lib.hid hp2.1
        clear hp2 HNN HSt HC
        go_wp2_with fail
        refine (bad_at HCp.out).mono ?_
        rintro e w' ⟨rfl, rfl⟩
        simp only [Option.isNone]
        go_wp2_with fail
        refine (HX.out _).mono ?_
        rintro e w' ⟨⟨ga, gb, rfl, hpost⟩, rfl⟩
        obtain ⟨kk, rfl, rfl, hkk⟩ := hpost
        clear hkk
        generalize goodN st0 x1.data.toList = g1
        go_wp2_with fail
        refine (whole_at HCp.out).mono ?_
        rintro e w' ⟨rfl, rfl⟩
        simp only [wholeS]
        clear HX HXL HCp
        go_wp2
        go_roundw
        case rel => exact ⟨k + 1, by omega, by go_num, HN⟩
        case measure => simp [RowKit.intOf]; omega
      | some q =>
        obtain ⟨n, lo, hi⟩ := q
        have d1 : (k : Int) < (gd : Int) := by
          have := HTR.out.1
          rw [hst] at this
          simpa using this
        have d2 : ¬ (gd : Int) ≤ (k : Int) := by omega
        have HN' : ∀ w2, CPost wr p (some (n, lo, hi)) w2 → Hid (CIs w.heap.size w w2 p (runS st0 (s.data.toList.take (k + 1)))) := fun w2 h => by
          rw [HS.out, hst]
          exact Lib.hid (HC.out.post (Nat.le_refl _) h)
        have hlk : runS st0 x1.data.toList = some (n, lo, hi) := by rw [HXL.out, HS.out, hst]
        have HLK := Lib.hid hlk
        rw [hst] at hStep
        simp only [Option.isSome] at hStep
        have HSt := Lib.hid hStep
        have HNN := Lib.hid HN'
        clear hStep HN' HTR HGD HS hst hlk
        go_wp2_with fail
        refine HSt.out.mono ?_
        rintro e w2 ⟨rfl, hp2⟩
        have HN := HNN.out w2 hp2
        have HCp := Lib.hid hp2.1
        clear hp2 HNN HSt HC
        go_wp2_with fail
        refine (bad_at HCp.out).mono ?_
        rintro e w' ⟨rfl, rfl⟩
        simp only [Option.isNone]
        go_wp2_with fail
        refine (HX.out _).mono ?_
        rintro e w' ⟨⟨ga, gb, rfl, hpost⟩, rfl⟩
        obtain ⟨kk, rfl, rfl, hkk⟩ := hpost
        obtain rfl := hkk n lo hi HLK.out
        clear hkk
        generalize goodN st0 x1.data.toList = g1
        cases kk with
        | zero =>
          have hz : (((0 : Nat) : Int) == 0) = true := rfl
          go_wp2_with fail
          refine (whole_at HCp.out).mono ?_
          rintro e w' ⟨rfl, rfl⟩
          simp only [wholeS]
          clear HX HXL HCp HLK
          go_wp2
          go_roundw
          case rel => exact ⟨k + 1, by omega, by go_num, HN⟩
          case measure => simp [RowKit.intOf]; omega
        | succ kk =>
          have hz : (((kk + 1 : Nat) : Int) == 0) = false := by rw [beq_eq_false_iff_ne]; omega
          go_wp2_with fail
          refine (whole_at HCp.out).mono ?_
          rintro e w' ⟨rfl, rfl⟩
          simp only [wholeS]
          clear HX HXL HCp HLK
          go_wp2
          go_roundw
          case rel => exact ⟨k + 1, by omega, by go_num, HN⟩
          case measure => simp [RowKit.intOf]; omega
    · have BR := Lib.hid HC.out.2.1
      obtain ⟨y, q, hPut, hRune, hq⟩ := put_rune r
      have HPut := Lib.hid hPut
      have HRune := Lib.hid hRune
      obtain ⟨V, hV⟩ : ∃ V, validD s.data.toList = V := ⟨_, rfl⟩
      have HV := Lib.hid hV
      have HRV : Hid (∀ W, Calls Tryd.prog 17 #[.string s] W fun e w' => e = .returned (.bool V) ∧ W = w') := Lib.hid (fun W => by
        have := refvalid_any s W (by omega)
        rw [hV] at this
        exact this)
      have hnl := runesOf_le s
      have HZL := Lib.hid (zrunes_length s)
      have hzb : (zrunes s).length ≤ 200 := by rw [HZL.out]; omega
      have hyy : (y.toList == y.toList) = true := by simp
      have hss : (s.toList == s.toList) = true := by simp
      clear hPut hRune hV HC HGD
      have hy1 : y.toList.isEmpty = !q := by
        rcases hq with ⟨rfl, hy⟩ | ⟨rfl, hy⟩
        · rw [Bool.not_true, List.isEmpty_eq_false_iff]; exact hy
        · rw [Bool.not_false, List.isEmpty_iff]; exact hy
      have hy2 : (y.toList == []) = !q := by
        rcases hq with ⟨rfl, hy⟩ | ⟨rfl, hy⟩
        · rw [Bool.not_true, beq_eq_false_iff_ne]; exact hy
        · rw [hy]; rfl
      have hy3 : decide (y.toList = []) = !q := by
        rcases hq with ⟨rfl, hy⟩ | ⟨rfl, hy⟩
        · rw [decide_eq_false hy]; rfl
        · rw [decide_eq_true hy]; rfl
      clear hq
      cases V with
      | true =>
        go_wp2_with fail
        refine (HPut.out _).mono ?_
        rintro e w' ⟨rfl, rfl⟩
        go_wp2_with fail
        refine (HRune.out _).mono ?_
        rintro e wa ⟨rfl, ba⟩
        have BA := Lib.hid (BR.out.trans (ba.mono BR.out.size))
        have TA := Lib.hid (HT.out.below BA.out hTl)
        clear ba HPut HRune BR
        go_wp2_with fail
        refine (valid_lit s wa (by omega) TA.out true HV.out).mono ?_
        rintro e wb ⟨rfl, bb⟩
        have BB := Lib.hid (BA.out.trans (bb.mono BA.out.size))
        have TB := Lib.hid (TA.out.below bb TA.out.lt)
        clear bb BA TA
        go_wp2_with fail
        refine (HRV.out _).mono ?_
        rintro e w' ⟨rfl, rfl⟩
        have HBK := Lib.hid (book_new wb)
        have BK := Lib.hid (BB.out.alloc BB.out.size (.cells #[.slice none 0 0, .slice none 0 0, .slice none 0 0, .slice none 0 0, .slice none 0 0, .slice none 0 0] 38))
        have TK := Lib.hid (TB.out.below (((Below.refl wb.heap.size wb).alloc (Nat.le_refl _) (.cells #[.slice none 0 0, .slice none 0 0, .slice none 0 0, .slice none 0 0, .slice none 0 0, .slice none 0 0] 38))) TB.out.lt)
        have hwb := BB.out.size
        obtain ⟨bk, hbk⟩ : ∃ bk, bk = wb.heap.size := ⟨_, rfl⟩
        have HBKE := Lib.hid hbk
        have hks : bk < (wb.alloc (.cells #[.slice none 0 0, .slice none 0 0, .slice none 0 0, .slice none 0 0, .slice none 0 0, .slice none 0 0] 38)).heap.size := by rw [hbk]; simp
        rw [← hbk] at HBK hwb
        clear hbk TB BB hyy
        go_wp2_with fail
        rw [← HBKE.out]
        generalize wb.alloc (.cells #[.slice none 0 0, .slice none 0 0, .slice none 0 0, .slice none 0 0, .slice none 0 0, .slice none 0 0] 38) = wk at HBK BK TK hks ⊢
        refine (runes_iwin s wk (by omega) TK.out).mono ?_
        rintro e wc ⟨v1, rfl, i1, f1⟩
        have hsc := f1.1.size
        have TC := Lib.hid (TK.out.below f1.1 TK.out.lt)
        have BC := Lib.hid (BK.out.trans (f1.1.mono BK.out.size))
        have HBK2 := Lib.hid (HBK.out.new f1.1)
        have HO1 := Lib.hid f1.2
        have I1 := Lib.hid i1
        clear f1 i1 HBK BK TK
        obtain ⟨a1, k1, rfl, _, _⟩ := Win.slice_form I1.out
        go_wp2_with fail
        refine (runes_iwin s wc (by omega) TC.out).mono ?_
        rintro e wd ⟨v2, rfl, i2, f2⟩
        have hsd := f2.1.size
        have BD := Lib.hid (BC.out.trans (f2.1.mono BC.out.size))
        have HBK3 := Lib.hid (HBK2.out.new f2.1)
        have I1d := Lib.hid (I1.out.new f2.1)
        have HO2 := Lib.hid f2.2
        have I2 := Lib.hid i2
        have HL1 := Lib.hid (Win.lt I1.out)
        clear f2 i2 HBK2 BC TC I1
        obtain ⟨a2, k2, rfl, _, _⟩ := Win.slice_form I2.out
        have hInts := ints_any HBK3.out (by omega) I1d.out (by omega) (fun x hx => by have := HO1.out x hx; omega) (fun x hx ⟨i, v, h, _⟩ => by simp at h) (by simp)
        have HInts := Lib.hid hInts
        clear hInts HBK3
        go_wp2_with fail
        refine HInts.out.mono ?_
        rintro e we ⟨rfl, ⟨ws1, hbk1⟩, be, oe⟩
        have hse := be.size
        have I1e := Lib.hid (I1d.out.off oe)
        have I2e := Lib.hid (I2.out.off oe)
        have BE := Lib.hid (BD.out.trans (be.mono hwb))
        have hInts2 := ints_any hbk1 (by omega) I2e.out (by omega) (fun x hx => by have := HO2.out x hx; omega) (fun x hx ⟨i, v, h, hxv⟩ => by
          have h1 := HO2.out x hx
          have hi : i = 0 := by
            rcases Nat.eq_zero_or_pos i with h0 | h0
            · exact h0
            · rw [List.getElem?_eq_none (by simp; omega)] at h; cases h
          subst hi
          simp at h
          subst h
          have := HL1.out x hxv
          omega) (by simp)
        have HInts2 := Lib.hid hInts2
        clear hInts2 hbk1 be oe HInts I1d I2 BD
        go_wp2_with fail
        refine HInts2.out.mono ?_
        rintro e wf ⟨rfl, ⟨ws2, hbk2⟩, bf, of⟩
        have hsf := bf.size
        have I1f := Lib.hid (I1e.out.off of)
        have I2f := Lib.hid (I2e.out.off of)
        have BF := Lib.hid (BE.out.trans (bf.mono hwb))
        have HBKF : Hid (∃ vs ws xss, BookI bk wf bk vs ws xss ∧ (∀ i, (xss i).length ≤ 80000) ∧ vs.length ≤ 250) := Lib.hid ⟨_, _, _, hbk2, fun i => by
          repeat' split
          all_goals first | omega | simp, by simp⟩
        clear hbk2 bf of HInts2 I1e I2e BE HO1 HO2 HL1
        obtain ⟨n, hn⟩ : ∃ n, (zrunes s).length = n := ⟨_, rfl⟩
        have hzl := HZL.out
        rw [hn] at I1f I2f hzl hzb ⊢
        have HZN := Lib.hid hn
        have HZE := Lib.hid hzl
        clear hn hzl
        go_wp2
        go_loopw [17, 19, 114] (fun t _ i wr => ∃ (k : Nat) (tt : ByteArray), k ≤ n ∧ i = .int .i64 k ∧ t = .string tt ∧ Hid (tt = textOf ((runesOf s).take k)) ∧ Hid (Below wf.heap.size wf wr)) (fun _ _ i _ => n - (RowKit.intOf i).toNat)
        case atStart => exact ⟨0, ⟨#[]⟩, Nat.zero_le _, rfl, rfl, Lib.hid rfl, Lib.hid (Below.refl _ _)⟩
        case round =>
          obtain ⟨k, tt, hk, rfl, rfl, HTT, HBW⟩ := hrel
          by_cases hlt : k < n
          · have hkr : k < (runesOf s).length := by have := HZE.out; omega
            have hm := runesOf_is s _ (List.getElem_mem hkr)
            have htx := text_take (runesOf s) k hkr
            have iw := I1f.out.new HBW.out
            unfold IWin at iw
            rw [HZN.out] at iw
            obtain ⟨g, off, cap, e1, _, _, _, _, hcell⟩ := Win.form iw (by omega)
            injection e1 with e1 _ e1'
            subst e1; subst e1'
            obtain ⟨hc1, _⟩ := hcell k (.int .i64 ((runesOf s)[k]'hkr : Nat)) (by rw [zrunes_cells, intCells_get, List.getElem?_eq_getElem hkr]; rfl)
            generalize (runesOf s)[k]'hkr = m at hm htx hc1
            have HRef := Lib.hid (ref_ok m hm)
            have hes : (Utf8.encode (m : Int)).size ≤ 4 := by rw [enc_size]; exact (enc_len hm).2
            have hts : tt.size ≤ 800 := by
              rw [HTT.out]
              have := (textOf_len ((runesOf s).take k) (fun x hx => runesOf_is s x (List.mem_of_mem_take hx))).1
              rw [List.length_take] at this
              omega
            have hnext : tt ++ Utf8.encode (m : Int) = textOf ((runesOf s).take (k + 1)) := by rw [HTT.out]; exact htx
            have HNX := Lib.hid hnext
            generalize Utf8.encode (m : Int) = z at *
            have hbig : ¬ 9223372036854775807 < tt.size + z.size := by omega
            clear hcell iw htx hnext hm HTT
            go_wp2_with fail
            refine (HRef.out _).mono ?_
            rintro e wx ⟨rfl, bx⟩
            have HBX := Lib.hid (HBW.out.trans (bx.mono HBW.out.size))
            clear bx HBW HRef
            go_wp2
            go_roundw
            case rel => exact ⟨k + 1, tt ++ z, by omega, by go_num, rfl, HNX, HBX⟩
            case measure => simp [RowKit.intOf]; omega
          · have hts : tt = s := by rw [HTT.out, List.take_of_length_le (by have := HZE.out; omega)]; exact runesOf_back s HV.out
            subst hts
            have I1w := I1f.out.new HBW.out
            have I2w := I2f.out.new HBW.out
            have HSm := Lib.hid (same_wins I1w I2w (by rw [HZN.out]; omega))
            obtain ⟨vs', ws', xss', hb', hn', hm'⟩ := HBKF.out
            have HBKW := Lib.hid (hb'.new HBW.out)
            have HNM := Lib.hid (And.intro hn' hm')
            clear hb' hn' hm'
            have BW := Lib.hid (BF.out.trans (HBW.out.mono BF.out.size))
            have hsw := HBW.out.size
            clear I1w I2w I1f I2f HBKF BF HBW
            go_wp2_with fail
            refine (HRV.out _).mono ?_
            rintro e w' ⟨rfl, rfl⟩
            go_wp2_with fail
            refine (HRV.out _).mono ?_
            rintro e w' ⟨rfl, rfl⟩
            go_wp2_with fail
            refine HSm.out.mono ?_
            rintro e wg ⟨rfl, qq, hqq⟩
            have BG : Hid (Below w.heap.size w wg) := Lib.hid (by rw [hqq]; exact below_drewN BW.out qq)
            have HBG : Hid (BookI bk wg bk vs' ws' xss') := Lib.hid (HBKW.out.new (by rw [hqq]; exact below_drewN (Below.refl _ _) qq))
            have hsg : bk ≤ wg.heap.size := by rw [hqq]; show bk ≤ wr.heap.size; omega
            clear hqq HSm HBKW BW
            go_wp2_with fail
            refine (step_nil 97 wg).mono ?_
            rintro e w' ⟨rfl, rfl⟩
            go_wp2_with fail
            refine (whole_nil _).mono ?_
            rintro e w' ⟨rfl, rfl⟩
            go_wp2_with fail
            refine (bad_nil _).mono ?_
            rintro e w' ⟨rfl, rfl⟩
            have hAp := apart_any HBG.out hsg HNM.out.1 HNM.out.2
            have HAp := Lib.hid hAp
            clear hAp HBG
            go_wp2_with fail
            refine HAp.out.mono ?_
            rintro e wh ⟨rfl, bh⟩
            have BH := Lib.hid (BG.out.trans (bh.mono hwb))
            clear bh HAp BG
            go_wp2
            go_ret
            exact ⟨rfl, BH.out⟩
      | false =>
        go_wp2_with fail
        refine (HPut.out _).mono ?_
        rintro e w' ⟨rfl, rfl⟩
        go_wp2_with fail
        refine (HRune.out _).mono ?_
        rintro e wa ⟨rfl, ba⟩
        have BA := Lib.hid (BR.out.trans (ba.mono BR.out.size))
        have TA := Lib.hid (HT.out.below BA.out hTl)
        clear ba HPut HRune BR
        go_wp2_with fail
        refine (valid_lit s wa (by omega) TA.out false HV.out).mono ?_
        rintro e wb ⟨rfl, bb⟩
        have BB := Lib.hid (BA.out.trans (bb.mono BA.out.size))
        have TB := Lib.hid (TA.out.below bb TA.out.lt)
        clear bb BA TA
        go_wp2_with fail
        refine (HRV.out _).mono ?_
        rintro e w' ⟨rfl, rfl⟩
        have HBK := Lib.hid (book_new wb)
        have BK := Lib.hid (BB.out.alloc BB.out.size (.cells #[.slice none 0 0, .slice none 0 0, .slice none 0 0, .slice none 0 0, .slice none 0 0, .slice none 0 0] 38))
        have TK := Lib.hid (TB.out.below (((Below.refl wb.heap.size wb).alloc (Nat.le_refl _) (.cells #[.slice none 0 0, .slice none 0 0, .slice none 0 0, .slice none 0 0, .slice none 0 0, .slice none 0 0] 38))) TB.out.lt)
        have hwb := BB.out.size
        obtain ⟨bk, hbk⟩ : ∃ bk, bk = wb.heap.size := ⟨_, rfl⟩
        have HBKE := Lib.hid hbk
        have hks : bk < (wb.alloc (.cells #[.slice none 0 0, .slice none 0 0, .slice none 0 0, .slice none 0 0, .slice none 0 0, .slice none 0 0] 38)).heap.size := by rw [hbk]; simp
        rw [← hbk] at HBK hwb
        clear hbk TB BB hyy
        go_wp2_with fail
        rw [← HBKE.out]
        generalize wb.alloc (.cells #[.slice none 0 0, .slice none 0 0, .slice none 0 0, .slice none 0 0, .slice none 0 0, .slice none 0 0] 38) = wk at HBK BK TK hks ⊢
        refine (runes_iwin s wk (by omega) TK.out).mono ?_
        rintro e wc ⟨v1, rfl, i1, f1⟩
        have hsc := f1.1.size
        have TC := Lib.hid (TK.out.below f1.1 TK.out.lt)
        have BC := Lib.hid (BK.out.trans (f1.1.mono BK.out.size))
        have HBK2 := Lib.hid (HBK.out.new f1.1)
        have HO1 := Lib.hid f1.2
        have I1 := Lib.hid i1
        clear f1 i1 HBK BK TK
        obtain ⟨a1, k1, rfl, _, _⟩ := Win.slice_form I1.out
        go_wp2_with fail
        refine (runes_iwin s wc (by omega) TC.out).mono ?_
        rintro e wd ⟨v2, rfl, i2, f2⟩
        have hsd := f2.1.size
        have BD := Lib.hid (BC.out.trans (f2.1.mono BC.out.size))
        have HBK3 := Lib.hid (HBK2.out.new f2.1)
        have I1d := Lib.hid (I1.out.new f2.1)
        have HO2 := Lib.hid f2.2
        have I2 := Lib.hid i2
        have HL1 := Lib.hid (Win.lt I1.out)
        clear f2 i2 HBK2 BC TC I1
        obtain ⟨a2, k2, rfl, _, _⟩ := Win.slice_form I2.out
        have hInts := ints_any HBK3.out (by omega) I1d.out (by omega) (fun x hx => by have := HO1.out x hx; omega) (fun x hx ⟨i, v, h, _⟩ => by simp at h) (by simp)
        have HInts := Lib.hid hInts
        clear hInts HBK3
        go_wp2_with fail
        refine HInts.out.mono ?_
        rintro e we ⟨rfl, ⟨ws1, hbk1⟩, be, oe⟩
        have hse := be.size
        have I1e := Lib.hid (I1d.out.off oe)
        have I2e := Lib.hid (I2.out.off oe)
        have BE := Lib.hid (BD.out.trans (be.mono hwb))
        have hInts2 := ints_any hbk1 (by omega) I2e.out (by omega) (fun x hx => by have := HO2.out x hx; omega) (fun x hx ⟨i, v, h, hxv⟩ => by
          have h1 := HO2.out x hx
          have hi : i = 0 := by
            rcases Nat.eq_zero_or_pos i with h0 | h0
            · exact h0
            · rw [List.getElem?_eq_none (by simp; omega)] at h; cases h
          subst hi
          simp at h
          subst h
          have := HL1.out x hxv
          omega) (by simp)
        have HInts2 := Lib.hid hInts2
        clear hInts2 hbk1 be oe HInts I1d I2 BD
        go_wp2_with fail
        refine HInts2.out.mono ?_
        rintro e wf ⟨rfl, ⟨ws2, hbk2⟩, bf, of⟩
        have hsf := bf.size
        have I1f := Lib.hid (I1e.out.off of)
        have I2f := Lib.hid (I2e.out.off of)
        have BF := Lib.hid (BE.out.trans (bf.mono hwb))
        have HBKF : Hid (∃ vs ws xss, BookI bk wf bk vs ws xss ∧ (∀ i, (xss i).length ≤ 80000) ∧ vs.length ≤ 250) := Lib.hid ⟨_, _, _, hbk2, fun i => by
          repeat' split
          all_goals first | omega | simp, by simp⟩
        clear hbk2 bf of HInts2 I1e I2e BE HO1 HO2 HL1
        obtain ⟨n, hn⟩ : ∃ n, (zrunes s).length = n := ⟨_, rfl⟩
        have hzl := HZL.out
        rw [hn] at I1f I2f hzl hzb ⊢
        have HZN := Lib.hid hn
        have HZE := Lib.hid hzl
        clear hn hzl
        have hn0 : n = 0 := by rw [HZE.out, runesOf_bad s HV.out]; rfl
        subst hn0
        go_wp2
        go_loopw [17, 19, 114] (fun _ _ i wr => i = .int .i64 0 ∧ Hid (wr = wf)) (fun _ _ _ _ => 0)
        case atStart => exact ⟨rfl, Lib.hid rfl⟩
        case round =>
          obtain ⟨rfl, HWE⟩ := hrel
          have HBW : Hid (Below wf.heap.size wf wr) := by rw [HWE.out]; exact Lib.hid (Below.refl _ _)
          clear HWE
          have I1w := I1f.out.new HBW.out
          have I2w := I2f.out.new HBW.out
          have HSm := Lib.hid (same_wins I1w I2w (by rw [HZN.out]; omega))
          obtain ⟨vs', ws', xss', hb', hn', hm'⟩ := HBKF.out
          have HBKW := Lib.hid (hb'.new HBW.out)
          have HNM := Lib.hid (And.intro hn' hm')
          clear hb' hn' hm'
          have BW := Lib.hid (BF.out.trans (HBW.out.mono BF.out.size))
          have hsw := HBW.out.size
          clear I1w I2w I1f I2f HBKF BF HBW
          go_wp2_with fail
          refine (HRV.out _).mono ?_
          rintro e w' ⟨rfl, rfl⟩
          go_wp2_with fail
          refine (HRV.out _).mono ?_
          rintro e w' ⟨rfl, rfl⟩
          go_wp2_with fail
          refine HSm.out.mono ?_
          rintro e wg ⟨rfl, qq, hqq⟩
          have BG : Hid (Below w.heap.size w wg) := Lib.hid (by rw [hqq]; exact below_drewN BW.out qq)
          have HBG : Hid (BookI bk wg bk vs' ws' xss') := Lib.hid (HBKW.out.new (by rw [hqq]; exact below_drewN (Below.refl _ _) qq))
          have hsg : bk ≤ wg.heap.size := by rw [hqq]; show bk ≤ wr.heap.size; omega
          clear hqq HSm HBKW BW
          go_wp2_with fail
          refine (step_nil 97 wg).mono ?_
          rintro e w' ⟨rfl, rfl⟩
          go_wp2_with fail
          refine (whole_nil _).mono ?_
          rintro e w' ⟨rfl, rfl⟩
          go_wp2_with fail
          refine (bad_nil _).mono ?_
          rintro e w' ⟨rfl, rfl⟩
          have hAp := apart_any HBG.out hsg HNM.out.1 HNM.out.2
          have HAp := Lib.hid hAp
          clear hAp HBG
          go_wp2_with fail
          refine HAp.out.mono ?_
          rintro e wh ⟨rfl, bh⟩
          have BH := Lib.hid (BG.out.trans (bh.mono hwb))
          clear bh HAp BG
          go_wp2
          go_ret
          exact ⟨rfl, BH.out⟩
theorem tells_long (s : ByteArray) (r : Int) (w : World) (h : 200 < s.size) (hT : Tabs w) :
    Calls Tryd.prog 3 #[.string s, .int .i64 r] w fun e w' => e = .returned (.bool true) ∧ Below w.heap.size w w' := by
  have HA := Lib.hid (alive_any w hT)
  have c1 : (200 : Int) < (s.size : Int) := by omega
  clear hT
  go_enter Tryd.func3, Tryd.ntmps3
  go_wp2_with fail
  refine HA.out.mono ?_
  rintro e w1 ⟨rfl, b1⟩
  go_wp2
  go_ret
  exact ⟨rfl, b1⟩
theorem tells_any (s : ByteArray) (r : Int) (w : World) (_ : s.size ≤ 140737488351232) (_ : -9223372036854775808 ≤ r ∧ r ≤ 9223372036854775807) (hT : Tabs w) :
    Calls Tryd.prog 3 #[.string s, .int .i64 r] w fun e w' => e = .returned (.bool true) ∧ Below w.heap.size w w' := by
  by_cases h : 200 < s.size
  · exact tells_long s r w h hT
  · exact tells_main s r w (by omega) hT
end Go.Proofs.YtpmbpcinfakckaaDoor
