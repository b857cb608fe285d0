/-
  LAWS of chapter 4: UtfRunes.
-/
import Derived.Test.YtpmbpcinfakckaaDoorUtfLawsB
import Derived.Test.YtpmbpcinfakckaaDoorUtfLawsC
import Derived.Test.YtpmbpcinfakckaaDoorBookA
namespace Go.Proofs.YtpmbpcinfakckaaDoor
open Go.RowKit
open Go.Lib
/-- The text of runes. -/
def textOf (l : List Nat) : ByteArray := ⟨(l.flatMap encL).toArray⟩
theorem textOf_list (l : List Nat) : (textOf l).data.toList = l.flatMap encL := rfl
theorem textOf_snoc (l : List Nat) (n : Nat) : textOf l ++ Utf8.encode (n : Int) = textOf (l ++ [n]) := by
  rw [← enc_list n]
  unfold textOf
  apply ByteArray.ext
  apply Array.toList_inj.1
  simp
theorem textOf_len (l : List Nat) (h : ∀ n ∈ l, IsRune n) : (textOf l).size ≤ 4 * l.length ∧ l.length ≤ (textOf l).size := by
  have e : (textOf l).size = (l.flatMap encL).length := (size_list _).symm
  rw [e]
  clear e
  induction l with
  | nil => simp
  | cons n t ih =>
    have h1 := enc_len (h n (by simp))
    have h2 := ih (fun m hm => h m (by simp [hm]))
    rw [List.flatMap_cons, List.length_append, List.length_cons]
    omega
theorem runesOf_text (l : List Nat) (h : ∀ n ∈ l, IsRune n) : runesOf (textOf l) = l := by
  unfold runesOf
  rw [textOf_list, valid_encs l h, if_pos rfl]
  exact runes_encs l h _ (textOf_len l h).2
theorem turned_none (l : List Nat) (h : ∀ n ∈ l, IsRune n) (k : Nat) (hk : k < (l.flatMap encL).length) (hb : 128 ≤ ((l.flatMap encL)[k]'hk).toNat) (c : UInt8) (hc : c.toNat < 128) :
    runS st0 ((l.flatMap encL).take k ++ [c] ++ (l.flatMap encL).drop (k + 1)) = none := by
  induction l generalizing k with
  | nil => simp at hk
  | cons n t ih =>
    have hn := h n (by simp)
    simp only [List.flatMap_cons] at hk hb ⊢
    by_cases hlt : k < (encL n).length
    · rw [List.getElem_append_left hlt] at hb
      rw [List.take_append_of_le_length (by omega), List.drop_append_of_le_length (by omega), List.append_assoc, runS_append]
      by_cases h0 : k = 0
      · subst h0
        obtain ⟨a, rest, he, hcases⟩ := enc_form hn
        simp only [he] at hb hlt ⊢
        simp only [List.take_zero, runS_nil, List.singleton_append, runS_cons, List.getElem_cons_zero, Nat.zero_add, List.drop_succ_cons, List.drop_zero] at hb ⊢
        have hs : stepS st0 c = st0 := by
          show openS c.toNat = _
          unfold openS
          rw [if_pos hc]
          rfl
        rcases hcases with ⟨rfl, ha, _⟩ | ⟨_, lo, hi, g1, g2, ho, hlo, ha, hb0, hbs⟩
        · omega
        · cases rest with
          | nil => simp at g1
          | cons b r =>
            rw [hs, List.cons_append, runS_cons, cont_none _ (hbs b (by simp)), runS_none]
      · obtain ⟨m, lo, hi, hr, hlo⟩ := run_enc_take hn k (by omega) hlt
        rw [hr, List.singleton_append, runS_cons]
        have : stepS (some (m + 1, lo, hi)) c = none := by
          simp only [stepS]
          rw [if_pos (by omega)]
        rw [this, runS_none]
    · rw [List.getElem_append_right (by omega)] at hb
      have e1 : (encL n ++ t.flatMap encL).take k = encL n ++ (t.flatMap encL).take (k - (encL n).length) := by
        rw [List.take_append, List.take_of_length_le (by omega)]
      have e2 : (encL n ++ t.flatMap encL).drop (k + 1) = (t.flatMap encL).drop (k - (encL n).length + 1) := by
        rw [List.drop_append, List.drop_of_length_le (by omega), List.nil_append, show k + 1 - (encL n).length = k - (encL n).length + 1 by omega]
      rw [e1, e2, List.append_assoc, List.append_assoc, runS_append, run_enc hn, ← List.append_assoc]
      exact ih (fun m hm => h m (by simp [hm])) (k - (encL n).length) (by rw [List.length_append] at hk; omega) hb
theorem and127 (n : Int) : ∃ c : UInt8, c.toNat < 128 ∧ bits .and .u8 n 127 = ((c.toNat : Nat) : Int) := by
  have hle : (BitVec.ofInt 8 n &&& BitVec.ofInt 8 127).toNat ≤ 127 := by
    rw [BitVec.toNat_and, show (BitVec.ofInt 8 127).toNat = 127 by decide]
    exact Nat.and_le_right
  refine ⟨UInt8.ofNat (BitVec.ofInt 8 n &&& BitVec.ofInt 8 127).toNat, by rw [toNat_ofNat _ (by omega)]; omega, ?_⟩
  rw [toNat_ofNat _ (by omega)]
  show IntKind.u8.wrap ((BitVec.ofInt 8 n &&& BitVec.ofInt 8 127).toNat : Nat) = _
  rw [IntKind.wrap_u8]
  omega
theorem wrap64_of {x : Int} (h : -9223372036854775808 ≤ x ∧ x ≤ 9223372036854775807) : wrap64 x = x := by
  first | (rw [wrap64]; omega) | (unfold wrap64; omega) | (simp only [wrap64, IntKind.wrap_i64]; omega)
/-- '(at%n + n) % n' -/
theorem rem_place (a : Int) (n : Nat) (hn : 0 < n) (hm : n ≤ 1000000) : ∃ k : Nat, k < n ∧ ((wrap64 (a.tmod n + n)).tmod n) = (k : Int) := by
  have h1 := Int.tmod_lt_of_pos a (show (0 : Int) < n by omega)
  have h2 : -(n : Int) < a.tmod n := by
    have := Int.lt_tmod_of_pos a (show (0 : Int) < n by omega)
    exact this
  have hw : wrap64 (a.tmod n + n) = a.tmod n + n := wrap64_of (by omega)
  rw [hw]
  have h3 : 0 ≤ a.tmod n + n := by omega
  have h4 := Int.tmod_nonneg (n : Int) h3
  have h5 := Int.tmod_lt_of_pos (a.tmod n + n) (show (0 : Int) < n by omega)
  exact ⟨((a.tmod n + n).tmod n).toNat, by omega, by omega⟩
theorem list_turned (s : ByteArray) (c : UInt8) (k : Nat) : (s.extract 0 k ++ (⟨#[c]⟩ : ByteArray) ++ s.extract (k + 1) s.size).data.toList = s.data.toList.take k ++ [c] ++ s.data.toList.drop (k + 1) := by
  have e1 : (s.extract 0 k).data.toList = s.data.toList.take k := by rw [ext_list]; rfl
  have e2 : (s.extract (k + 1) s.size).data.toList = s.data.toList.drop (k + 1) := by
    rw [ext_list, List.take_of_length_le (by rw [size_list]; omega)]
  simp only [ByteArray.data_append, Array.toList_append, e1, e2]
/-- What the loop over the runes has made of k of them. -/
def Pre (zs : List Int) (k : Nat) (t : ByteArray) : Prop := ∃ ns : List Nat, ns.length = k ∧ zs.take k = ns.map (fun (n : Nat) => (n : Int)) ∧ (∀ n ∈ ns, IsRune n) ∧ t = textOf ns
theorem pre_next {zs : List Int} {k n : Nat} {t : ByteArray} (h : Pre zs k t) (hk : k < zs.length) (hz : zs[k]'hk = (n : Int)) (hr : IsRune n) : Pre zs (k + 1) (t ++ Utf8.encode (n : Int)) := by
  obtain ⟨ns, h1, h2, h3, rfl⟩ := h
  refine ⟨ns ++ [n], by simp [h1], ?_, ?_, textOf_snoc ns n⟩
  · rw [List.take_add_one, List.getElem?_eq_getElem hk, hz, h2]
    simp
  · intro m hm
    rcases List.mem_append.1 hm with hm | hm
    · exact h3 m hm
    · simp only [List.mem_singleton] at hm
      subst hm
      exact hr
theorem pre_size {zs : List Int} {k : Nat} {t : ByteArray} (h : Pre zs k t) : t.size ≤ 4 * k ∧ k ≤ t.size := by
  obtain ⟨ns, h1, h2, h3, rfl⟩ := h
  have := textOf_len ns h3
  omega
set_option maxRecDepth 100000 in
set_option maxHeartbeats 1600000 in
theorem lawrunes_main (A : Option Addr) (n c : Nat) (zs : List Int) (at_ by_ : Int) (w : World) (hl : zs.length = n) (hR : Reads w w.heap.size 1 A n (zs.map (Value.int .i64))) (hn : n ≤ 60) (hz : ∀ z ∈ zs, -9223372036854775808 ≤ z ∧ z ≤ 9223372036854775807) (_ : -9223372036854775808 ≤ at_ ∧ at_ ≤ 9223372036854775807) (hT : Tabs w) :
    Calls Tryd.prog 4 #[.slice A n c, .int .i64 at_, .int .u8 by_] w fun e w' => e = .returned (.bool true) ∧ Below w.heap.size w w' := by
  have HA := Lib.hid (alive_any w hT)
  have HT := Lib.hid hT
  have hTl := hT.lt
  have HR := Lib.hid hR
  have HZ := Lib.hid hz
  have c1 : ¬ (60 : Int) < (n : Int) := by omega
  clear hT hR hz
  go_enter Tryd.func4, Tryd.ntmps4
  go_wp2_with fail
  refine HA.out.mono ?_
  rintro e w1 ⟨rfl, b1⟩
  have B1 := Lib.hid b1
  clear HA b1
  go_wp2
  go_loop [7, 9, 10, 11, 23] (fun s _ _ _ i => ∃ (k : Nat) (t : ByteArray), k ≤ n ∧ i = .int .i64 k ∧ s = .string t ∧ Hid (Pre zs k t)) (fun _ _ _ _ i => n - (RowKit.intOf i).toNat)
  case atStart => exact ⟨0, ⟨#[]⟩, Nat.zero_le _, rfl, rfl, Lib.hid ⟨[], rfl, by simp, by simp, rfl⟩⟩
  case round =>
    obtain ⟨k, t, hk, rfl, rfl, HP⟩ := hrel
    by_cases hlt : k < n
    · have hkz : k < zs.length := by omega
      obtain ⟨ad, u, rfl, hb0, hu, hcell⟩ := (HR.out.below B1.out).at_ hlt
      rw [List.getElem?_map, List.getElem?_eq_getElem hkz, Option.map_some, Option.some.injEq] at hu
      subst hu
      have hps := pre_size HP.out
      have hzb := HZ.out _ (List.getElem_mem hkz)
      obtain ⟨z, hz⟩ : ∃ z, zs[k]'hkz = z := ⟨_, rfl⟩
      rw [hz] at hcell hzb
      rcases rune_or z with ⟨m, rfl, hm⟩ | hno
      · have hPut := Lib.hid (put_ok m hm)
        have HN := Lib.hid (pre_next HP.out hkz hz hm)
        have hes : (Utf8.encode (m : Int)).size ≤ 4 := by rw [enc_size]; exact (enc_len hm).2
        generalize Utf8.encode (m : Int) = y at *
        have hbig : ¬ 9223372036854775807 < t.size + y.size := by omega
        clear hz hm HP hzb
        go_wp2_with fail
        refine (hPut.out _).mono ?_
        rintro e w' ⟨rfl, rfl⟩
        go_wp2
        go_round
        case rel => exact ⟨k + 1, t ++ y, by omega, by go_num, rfl, HN⟩
        case measure => simp [RowKit.intOf]; omega
      · have hPut := Lib.hid (put_no z hno)
        clear hz HP
        go_wp2_with fail
        refine (hPut.out _).mono ?_
        rintro e w' ⟨rfl, rfl⟩
        by_cases d1 : z < 0
        · clear hno
          go_wp2
          go_ret
          exact ⟨rfl, B1.out⟩
        by_cases d2 : (1114111 : Int) < z
        · clear hno
          go_wp2
          go_ret
          exact ⟨rfl, B1.out⟩
        have d3 : (55296 : Int) ≤ z := by omega
        have d4 : z ≤ 57343 := by omega
        clear hno
        go_wp2
        go_ret
        exact ⟨rfl, B1.out⟩
    · obtain ⟨ns, hnl, hns, hir, rfl⟩ := HP.out
      rw [List.take_of_length_le (by omega)] at hns
      have hts := textOf_len ns hir
      have T1 := Lib.hid (HT.out.below B1.out hTl)
      have hv := valid_encs ns hir
      rw [← textOf_list] at hv
      have HV := Lib.hid hv
      have hrr := runesOf_text ns hir
      clear hv HP
      go_wp2_with fail
      refine (valid_lit (textOf ns) w1 (by omega) T1.out true HV.out).mono ?_
      rintro e w2 ⟨rfl, b2⟩
      have B2 := Lib.hid (B1.out.trans (b2.mono B1.out.size))
      have T2 := Lib.hid (T1.out.below b2 T1.out.lt)
      clear b2
      have hR2 := runes_any (textOf ns) w2 (by omega) T2.out
      rw [hrr] at hR2
      have HR2 := Lib.hid hR2
      clear hR2 hrr
      go_wp2_with fail
      refine HR2.out.mono ?_
      rintro e w3 ⟨v, rfl, hW, hF⟩
      have B3 := Lib.hid (B2.out.trans (hF.1.mono B2.out.size))
      have T3 := Lib.hid (T2.out.below hF.1 T2.out.lt)
      have R3 := HR.out.below B3.out
      obtain ⟨a3, c3, rfl, _, _⟩ := hW.slice_form
      have hSame := same_ints w3 a3 A n c3 c zs hl (fun h0 => by
        obtain ⟨g, off, cap, e1, _, _, _, _, h2⟩ := hW.form (by omega)
        injection e1 with e1 _ e2
        subst e1
        refine ⟨_, rfl, fun j z hj => ?_⟩
        rw [add_flat]
        refine (h2 j _ ?_).1
        rw [hns, List.getElem?_map] at hj
        rw [intCells_get]
        cases hq : ns[j]? with
        | none => rw [hq] at hj; cases hj
        | some m => rw [hq] at hj; injection hj with hj; subst hj; rfl) (fun h0 => by
        obtain ⟨ad, e1, _, hc⟩ := R3.2 h0
        exact ⟨ad, e1, fun j z hj => hc j _ (by rw [List.getElem?_map, hj]; rfl)⟩) (by omega)
      have HS := Lib.hid hSame
      rw [hnl, show k = n by omega]
      clear hSame R3 hF hW B2 T2
      go_wp2_with fail
      refine HS.out.mono ?_
      rintro e w4 ⟨rfl, q, rfl⟩
      have B4 : Hid (Below w.heap.size w (w3.drewN q)) := Lib.hid (below_drewN B3.out q)
      have T4 : Hid (Tabs (w3.drewN q)) := T3
      generalize w3.drewN q = W at B4 T4 ⊢
      have hbad := fun kk (hkk : kk < (textOf ns).size) (hbb : 128 ≤ ((textOf ns)[kk]'hkk).toNat) (cc : UInt8) (hcc : cc.toNat < 128) => turned_none ns hir kk (by rw [← textOf_list, size_list]; exact hkk) hbb cc hcc
      rw [← textOf_list] at hbad
      have hsm : (textOf ns).size ≤ 1000000 := by omega
      generalize textOf ns = s at *
      clear hir hns hnl HS HR2 HV T3 B3 HR T1 B1 c1 hl HZ HT
      by_cases h0 : s.size = 0
      · have hse : s.toList.isEmpty = true := by rw [List.isEmpty_iff]; exact toList_nil h0
        have hse3 : s.toList = [] := toList_nil h0
        clear hbad
        go_wp2
        go_ret
        exact ⟨rfl, B4.out⟩
      · have hse : s.toList.isEmpty = false := by rw [List.isEmpty_eq_false_iff]; exact fun e => h0 (size_nil e)
        have hse2 : (s.toList == []) = false := by rw [beq_eq_false_iff_ne]; exact fun e => h0 (size_nil e)
        have hse3 : ¬ s.toList = [] := fun e => h0 (size_nil e)
        obtain ⟨kk, hkk, hkk2⟩ := rem_place at_ s.size (by omega) hsm
        have hz0 : ((s.size : Int) == 0) = false := by rw [beq_eq_false_iff_ne]; omega
        obtain ⟨x, hx⟩ : ∃ x, s[kk]'hkk = x := ⟨_, rfl⟩
        have hbb := hbad kk hkk
        rw [hx] at hbb
        have HBB := Lib.hid hbb
        clear hbad hbb
        by_cases hx1 : ((x.toNat : Nat) : Int) < 128
        · clear HBB
          go_wp2
          go_ret
          exact ⟨rfl, B4.out⟩
        · obtain ⟨cc, hcc, hce⟩ := and127 by_
          have hlo := slice_str_hi s kk (by omega)
          have hhi := slice_str_lo s (kk + 1) (by omega)
          rw [show ((kk + 1 : Nat) : Int) = (kk : Int) + 1 by omega] at hhi
          have hno := HBB.out (by omega) cc hcc
          rw [← list_turned] at hno
          have hvn : validD (s.extract 0 kk ++ (⟨#[cc]⟩ : ByteArray) ++ s.extract (kk + 1) s.size).data.toList = false := by rw [valid_run, hno]; rfl
          have HV := Lib.hid hvn
          have hz1 : (s.extract 0 kk).size = kk := by rw [← size_list, ext_list]; simp; omega
          have hz2 : (s.extract (kk + 1) s.size).size = s.size - (kk + 1) := by rw [← size_list, ext_list]; simp
          have hcv := conv_row (w := (W.alloc (.cells #[.int .u8 cc.toNat] 5)).drew) (g := W.heap.size) (l := [cc]) (heap_alloc_new W _) 0 1 1 (by simp)
          have hcv' : (convert 44 9 (.slice (some ⟨W.heap.size, 0, none⟩) 1 1)).run Tryd.prog (W.alloc (.cells #[.int .u8 cc.toNat] 5)).drew = .ok (.string ⟨#[cc]⟩) (W.alloc (.cells #[.int .u8 cc.toNat] 5)).drew := hcv
          clear HBB hno hvn hcv
          generalize s.extract 0 kk = x1 at *
          generalize s.extract (kk + 1) s.size = x2 at *
          have hs1 : (⟨#[cc]⟩ : ByteArray).size = 1 := rfl
          have hbig : ¬ 9223372036854775807 < x1.size + (⟨#[cc]⟩ : ByteArray).size := by omega
          have hs2 : (x1 ++ (⟨#[cc]⟩ : ByteArray)).size = kk + 1 := by rw [ByteArray.size_append, hz1, hs1]
          have hbig2 : ¬ 9223372036854775807 < (x1 ++ (⟨#[cc]⟩ : ByteArray)).size + x2.size := by omega
          have hbig3 : ¬ 9223372036854775807 < x1.size + (⟨#[cc]⟩ : ByteArray).size + x2.size := by omega
          have hsz : (x1 ++ (⟨#[cc]⟩ : ByteArray) ++ x2).size ≤ 9223372036854775807 := by rw [ByteArray.size_append]; omega
          have BB := Lib.hid ((B4.out.alloc B4.out.size (.cells #[.int .u8 cc.toNat] 5)).drew)
          have T5 : Hid (Tabs (W.alloc (.cells #[.int .u8 cc.toNat] 5)).drew) := Lib.hid (T4.out.below (((Below.refl W.heap.size W).alloc (Nat.le_refl _) _).drew) T4.out.lt)
          have hVal := Lib.hid (valid_lit _ _ hsz T5.out false HV.out)
          clear hs1 hs2 hz1 hz2
          generalize (⟨#[cc]⟩ : ByteArray) = xc at *
          have hkz : (kk : Int) + 1 ≤ (s.size : Int) := by omega
          have hwk : IntKind.i64.wrap ((kk : Int) + 1) = (kk : Int) + 1 := by rw [IntKind.wrap_i64]; omega
          go_wp2
          go_region_with (go_at_call 16; (with_reducible refine hVal.out.mono ?_); rintro e w5 ⟨rfl, b5⟩)
          have B5 := Lib.hid (BB.out.trans (b5.mono BB.out.size))
          clear b5
          go_wp2
          go_ret
          exact ⟨rfl, B5.out⟩
set_option maxRecDepth 100000 in
set_option maxHeartbeats 400000 in
theorem lawrunes_long (A : Option Addr) (n c : Nat) (at_ by_ : Int) (w : World) (hn : 60 < n) (hT : Tabs w) :
    Calls Tryd.prog 4 #[.slice A n c, .int .i64 at_, .int .u8 by_] w fun e w' => e = .returned (.bool true) ∧ Below w.heap.size w w' := by
  have HA := Lib.hid (alive_any w hT)
  have c1 : (60 : Int) < (n : Int) := by omega
  clear hT hn
  go_enter Tryd.func4, Tryd.ntmps4
  go_wp2_with fail
  refine HA.out.mono ?_
  rintro e w1 ⟨rfl, b1⟩
  go_wp2
  go_ret
  exact ⟨rfl, b1⟩
theorem lawrunes_any (A : Option Addr) (n c : Nat) (zs : List Int) (at_ by_ : Int) (w : World) (hl : zs.length = n) (hR : Reads w w.heap.size 1 A n (zs.map (Value.int .i64))) (hz : ∀ z ∈ zs, -9223372036854775808 ≤ z ∧ z ≤ 9223372036854775807) (hat : -9223372036854775808 ≤ at_ ∧ at_ ≤ 9223372036854775807) (_ : 0 ≤ by_ ∧ by_ ≤ 255) (hT : Tabs w) :
    Calls Tryd.prog 4 #[.slice A n c, .int .i64 at_, .int .u8 by_] w fun e w' => e = .returned (.bool true) ∧ Below w.heap.size w w' := by
  by_cases h : n ≤ 60
  · exact lawrunes_main A n c zs at_ by_ w hl hR h hz hat hT
  · exact lawrunes_long A n c at_ by_ w (by omega) hT
end Go.Proofs.YtpmbpcinfakckaaDoor
