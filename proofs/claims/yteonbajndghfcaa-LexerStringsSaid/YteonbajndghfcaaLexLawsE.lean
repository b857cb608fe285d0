/-
  LAWS of chapter 10: LexerStrings.
-/
import Derived.Test.YteonbajndghfcaaLexLawsC
import Derived.Test.YteonbajndghfcaaRefWrite
import Derived.Test.YteonbajndghfcaaEncs
namespace Go.Proofs.Yteonbajndghfcaa
open Go.RowKit
open Go.Lib
theorem strX_err (p : Ins × List UInt8) : errX (strX p) = if 200 < p.2.length then 5 else 0 := by
  unfold strX
  split <;> rfl
/-- A string of a text, byte by byte. -/
theorem quote_step (l : List UInt8) (hv : validD l = true) (Y : List UInt8) (hY : Y = 34 :: escW l ++ [34]) (q : Nat) (hq : q < Y.length) (x : UInt8) (hx : Y[q] = x) (he : errX (runX .idle (Y.take q)).1 = 0) :
    (errX (stepX (runX .idle (Y.take q)).1 x).1 = 5 ∧ 200 < l.length) ∨
    (errX (stepX (runX .idle (Y.take q)).1 x).1 = 0 ∧ q + 1 < Y.length ∧ (stepX (runX .idle (Y.take q)).1 x).2 = []) ∨
    (errX (stepX (runX .idle (Y.take q)).1 x).1 = 0 ∧ q + 1 = Y.length ∧ (stepX (runX .idle (Y.take q)).1 x).2 = [⟨115, l, (false, 0)⟩] ∧ l.length ≤ 200) := by
  have hlen : Y.length = (escW l).length + 2 := by rw [hY]; simp
  have hs := runX_snoc .idle Y q hq
  rw [hx] at hs
  have hsplit : ∀ k, k ≤ (escW l).length + 1 → Y.take k = (34 :: escW l).take k := by
    intro k hk
    rw [hY, List.take_append_of_le_length (by simp; omega)]
  by_cases h1 : q ≤ (escW l).length
  · have hin := quote_in l hv q h1
    rw [← hsplit (q + 1) (by omega), hs] at hin
    have e1 := congrArg Prod.fst hin
    have e2 := congrArg Prod.snd hin
    simp only [List.append_eq_nil_iff] at e1 e2
    rw [e1, e2.2]
    have hp := str_part (escW l) l (read_write l hv) q
    rw [strX_err]
    by_cases hb : 200 < (runI insT ((escW l).take q)).2.length
    · rw [if_pos hb]
      exact .inl ⟨rfl, by omega⟩
    · rw [if_neg hb]
      exact .inr (.inl ⟨rfl, by omega, rfl⟩)
  · have hq2 : q = (escW l).length + 1 := by omega
    have hM : Y.take q = 34 :: escW l := by
      rw [hsplit q (by omega), List.take_of_length_le (by simp; omega)]
    have hl200 : l.length ≤ 200 := by
      by_cases hb : 200 < l.length
      · rw [hM, quote_long l hv hb] at he
        cases he
      · omega
    have hall : Y.take (q + 1) = Y := List.take_of_length_le (by omega)
    have hnt : (runX .idle (Y.take q)).2 = [] := by
      have := quote_in l hv (escW l).length (Nat.le_refl _)
      rw [List.take_of_length_le (by simp)] at this
      rw [hM, this]
    rw [hall, hY, quote_end l hv hl200, ← hY, hnt] at hs
    have e1 := congrArg Prod.fst hs
    have e2 := congrArg Prod.snd hs
    simp only [List.nil_append] at e1 e2
    refine .inr (.inr ⟨by rw [← e1]; rfl, by omega, e2.symm, hl200⟩)
theorem quote_whole (l : List UInt8) (hv : validD l = true) (Y : List UInt8) (hY : Y = 34 :: escW l ++ [34]) (he : errX (runX .idle Y).1 = 0) : l.length ≤ 200 ∧ (runX .idle Y).1 = .idle := by
  by_cases hb : 200 < l.length
  · rw [hY, runX_append, quote_long l hv hb, runX_bad] at he
    cases he
  · refine ⟨by omega, ?_⟩
    rw [hY, quote_end l hv (by omega)]
theorem enc_a : Utf8.encode ((97 : Nat) : Int) = ⟨#[97]⟩ := by decide +kernel
def strLen : Value → Nat
  | .string s => s.size
  | _ => 0
theorem enc_valid {k : Nat} {t : ByteArray} (h : Enc k t) : validD t.data.toList = true := by
  obtain ⟨ns, _, h2, h3⟩ := h
  rw [h3]
  exact valid_encs ns h2
set_option maxRecDepth 100000 in
set_option maxHeartbeats 8000000 in
theorem strings_main (A : Option Addr) (n c : Nat) (zs : List Int) (N : Nat) (w : World) (hl : zs.length = n) (hR : Reads w w.heap.size 1 A n (zs.map (Value.int .i64))) (hn : n ≤ 40) (hN : N ≤ 220) (hz : ∀ z ∈ zs, -9223372036854775808 ≤ z ∧ z ≤ 9223372036854775807) :
    Calls Try.prog 5 #[.slice A n c, .int .i64 N] w fun e w' => e = .returned (.bool true) ∧ Below w.heap.size w w' := by
  have HR := Lib.hid hR
  have HZ := Lib.hid hz
  have c1 : ¬ (40 : Int) < (n : Int) := by omega
  have c2 : ¬ (N : Int) < 0 := by omega
  have c3 : ¬ (220 : Int) < (N : Int) := by omega
  clear hR hz
  go_enter Try.func5, Try.ntmps5
  go_wp2_with fail
  refine (alive_any _).mono ?_
  rintro e w1 ⟨rfl, b1⟩
  have B1 := Lib.hid b1
  clear b1
  go_wp2
  go_loopw [5, 7, 31] (fun s _ i wr => ∃ (k : Nat) (t : ByteArray), k ≤ n ∧ i = .int .i64 k ∧ s = .string t ∧ Hid (Enc k t) ∧ Hid (Below w.heap.size w wr)) (fun _ _ i _ => n - (RowKit.intOf i).toNat)
  case atStart => exact ⟨0, ⟨#[]⟩, Nat.zero_le _, rfl, rfl, Lib.hid ⟨[], by simp, by simp, by simp⟩, B1⟩
  case round =>
    obtain ⟨k, t, hk, rfl, rfl, HP, HB⟩ := hrel
    have hts := enc_size' HP.out
    by_cases hlt : k < n
    · have hkz : k < zs.length := by omega
      obtain ⟨ad, u, rfl, hb0, hu, hcell⟩ := (HR.out.below HB.out).at_ hlt
      rw [List.getElem?_map, List.getElem?_eq_getElem hkz, Option.map_some, Option.some.injEq] at hu
      subst hu
      have hzb := HZ.out _ (List.getElem_mem hkz)
      obtain ⟨z, hz⟩ : ∃ z, zs[k]'hkz = z := ⟨_, rfl⟩
      rw [hz] at hcell hzb
      clear hz
      rcases rune_or z with ⟨m, rfl, hm⟩ | hno
      · have hRef := Lib.hid (fun W => ref_ok m hm W)
        have HN := Lib.hid (enc_next HP.out hm)
        have hes : (Utf8.encode (m : Int)).size ≤ 4 := by
          have h4 := (enc_len hm).2
          rw [← size_list]
          exact h4
        generalize Utf8.encode (m : Int) = y at *
        have hbig : ¬ 9223372036854775807 < t.size + y.size := by omega
        clear hm HP hzb
        go_wp2_with fail
        refine (hRef.out _).mono ?_
        rintro e w2 ⟨rfl, b2⟩
        have HB2 := Lib.hid (HB.out.trans (b2.mono HB.out.size))
        clear b2
        go_wp2
        go_roundw
        case rel => exact ⟨k + 1, t ++ y, by omega, by go_num, rfl, HN, HB2⟩
        case measure => simp [RowKit.intOf]; omega
      · have hRef := Lib.hid (fun W => ref_no z hno W)
        have HN := Lib.hid (enc_stay HP.out)
        clear HP hno
        obtain ⟨y, hy⟩ : ∃ y : ByteArray, y = ⟨#[]⟩ := ⟨_, rfl⟩
        have hy0 : y.size = 0 := by rw [hy]; rfl
        rw [← hy] at HN hRef
        have hbig : ¬ 9223372036854775807 < t.size + y.size := by omega
        clear hy
        go_wp2_with fail
        refine (hRef.out _).mono ?_
        rintro e w2 ⟨rfl, rfl⟩
        go_wp2
        go_roundw
        case rel => exact ⟨k + 1, t ++ y, by omega, by go_num, rfl, HN, HB⟩
        case measure => simp [RowKit.intOf]; omega
    · have HP0 : Hid (∃ k, Enc k t) := Lib.hid ⟨k, HP.out⟩
      have ht0 : t.size ≤ 220 := by omega
      clear HP hts
      go_wp2
      go_loopw [5] (fun s wr => ∃ t : ByteArray, s = .string t ∧ t.size ≤ 220 ∧ Hid (∃ k, Enc k t) ∧ Hid (Below w.heap.size w wr)) (fun s _ => 220 - strLen s)
      case atStart => exact ⟨t, rfl, ht0, HP0, HB⟩
      case round =>
        clear HP0 ht0
        obtain ⟨t, rfl, ht, HP, HB⟩ := hrel
        by_cases hmore : t.size < N
        · have hbig : ¬ 9223372036854775807 < t.size + 1 := by omega
          obtain ⟨Z, hZ⟩ : ∃ Z, t ++ ⟨#[97]⟩ = Z := ⟨_, rfl⟩
          have hZs : Z.size = t.size + 1 := by rw [← hZ, ByteArray.size_append]; rfl
          have HN : Hid (∃ k, Enc k Z) := Lib.hid (by
            obtain ⟨k, h⟩ := HP.out
            have := enc_next h (n := 97) (by unfold IsRune; omega)
            rw [enc_a, hZ] at this
            exact ⟨_, this⟩)
          have hm1 : strLen (.string Z) = Z.size := rfl
          have hm2 : strLen (.string t) = t.size := rfl
          have HM := Lib.hid (And.intro hm1 (And.intro hm2 hZs))
          clear hm1 hm2 hZs HP
          go_wp2
          go_roundw
          case rel => exact ⟨Z, rfl, by have := HM.out.2.2; omega, HN, HB⟩
          case measure => rw [HM.out.1, HM.out.2.1, HM.out.2.2]; omega
        · obtain ⟨g, hg⟩ : ∃ g, wr.heap.size = g := ⟨_, rfl⟩
          obtain ⟨W, hW⟩ : ∃ W, wr.alloc (.cells #[.int .i64 0, .int .i64 0, .int .i64 0, .int .i64 0, .int .u8 0, .int .u8 0, .bool false, .int .i64 0, .int .i64 0, .int .i64 0, .string ⟨#[]⟩, .int .i64 0, .int .i64 0, .bool false, .int .u64 0, .int .u64 0, .string ⟨#[]⟩, .int .i64 0] 35) = W := ⟨_, rfl⟩
          have h0 := ls_new HB.out
          have hW' : wr.alloc (.cells (lxZ 0).toArray 35) = W := hW
          rw [hW', hg] at h0
          have H0 := Lib.hid h0
          obtain ⟨l, hl⟩ : ∃ l, t.data.toList = l := ⟨_, rfl⟩
          have hv : validD l = true := by
            obtain ⟨k, hk⟩ := HP.out
            rw [← hl]
            exact enc_valid hk
          obtain ⟨X, hX⟩ : ∃ X : ByteArray, (⟨(escW l).toArray⟩ : ByteArray) = X := ⟨_, rfl⟩
          have hWr := fun W0 => rwrite_any t (by omega) W0
          rw [hl, hX] at hWr
          have HWr := Lib.hid hWr
          obtain ⟨U, hU⟩ : ∃ U, (⟨#[34]⟩ : ByteArray) ++ X = U := ⟨_, rfl⟩
          obtain ⟨Y, hY⟩ : ∃ Y, U ++ (⟨#[34]⟩ : ByteArray) = Y := ⟨_, rfl⟩
          have hXs : X.size ≤ 1320 := by
            rw [← hX, size_of]
            have h1 := escW_len l
            have h2 : l.length = t.size := by rw [← hl, size_list]
            omega
          have hUs : U.size ≤ 1321 := by rw [← hU, ByteArray.size_append]; show 1 + X.size ≤ 1321; omega
          have hYs : Y.size ≤ 1322 := by rw [← hY, ByteArray.size_append]; show U.size + 1 ≤ 1322; omega
          obtain ⟨L, hL⟩ : ∃ L, Y.data.toList = L := ⟨_, rfl⟩
          have hLe : L = 34 :: escW l ++ [34] := by
            rw [← hL, ← hY, ← hU, ← hX, ByteArray.data_append, ByteArray.data_append, Array.toList_append, Array.toList_append]
            rfl
          have z1 : ¬ 9223372036854775807 < 1 + X.size := by omega
          have z2 : ¬ 9223372036854775807 < U.size + 1 := by omega
          have HF := Lib.hid (And.intro hv (And.intro hL (And.intro hLe hl)))
          have hY2 : 2 ≤ Y.size := by
            rw [← size_list, hL, hLe]
            simp
          have HG : Hid (Hid (U ++ (⟨#[34]⟩ : ByteArray) = Y) ∧ Hid ((⟨#[34]⟩ : ByteArray) ++ X = U)) := Lib.hid ⟨Lib.hid hY, Lib.hid hU⟩
          clear hv hl hX hWr hL hLe hW' HP hXs hUs h0
          go_wp2_with (rw [hg, hW])
          refine (HWr.out _).mono ?_
          rintro e w3 ⟨rfl, b3⟩
          have H3 := Lib.hid (H0.out.go b3)
          clear b3 H0
          go_wp2
          clear hW hg hU hY z1 z2
          go_loopw [10, 11, 12] (fun i _ _ wr => ∃ q : Nat, q ≤ Y.size ∧ i = .int .i64 q ∧ Hid (LS w wr g (runX .idle (L.take q)).1 ∧ errX (runX .idle (L.take q)).1 = 0)) (fun i _ _ _ => Y.size - (RowKit.intOf i).toNat)
          case atStart => exact ⟨0, Nat.zero_le _, rfl, Lib.hid ⟨H3.out, rfl⟩⟩
          case round =>
            obtain ⟨q, hq, rfl, HE⟩ := hrel
            clear H3
            by_cases hlt : q < Y.size
            · obtain ⟨x, hx⟩ : ∃ x, Y[q]'hlt = x := ⟨_, rfl⟩
              obtain ⟨hql, hlq⟩ := at_str HF.out.2.1 hlt hx
              have HN := Lib.hid (fun w' => HE.out.1.read (w' := w') hql hlq)
              have hsn := runX_snoc .idle L q hql
              rw [hlq] at hsn
              have hst := quote_step l HF.out.1 L HF.out.2.2.1 q hql x hlq HE.out.2
              have hLY : L.length = Y.size := by rw [← HF.out.2.1, size_list]
              have htl : l.length = t.size := by rw [← HF.out.2.2.2, size_list]
              rw [hLY, htl] at hst
              have HS := Lib.hid (lstep_at HE.out.1.at_ x)
              have HSN := Lib.hid hsn
              clear hql hlq hsn hLY htl
              rcases hst with ⟨h1, h2⟩ | ⟨h1, h2, h3⟩ | ⟨h1, h2, h3, h4⟩
              · have t2 : ((200 : Int) < (t.size : Int)) = True := by simp only [eq_iff_iff, iff_true]; omega
                rw [h1] at HS
                clear h1 h2
                go_wp2_with fail
                refine HS.out.mono ?_
                rintro r w4 ⟨v1, rfl, hT, hLx, hs⟩
                obtain ⟨a, c', rfl⟩ := hT.form
                have HB4 := Lib.hid (HE.out.1.b.trans (hs.below HE.out.1.new HE.out.1.b.size))
                clear hT hLx hs
                go_wp2
                go_ret
                exact ⟨rfl, HB4.out⟩
              · have hz1 : ((q : Int) == (Y.size : Int) - 1) = false := by rw [beq_eq_false_iff_ne]; omega
                have HZ1 := Lib.hid h1
                rw [h1, h3] at HS
                clear h1 h3 h2
                by_cases hb : 200 < t.size
                · have t2 : ((200 : Int) < (t.size : Int)) = True := by simp only [eq_iff_iff, iff_true]; omega
                  clear hb
                  go_wp2_with fail
                  refine HS.out.mono ?_
                  rintro r w4 ⟨v1, rfl, hT, hLx, hs⟩
                  obtain ⟨a, c', rfl⟩ := hT.form
                  have HN2 := Lib.hid (And.intro (HN.out w4 hs hLx) (show errX (runX .idle (L.take (q + 1))).1 = 0 by rw [HSN.out]; exact HZ1.out))
                  clear hT hLx hs
                  go_wp2
                  go_roundw
                  case rel => exact ⟨q + 1, by omega, by go_num, HN2⟩
                  case measure => simp [RowKit.intOf]; omega
                · have t2 : ((200 : Int) < (t.size : Int)) = False := by simp only [eq_iff_iff, iff_false]; omega
                  clear hb
                  go_wp2_with fail
                  refine HS.out.mono ?_
                  rintro r w4 ⟨v1, rfl, hT, hLx, hs⟩
                  obtain ⟨a, c', rfl⟩ := hT.form
                  have HN2 := Lib.hid (And.intro (HN.out w4 hs hLx) (show errX (runX .idle (L.take (q + 1))).1 = 0 by rw [HSN.out]; exact HZ1.out))
                  clear hT hLx hs
                  go_wp2
                  go_roundw
                  case rel => exact ⟨q + 1, by omega, by go_num, HN2⟩
                  case measure => simp [RowKit.intOf]; omega
              · have hz1 : ((q : Int) == (Y.size : Int) - 1) = true := by rw [beq_iff_eq]; omega
                have t2 : ((200 : Int) < (t.size : Int)) = False := by simp only [eq_iff_iff, iff_false]; omega
                have HZ1 := Lib.hid h1
                rw [h1, h3] at HS
                have htt : (t.toList != t.toList) = false := by simp
                have hlt2 : (⟨l.toArray⟩ : ByteArray) = t := by rw [← HF.out.2.2.2]
                have HLT := Lib.hid hlt2
                clear h1 h3 h2 h4 hlt2
                go_wp2_with fail
                refine HS.out.mono ?_
                rintro r w4 ⟨v1, rfl, hT, hLx, hs⟩
                obtain ⟨gb, off, cc, rfl, _, _, _, _, hc⟩ := hT.win.form (by simp)
                have c0 : w4.cell? ⟨gb, off, none⟩ = some (.int .u8 115) := (hc 0 _ rfl).1
                have c1' : w4.cell? ⟨gb, off + 1, none⟩ = some (.string t) := by rw [← HLT.out]; exact (hc 1 _ rfl).1
                have HN2 := Lib.hid (And.intro (HN.out w4 hs hLx) (show errX (runX .idle (L.take (q + 1))).1 = 0 by rw [HSN.out]; exact HZ1.out))
                clear hT hLx hs hc
                go_wp2
                go_roundw
                case rel => exact ⟨q + 1, by omega, by go_num, HN2⟩
                case measure => simp [RowKit.intOf]; omega
            · have hLY : L.length = Y.size := by rw [← HF.out.2.1, size_list]
              have htl : l.length = t.size := by rw [← HF.out.2.2.2, size_list]
              have hE := HE.out
              rw [List.take_of_length_le (by omega)] at hE
              obtain ⟨h200, hi⟩ := quote_whole l HF.out.1 L HF.out.2.2.1 hE.2
              rw [hi] at hE
              have HH := Lib.hid (lheld_at hE.1.at_)
              have HB4 := Lib.hid hE.1.b
              have t3 : ((t.size : Int) ≤ 200) = True := by simp only [eq_iff_iff, iff_true]; omega
              clear hLY htl hE h200 hi HE
              go_wp2_with fail
              refine HH.out.mono ?_
              rintro r w4 ⟨rfl, rfl⟩
              go_wp2
              go_ret
              exact ⟨rfl, HB4.out⟩
set_option maxRecDepth 100000 in
set_option maxHeartbeats 2000000 in
theorem strings_out (A : Option Addr) (n c : Nat) (m : Int) (w : World) (h : 40 < n ∨ m < 0 ∨ 220 < m) :
    Calls Try.prog 5 #[.slice A n c, .int .i64 m] w fun e w' => e = .returned (.bool true) ∧ Below w.heap.size w w' := by
  by_cases h1 : 40 < n
  · have c1 : ((40 : Int) < (n : Int)) = True := by simp only [eq_iff_iff, iff_true]; omega
    clear h h1
    go_enter Try.func5, Try.ntmps5
    go_wp2_with fail
    refine (alive_any _).mono ?_
    rintro e w1 ⟨rfl, b1⟩
    have B1 := Lib.hid b1
    clear b1
    go_wp2
    go_ret
    exact ⟨rfl, B1.out⟩
  have c1 : ((40 : Int) < (n : Int)) = False := by simp only [eq_iff_iff, iff_false]; omega
  by_cases h2 : m < 0
  · have c2 : (m < 0) = True := by simp only [eq_iff_iff, iff_true]; exact h2
    clear h h1 h2
    go_enter Try.func5, Try.ntmps5
    go_wp2_with fail
    refine (alive_any _).mono ?_
    rintro e w1 ⟨rfl, b1⟩
    have B1 := Lib.hid b1
    clear b1
    go_wp2
    go_ret
    exact ⟨rfl, B1.out⟩
  have c2 : (m < 0) = False := by simp only [eq_iff_iff, iff_false]; exact h2
  have c3 : ((220 : Int) < m) = True := by simp only [eq_iff_iff, iff_true]; omega
  clear h h1 h2
  go_enter Try.func5, Try.ntmps5
  go_wp2_with fail
  refine (alive_any _).mono ?_
  rintro e w1 ⟨rfl, b1⟩
  have B1 := Lib.hid b1
  clear b1
  go_wp2
  go_ret
  exact ⟨rfl, B1.out⟩
theorem strings_any (A : Option Addr) (n c : Nat) (zs : List Int) (m : Int) (w : World) (hl : zs.length = n) (hR : Reads w w.heap.size 1 A n (zs.map (Value.int .i64))) (hz : ∀ z ∈ zs, -9223372036854775808 ≤ z ∧ z ≤ 9223372036854775807) :
    Calls Try.prog 5 #[.slice A n c, .int .i64 m] w fun e w' => e = .returned (.bool true) ∧ Below w.heap.size w w' := by
  by_cases h : 40 < n ∨ m < 0 ∨ 220 < m
  · exact strings_out A n c m w h
  · obtain ⟨N, rfl⟩ : ∃ N : Nat, m = (N : Int) := ⟨m.toNat, by omega⟩
    exact strings_main A n c zs N w hl hR (by omega) (by omega) hz
end Go.Proofs.Yteonbajndghfcaa
