/-
  LAWS of chapter 11: JsoninCuts.
-/
import Derived.Test.YtacngbngljfedaaJinLawsE
import Derived.Test.YtacngbngljfedaaJinCut
import Derived.Test.YtacngbngljfedaaGa
namespace Go.Proofs.Ytacngbngljfedaa
open Go.RowKit
open Go.Lib
theorem writeW_short (s : List Bx) (e : Ev) (g : GoodW e) (ht : e.t.size ≤ 28) : (writeW s e).length ≤ 400 := by
  have h1 : (sepW s).length ≤ 1 := by
    unfold sepW
    repeat' split
    all_goals simp
  unfold writeW
  split
  · split
    · simp
    · split <;> simp
  · rw [List.length_append]
    have h2 : (outW e).length ≤ 399 := by
      unfold outW
      by_cases h0 : e.k = 0
      · rw [if_pos h0]; simp
      by_cases h1 : e.k = 1
      · rw [if_neg h0, if_pos h1]; split <;> simp
      by_cases h2 : e.k = 2
      · rw [if_neg h0, if_neg h1, if_pos h2]
        have := print_len (e.y, e.m) g.mag
        omega
      by_cases h3 : e.k = 3
      · rw [if_neg h0, if_neg h1, if_neg h2, if_pos h3]
        have := escW_len e.t.data.toList
        have h4 : e.t.data.toList.length = e.t.size := Array.length_toList
        simp only [List.length_append, List.length_cons, List.length_nil]
        omega
      · rw [if_neg h0, if_neg h1, if_neg h2, if_neg h3]
        split <;> simp
    omega
/-- In the midst of writing. -/
structure CutI (w3 wr : World) (L : List Ev) (j : Nat) (S : ByteArray) : Prop where
  wrc : WrC j w3.heap.size wr w3.heap.size (runC (.live []) (L.take j))
  st : S = ⟨(writeAll [] [] [] (L.take j)).toArray⟩
  below : Below w3.heap.size w3 wr
  sz : S.size ≤ 400 * j
theorem cut_next {w3 wr w4 : World} {L : List Ev} {j : Nat} {S X : ByteArray} {s : List Bx} (h : CutI w3 wr L j S) (hj : j < L.length) (hs : runC (.live []) (L.take j) = .live s) (hX : X = ⟨(writeW s L[j]).toArray⟩) (hz : (writeW s L[j]).length ≤ 400)
    (hW : WrC (j + 1) w3.heap.size w4 w3.heap.size (stepC (.live s) L[j])) (hB : Below w3.heap.size wr w4) : CutI w3 w4 L (j + 1) (S ++ X) := by
  have hxs : X.size = (writeW s L[j]).length := by rw [hX]; exact size_of _
  have h1 := write_take [] [] hj hs
  refine ⟨by rw [runC_take hj, hs]; exact hW, ?_, h.below.trans hB, ?_⟩
  · rw [h1, h.st, hX, cat_of]
    simp
  · have := h.sz
    rw [ByteArray.size_append, hxs]
    omega
set_option maxRecDepth 100000 in
set_option maxHeartbeats 2000000 in
theorem cuts_out (A : Option Addr) (n cp : Nat) (k y : Int) (w : World) (t1 : ((40 : Int) < (n : Int)) = True) :
    Calls Try.prog 6 #[.slice A n cp, .int .i64 k, .int .u8 y] w fun r w' => r = .returned (.bool true) ∧ Below w.heap.size w w' := by
  have HA := Lib.hid (jalive_any w)
  go_enter Try.func6, Try.ntmps6
  go_wp2_with fail
  refine HA.out.mono ?_
  rintro r w1 ⟨rfl, b1⟩
  have B1 := Lib.hid b1
  clear b1
  go_wp2
  go_ret
  exact ⟨rfl, B1.out⟩
/-- What the law's last rows ask of the two readings. -/
structure CutT (B : List UInt8) (kk : Nat) (b : UInt8) : Prop where
  cut : (allJ 8 (B.take kk)).2 = 3 ∨ (allJ 8 (B.take kk)).2 = 2 ∧ (B.take kk).getLast? = some 45
  more : ((allJ 8 (B ++ [b])).2 = 0 ↔ isBlank b.toNat = true) ∧ ((allJ 8 (B ++ [b])).2 = 0 ∨ (allJ 8 (B ++ [b])).2 = 2 ∨ (allJ 8 (B ++ [b])).2 = 3)
set_option maxRecDepth 100000 in
set_option maxHeartbeats 8000000 in
theorem cuts_in (A : Option Addr) (n cp : Nat) (Li : Nat → Int) (k : Int) (b : UInt8) (w : World) (hL : DLAt w w.heap.size A n Li) (hn : n ≤ 40) :
    Calls Try.prog 6 #[.slice A n cp, .int .i64 k, .int .u8 b.toNat] w fun r w' => r = .returned (.bool true) ∧ Below w.heap.size w w' := by
  have t1 : ((40 : Int) < (n : Int)) = False := by simp; omega
  have HAL := Lib.hid (jalive_any w)
  have hgood := doc_good n Li 8 0
  have hone := doc_one true 8 n Li (by omega)
  rw [gE_true] at hone
  have hlen := item_length n Li 8
  have HDOC := Lib.hid (fun W (h : DLAt W W.heap.size A n Li) => doc_any A n cp Li 8 W h (by omega) (by omega) (cap16 8 (by omega)))
  have HLI := Lib.hid hL
  generalize hI : (itemD n Li 8 0).1 = I at *
  clear hI
  have HOP : Hid (∀ W a c, Win W 40 5 (.slice a I.length c) I.length (evsC I) → Calls Try.prog 12 #[.slice a I.length c] W fun r w' => ∃ v, r = .returned v ∧ Made W w' v I.length (I.map openE)) := Lib.hid (fun W a c h => by
    have := dopen_any a I.length c (getE I) W (by omega) (evs_win h (Nat.le_refl _))
    rwa [pre_getE] at this)
  have hlm : (I.map openE).length = I.length := by simp
  generalize I.map openE = L at *
  obtain ⟨N, hN⟩ : ∃ N, I.length = N := ⟨_, rfl⟩
  rw [hN] at HDOC HOP hlm hlen
  have hN322 : N ≤ 322 := by omega
  have hN1 : 1 ≤ N := hlen.2
  have hdone := check_zero hone.1
  have HG := Lib.hid hgood
  have HDN := Lib.hid hdone
  have HLN := Lib.hid hlm
  obtain ⟨x, Lr, hLx⟩ : ∃ x Lr, L = x :: Lr := by
    cases L with
    | nil => simp at hlm; omega
    | cons x Lr => exact ⟨x, Lr, rfl⟩
  have HX0 : Hid (getE L 0 = x) := Lib.hid (by rw [hLx]; rfl)
  have HT : Hid (x.k ≠ 2 → ∀ kk, kk < (writeAll [] [] [] L).length → CutT (writeAll [] [] [] L) kk b) := Lib.hid (fun hk kk hkk => by
    have h2 : ∀ e, L.head? = some e → e.k ≠ 2 := by
      intro e he
      rw [hLx] at he
      simp only [List.head?_cons, Option.some.injEq] at he
      subst he
      exact hk
    exact ⟨cut_all 8 L hone.1 (fun e he => (hgood e he).1) hone.2 h2 kk hkk, more_end L b hone.1 (fun e he => (hgood e he).1) hone.2 h2⟩)
  have HB0 : Hid (0 < (writeAll [] [] [] L).length) := Lib.hid (by
    have h := back_all 8 [] [] (by simp) (by simp) L hone.1 (fun e he => (hgood e he).1) hone.2
    by_cases h0 : writeAll [] [] [] L = []
    · rw [h0] at h
      have h1 : (allJ 8 []).2 = 3 := rfl
      rw [h] at h1
      cases h1
    · exact List.length_pos_iff.2 h0)
  have HJ : Hid (∀ bs : List UInt8, bs.length ≤ 100000000 → ∀ W, Calls Try.prog 10 #[.string ⟨bs.toArray⟩, .int .i64 (8 : Nat)] W fun r w' => ∃ u, r = .returned (.tuple #[u, .int .i64 (allJ 8 bs).2]) ∧ Made W w' u (allJ 8 bs).1.length (allJ 8 bs).1) := Lib.hid (fun bs hz W => jall_any bs 8 (by omega) hz W)
  clear hgood hone hlen hdone hlm hL hn hN hLx
  go_enter Try.func6, Try.ntmps6
  go_wp2_with fail
  refine HAL.out.mono ?_
  rintro e w1 ⟨rfl, b1⟩
  have B1 := Lib.hid b1
  have HL1 := Lib.hid (show DLAt w1 w1.heap.size A n Li from fun h0 => by
    obtain ⟨b, off, h1, h2, h3⟩ := HLI.out.below b1 h0
    exact ⟨b, off, h1, Nat.lt_of_lt_of_le h2 b1.size, h3⟩)
  clear b1
  go_wp2_with fail
  refine (HDOC.out _ HL1.out).mono ?_
  rintro r w2 ⟨v2, rfl, hM2⟩
  obtain ⟨a2, c2, rfl, _, _⟩ := hM2.2.1.slice_form
  have B2 := Lib.hid (up_trans B1.out hM2.1)
  have HO2 := Lib.hid (HOP.out _ _ _ hM2.2.1)
  clear hM2
  go_wp2_with fail
  refine HO2.out.mono ?_
  rintro r w3 ⟨v3, rfl, hM3⟩
  obtain ⟨a3, c3, rfl, _, _⟩ := hM3.2.1.slice_form
  have B3 := Lib.hid (up_trans B2.out hM3.1)
  have hE3 := evs_win hM3.2.1 (n := N) (by rw [HLN.out]; exact Nat.le_refl _)
  clear hM3
  obtain ⟨g0, o0, rfl, hg0, y0, _⟩ := hE3.cells (i := 0) (by omega)
  rw [HX0.out] at y0
  simp only [Nat.zero_mul, Nat.add_zero] at y0
  have HE3 := Lib.hid hE3
  clear hE3
  by_cases hx2 : x.k = 2
  · rw [hx2] at y0
    clear hx2
    go_wp2
    go_ret
    exact ⟨rfl, B3.out⟩
  have hxk : (x.k == 2) = false := by simpa using hx2
  have HXK := Lib.hid hx2
  clear hx2
  generalize x.k = xk at *
  have H0 : Hid (CutI w3 (w3.alloc (.cells #[.int .i64 1, .slice none 0 0, .bool false] 35)) L 0 ⟨#[]⟩) := Lib.hid ⟨wr_new w3, rfl, up_alloc (Below.refl _ _) _, by show (0 : Nat) ≤ 0; omega⟩
  go_wp2
  go_loopw [9, 10, 11, 12, 39] (fun s _ _ _ i wr => ∃ (j : Nat) (S : ByteArray), s = .string S ∧ i = .int .i64 j ∧ j ≤ N ∧ Hid (CutI w3 wr L j S)) (fun _ _ _ _ i _ => N - (RowKit.intOf i).toNat)
  case atStart => exact ⟨0, ⟨#[]⟩, rfl, rfl, by omega, H0⟩
  case round =>
    obtain ⟨j, S, rfl, rfl, hj, HI⟩ := hrel
    clear H0 y0 hxk
    by_cases hlt : j < N
    · have hjL : j < L.length := by rw [HLN.out]; exact hlt
      obtain ⟨s, hs, hst⟩ := live_at HDN.out hjL
      obtain ⟨g1, g2, g3⟩ := HG.out _ (List.getElem_mem hjL)
      have hwz := writeW_short s L[j] g1 g3
      have hwr : WrAt j w3.heap.size wr w3.heap.size s false := by have := HI.out.wrc; rw [hs] at this; exact this
      have HS := Lib.hid (wr_step hwr (by omega) L[j] g1 hst)
      have HN := Lib.hid (fun w4 (X : ByteArray) (hX : X = ⟨(writeW s L[j]).toArray⟩) hW hB => cut_next (w4 := w4) HI.out hjL hs hX hwz hW hB)
      obtain ⟨g, off, hgo, hgb, x0, x1, x2, x3, x4⟩ := (HE3.out.below HI.out.below).cells hlt
      simp only [Option.some.injEq, Addr.mk.injEq, and_true] at hgo
      obtain ⟨rfl, rfl⟩ := hgo
      have hge : getE L j = L[j] := by simp [getE, hjL]
      rw [hge] at x0 x1 x2 x3 x4
      have hsz := HI.out.sz
      have hxz : (⟨(writeW s L[j]).toArray⟩ : ByteArray).size ≤ 400 := by rw [size_of]; exact hwz
      generalize L[j] = e at *
      obtain ⟨ek, y, m, t, c⟩ := e
      simp only [evV] at x0 x1 x2 x3 x4 HS
      obtain ⟨X, hX⟩ : ∃ X : ByteArray, (⟨(writeW s ⟨ek, y, m, t, c⟩).toArray⟩ : ByteArray) = X := ⟨_, rfl⟩
      rw [hX] at HS hxz
      have HX := Lib.hid hX
      have s1 : ¬ 9223372036854775807 < S.size + X.size := by omega
      clear hs hst g1 g2 g3 hwz hwr hge hsz hX hjL hgb
      go_wp2_with fail
      refine HS.out.mono ?_
      rintro r w4 ⟨rfl, hW, hB⟩
      have HN4 := Lib.hid (HN.out w4 X HX.out.symm hW hB)
      clear hW hB
      go_wp2
      go_roundw
      case rel => exact ⟨j + 1, _, rfl, rfl, hlt, HN4⟩
      case measure => simp [RowKit.intOf]; omega
    · obtain rfl : j = N := by omega
      have hI := HI.out
      have hS := hI.st
      have hsz := hI.sz
      have hwl : L.take j = L := List.take_of_length_le (by rw [HLN.out]; exact Nat.le_refl _)
      rw [hwl] at hS
      have hB0 := HB0.out
      have hT := HT.out HXK.out
      generalize writeAll [] [] [] L = B at *
      have hSB : S.size = B.length := by rw [hS]; exact size_of _
      obtain ⟨kk, hkk, hk⟩ := rem_place k S.size (by omega) (by omega)
      have hk' : (wrap64 (k.tmod (S.size : Int) + (S.size : Int))).tmod (S.size : Int) = (kk : Int) := hk
      have hC0 := hT kk (by omega)
      have hz0 : ((S.size : Int) == 0) = false := by rw [beq_eq_false_iff_ne]; omega
      have hsl := fun W : World => slice_str_hi S kk (Nat.le_of_lt hkk) W
      obtain ⟨C, hC⟩ : ∃ C : ByteArray, S.extract 0 kk = C := ⟨_, rfl⟩
      have hCl : C.data.toList = B.take kk := by subst hS; rw [← hC, ext_list]; rfl
      have hCB : (⟨(B.take kk).toArray⟩ : ByteArray) = C := by rw [← hCl]
      simp only [hC] at hsl
      have hCz : C.size ≤ 200000 := by rw [← size_list, hCl, List.length_take]; omega
      have hJ1 := HJ.out (B.take kk) (by rw [List.length_take]; omega)
      rw [hCB] at hJ1
      have hJ2 := HJ.out (B ++ [b]) (by rw [List.length_append]; simp only [List.length_cons, List.length_nil]; omega)
      have hSb : S ++ ⟨#[b]⟩ = ⟨(B ++ [b]).toArray⟩ := by rw [hS]; exact cat_of B [b]
      obtain ⟨Y, hY⟩ : ∃ Y : ByteArray, (⟨(B ++ [b]).toArray⟩ : ByteArray) = Y := ⟨_, rfl⟩
      rw [hY] at hJ2 hSb
      obtain ⟨Xb, hXb⟩ : ∃ Xb : ByteArray, (⟨#[b]⟩ : ByteArray) = Xb := ⟨_, rfl⟩
      have hcv : ∀ W : World, (convert 44 9 (.slice (some ⟨W.heap.size, 0, none⟩) 1 1)).run Try.prog (W.alloc (.cells #[.int .u8 b.toNat] 5)) = .ok (.string Xb) (W.alloc (.cells #[.int .u8 b.toNat] 5)) := fun W => conv_new W [b] #[.int .u8 b.toNat] 1 rfl rfl Xb hXb.symm
      have hXs : Xb.size = 1 := by rw [← hXb]; rfl
      have hs1 : ¬ 9223372036854775807 < S.size + Xb.size := by omega
      have hs2 : ¬ 9223372036854775807 < S.size + 1 := by omega
      rw [hXb] at hSb
      have HBr := Lib.hid (up_trans B3.out hI.below)
      obtain ⟨h1, h2, h3⟩ := hC0
      have hlast : ∀ q, (B.take kk).getLast? = some 45 → C.size = q + 1 → ∀ h : q < C.size, C[q]'h = 45 := by
        intro q hl hq h
        rw [← hCl, List.getLast?_eq_getElem?] at hl
        have hlen : C.data.toList.length = q + 1 := by rw [size_list]; exact hq
        rw [hlen, Nat.add_sub_cancel, List.getElem?_eq_getElem (by omega)] at hl
        simp only [Option.some.injEq] at hl
        rw [Array.getElem_toList] at hl
        exact hl
      have hcs : (B.take kk).getLast? = some 45 → ∃ q, C.size = q + 1 := by
        intro hl
        have : C.size ≠ 0 := by
          intro h0
          have : (B.take kk).length = 0 := by rw [← hCl, size_list, h0]
          rw [List.length_eq_zero_iff] at this
          rw [this] at hl
          cases hl
        exact ⟨C.size - 1, by omega⟩
      generalize allJ 8 (B.take kk) = R1 at *
      generalize allJ 8 (B ++ [b]) = R2 at *
      obtain ⟨L1, E1⟩ := R1
      obtain ⟨L2, E2⟩ := R2
      simp only at hJ1 hJ2 h1 h2 h3
      have K1 := Lib.hid hJ1
      have K2 := Lib.hid hJ2
      have hyb := b.toNat_lt
      simp only [isBlank, Bool.or_eq_true, beq_iff_eq] at h2
      have hkS : kk < S.size := hkk
      have H1 := Lib.hid h1
      have HLS := Lib.hid (And.intro hlast hcs)
      have H2 := Lib.hid (And.intro h2 h3)
      clear hI hS hsz hwl hB0 hT hSB hkk hk hC hCl hCB hJ1 hJ2 hY hXb hXs h1 h2 h3 hlast hcs
      rcases H1.out with rfl | ⟨rfl, hl⟩
      · rcases H2.out.2 with rfl | rfl | rfl
        · have hbl := H2.out.1.1 rfl
          have hbb : b.toNat = 32 ∨ b.toNat = 10 ∨ b.toNat = 13 ∨ b.toNat = 9 := by omega
          clear hbl
          rcases hbb with hbb | hbb | hbb | hbb
          · have q1 : ((b.toNat : Int) == 32) = true := by simp; omega
            clear hbb
            generalize (b.toNat : Int) = y at *
            go_wp2_with fail
            refine (K1.out _).mono ?_
            rintro r w5 ⟨u5, rfl, hM5⟩
            obtain ⟨a5, c5, rfl, _, _⟩ := hM5.2.1.slice_form
            have B5 := Lib.hid (up_trans HBr.out hM5.1)
            clear hM5
            go_wp2_with fail
            refine (K2.out _).mono ?_
            rintro r w6 ⟨u6, rfl, hM6⟩
            obtain ⟨a6, c6, rfl, _, _⟩ := hM6.2.1.slice_form
            have B6 := Lib.hid (up_trans (up_alloc B5.out _) hM6.1)
            clear hM6
            go_wp2
            go_ret
            exact ⟨rfl, B6.out⟩
          · have q1 : ((b.toNat : Int) == 32) = false := by simp; omega
            have q2 : ((b.toNat : Int) == 10) = true := by simp; omega
            clear hbb
            generalize (b.toNat : Int) = y at *
            go_wp2_with fail
            refine (K1.out _).mono ?_
            rintro r w5 ⟨u5, rfl, hM5⟩
            obtain ⟨a5, c5, rfl, _, _⟩ := hM5.2.1.slice_form
            have B5 := Lib.hid (up_trans HBr.out hM5.1)
            clear hM5
            go_wp2_with fail
            refine (K2.out _).mono ?_
            rintro r w6 ⟨u6, rfl, hM6⟩
            obtain ⟨a6, c6, rfl, _, _⟩ := hM6.2.1.slice_form
            have B6 := Lib.hid (up_trans (up_alloc B5.out _) hM6.1)
            clear hM6
            go_wp2
            go_ret
            exact ⟨rfl, B6.out⟩
          · have q1 : ((b.toNat : Int) == 32) = false := by simp; omega
            have q2 : ((b.toNat : Int) == 10) = false := by simp; omega
            have q3 : ((b.toNat : Int) == 13) = true := by simp; omega
            clear hbb
            generalize (b.toNat : Int) = y at *
            go_wp2_with fail
            refine (K1.out _).mono ?_
            rintro r w5 ⟨u5, rfl, hM5⟩
            obtain ⟨a5, c5, rfl, _, _⟩ := hM5.2.1.slice_form
            have B5 := Lib.hid (up_trans HBr.out hM5.1)
            clear hM5
            go_wp2_with fail
            refine (K2.out _).mono ?_
            rintro r w6 ⟨u6, rfl, hM6⟩
            obtain ⟨a6, c6, rfl, _, _⟩ := hM6.2.1.slice_form
            have B6 := Lib.hid (up_trans (up_alloc B5.out _) hM6.1)
            clear hM6
            go_wp2
            go_ret
            exact ⟨rfl, B6.out⟩
          · have q1 : ((b.toNat : Int) == 32) = false := by simp; omega
            have q2 : ((b.toNat : Int) == 10) = false := by simp; omega
            have q3 : ((b.toNat : Int) == 13) = false := by simp; omega
            have q4 : ((b.toNat : Int) == 9) = true := by simp; omega
            clear hbb
            generalize (b.toNat : Int) = y at *
            go_wp2_with fail
            refine (K1.out _).mono ?_
            rintro r w5 ⟨u5, rfl, hM5⟩
            obtain ⟨a5, c5, rfl, _, _⟩ := hM5.2.1.slice_form
            have B5 := Lib.hid (up_trans HBr.out hM5.1)
            clear hM5
            go_wp2_with fail
            refine (K2.out _).mono ?_
            rintro r w6 ⟨u6, rfl, hM6⟩
            obtain ⟨a6, c6, rfl, _, _⟩ := hM6.2.1.slice_form
            have B6 := Lib.hid (up_trans (up_alloc B5.out _) hM6.1)
            clear hM6
            go_wp2
            go_ret
            exact ⟨rfl, B6.out⟩
        · have hnb : ¬ (((b.toNat = 32 ∨ b.toNat = 9) ∨ b.toNat = 10) ∨ b.toNat = 13) := fun h => absurd (H2.out.1.2 h) (by decide)
          have q1 : ((b.toNat : Int) == 32) = false := by simp; omega
          have q2 : ((b.toNat : Int) == 10) = false := by simp; omega
          have q3 : ((b.toNat : Int) == 13) = false := by simp; omega
          have q4 : ((b.toNat : Int) == 9) = false := by simp; omega
          clear hnb
          generalize (b.toNat : Int) = y at *
          go_wp2_with fail
          refine (K1.out _).mono ?_
          rintro r w5 ⟨u5, rfl, hM5⟩
          obtain ⟨a5, c5, rfl, _, _⟩ := hM5.2.1.slice_form
          have B5 := Lib.hid (up_trans HBr.out hM5.1)
          clear hM5
          go_wp2_with fail
          refine (K2.out _).mono ?_
          rintro r w6 ⟨u6, rfl, hM6⟩
          obtain ⟨a6, c6, rfl, _, _⟩ := hM6.2.1.slice_form
          have B6 := Lib.hid (up_trans (up_alloc B5.out _) hM6.1)
          clear hM6
          go_wp2
          go_ret
          exact ⟨rfl, B6.out⟩
        · have hnb : ¬ (((b.toNat = 32 ∨ b.toNat = 9) ∨ b.toNat = 10) ∨ b.toNat = 13) := fun h => absurd (H2.out.1.2 h) (by decide)
          have q1 : ((b.toNat : Int) == 32) = false := by simp; omega
          have q2 : ((b.toNat : Int) == 10) = false := by simp; omega
          have q3 : ((b.toNat : Int) == 13) = false := by simp; omega
          have q4 : ((b.toNat : Int) == 9) = false := by simp; omega
          clear hnb
          generalize (b.toNat : Int) = y at *
          go_wp2_with fail
          refine (K1.out _).mono ?_
          rintro r w5 ⟨u5, rfl, hM5⟩
          obtain ⟨a5, c5, rfl, _, _⟩ := hM5.2.1.slice_form
          have B5 := Lib.hid (up_trans HBr.out hM5.1)
          clear hM5
          go_wp2_with fail
          refine (K2.out _).mono ?_
          rintro r w6 ⟨u6, rfl, hM6⟩
          obtain ⟨a6, c6, rfl, _, _⟩ := hM6.2.1.slice_form
          have B6 := Lib.hid (up_trans (up_alloc B5.out _) hM6.1)
          clear hM6
          go_wp2
          go_ret
          exact ⟨rfl, B6.out⟩
      · obtain ⟨q, hq⟩ := HLS.out.2 hl
        have hql : q < C.size := by omega
        have hq9 : q ≤ 200000 := by omega
        have hc45 := HLS.out.1 q hl hq hql
        have hqs : (C.size : Int) - 1 = (q : Int) := by omega
        have hne : C.toList.isEmpty = false := by
          have : C.toList.length = q + 1 := by rw [ByteArray.toList_eq]; rw [size_list]; exact hq
          cases hcl : C.toList with
          | nil => rw [hcl] at this; cases this
          | cons _ _ => rfl
        clear hl hq
        rcases H2.out.2 with rfl | rfl | rfl
        · have hbl := H2.out.1.1 rfl
          have hbb : b.toNat = 32 ∨ b.toNat = 10 ∨ b.toNat = 13 ∨ b.toNat = 9 := by omega
          clear hbl
          rcases hbb with hbb | hbb | hbb | hbb
          · have q1 : ((b.toNat : Int) == 32) = true := by simp; omega
            clear hbb
            generalize (b.toNat : Int) = y at *
            go_wp2_with fail
            refine (K1.out _).mono ?_
            rintro r w5 ⟨u5, rfl, hM5⟩
            obtain ⟨a5, c5, rfl, _, _⟩ := hM5.2.1.slice_form
            have B5 := Lib.hid (up_trans HBr.out hM5.1)
            clear hM5
            go_wp2_with fail
            refine (K2.out _).mono ?_
            rintro r w6 ⟨u6, rfl, hM6⟩
            obtain ⟨a6, c6, rfl, _, _⟩ := hM6.2.1.slice_form
            have B6 := Lib.hid (up_trans (up_alloc B5.out _) hM6.1)
            clear hM6
            go_wp2
            go_ret
            exact ⟨rfl, B6.out⟩
          · have q1 : ((b.toNat : Int) == 32) = false := by simp; omega
            have q2 : ((b.toNat : Int) == 10) = true := by simp; omega
            clear hbb
            generalize (b.toNat : Int) = y at *
            go_wp2_with fail
            refine (K1.out _).mono ?_
            rintro r w5 ⟨u5, rfl, hM5⟩
            obtain ⟨a5, c5, rfl, _, _⟩ := hM5.2.1.slice_form
            have B5 := Lib.hid (up_trans HBr.out hM5.1)
            clear hM5
            go_wp2_with fail
            refine (K2.out _).mono ?_
            rintro r w6 ⟨u6, rfl, hM6⟩
            obtain ⟨a6, c6, rfl, _, _⟩ := hM6.2.1.slice_form
            have B6 := Lib.hid (up_trans (up_alloc B5.out _) hM6.1)
            clear hM6
            go_wp2
            go_ret
            exact ⟨rfl, B6.out⟩
          · have q1 : ((b.toNat : Int) == 32) = false := by simp; omega
            have q2 : ((b.toNat : Int) == 10) = false := by simp; omega
            have q3 : ((b.toNat : Int) == 13) = true := by simp; omega
            clear hbb
            generalize (b.toNat : Int) = y at *
            go_wp2_with fail
            refine (K1.out _).mono ?_
            rintro r w5 ⟨u5, rfl, hM5⟩
            obtain ⟨a5, c5, rfl, _, _⟩ := hM5.2.1.slice_form
            have B5 := Lib.hid (up_trans HBr.out hM5.1)
            clear hM5
            go_wp2_with fail
            refine (K2.out _).mono ?_
            rintro r w6 ⟨u6, rfl, hM6⟩
            obtain ⟨a6, c6, rfl, _, _⟩ := hM6.2.1.slice_form
            have B6 := Lib.hid (up_trans (up_alloc B5.out _) hM6.1)
            clear hM6
            go_wp2
            go_ret
            exact ⟨rfl, B6.out⟩
          · have q1 : ((b.toNat : Int) == 32) = false := by simp; omega
            have q2 : ((b.toNat : Int) == 10) = false := by simp; omega
            have q3 : ((b.toNat : Int) == 13) = false := by simp; omega
            have q4 : ((b.toNat : Int) == 9) = true := by simp; omega
            clear hbb
            generalize (b.toNat : Int) = y at *
            go_wp2_with fail
            refine (K1.out _).mono ?_
            rintro r w5 ⟨u5, rfl, hM5⟩
            obtain ⟨a5, c5, rfl, _, _⟩ := hM5.2.1.slice_form
            have B5 := Lib.hid (up_trans HBr.out hM5.1)
            clear hM5
            go_wp2_with fail
            refine (K2.out _).mono ?_
            rintro r w6 ⟨u6, rfl, hM6⟩
            obtain ⟨a6, c6, rfl, _, _⟩ := hM6.2.1.slice_form
            have B6 := Lib.hid (up_trans (up_alloc B5.out _) hM6.1)
            clear hM6
            go_wp2
            go_ret
            exact ⟨rfl, B6.out⟩
        · have hnb : ¬ (((b.toNat = 32 ∨ b.toNat = 9) ∨ b.toNat = 10) ∨ b.toNat = 13) := fun h => absurd (H2.out.1.2 h) (by decide)
          have q1 : ((b.toNat : Int) == 32) = false := by simp; omega
          have q2 : ((b.toNat : Int) == 10) = false := by simp; omega
          have q3 : ((b.toNat : Int) == 13) = false := by simp; omega
          have q4 : ((b.toNat : Int) == 9) = false := by simp; omega
          clear hnb
          generalize (b.toNat : Int) = y at *
          go_wp2_with fail
          refine (K1.out _).mono ?_
          rintro r w5 ⟨u5, rfl, hM5⟩
          obtain ⟨a5, c5, rfl, _, _⟩ := hM5.2.1.slice_form
          have B5 := Lib.hid (up_trans HBr.out hM5.1)
          clear hM5
          go_wp2_with fail
          refine (K2.out _).mono ?_
          rintro r w6 ⟨u6, rfl, hM6⟩
          obtain ⟨a6, c6, rfl, _, _⟩ := hM6.2.1.slice_form
          have B6 := Lib.hid (up_trans (up_alloc B5.out _) hM6.1)
          clear hM6
          go_wp2
          go_ret
          exact ⟨rfl, B6.out⟩
        · have hnb : ¬ (((b.toNat = 32 ∨ b.toNat = 9) ∨ b.toNat = 10) ∨ b.toNat = 13) := fun h => absurd (H2.out.1.2 h) (by decide)
          have q1 : ((b.toNat : Int) == 32) = false := by simp; omega
          have q2 : ((b.toNat : Int) == 10) = false := by simp; omega
          have q3 : ((b.toNat : Int) == 13) = false := by simp; omega
          have q4 : ((b.toNat : Int) == 9) = false := by simp; omega
          clear hnb
          generalize (b.toNat : Int) = y at *
          go_wp2_with fail
          refine (K1.out _).mono ?_
          rintro r w5 ⟨u5, rfl, hM5⟩
          obtain ⟨a5, c5, rfl, _, _⟩ := hM5.2.1.slice_form
          have B5 := Lib.hid (up_trans HBr.out hM5.1)
          clear hM5
          go_wp2_with fail
          refine (K2.out _).mono ?_
          rintro r w6 ⟨u6, rfl, hM6⟩
          obtain ⟨a6, c6, rfl, _, _⟩ := hM6.2.1.slice_form
          have B6 := Lib.hid (up_trans (up_alloc B5.out _) hM6.1)
          clear hM6
          go_wp2
          go_ret
          exact ⟨rfl, B6.out⟩
theorem cuts_row (A : Option Addr) (n cp : Nat) (Li : Nat → Int) (k y : Int) (w : World) (hL : DLAt w w.heap.size A n Li) (hy : 0 ≤ y ∧ y ≤ 255) :
    Calls Try.prog 6 #[.slice A n cp, .int .i64 k, .int .u8 y] w fun r w' => r = .returned (.bool true) ∧ Below w.heap.size w w' := by
  by_cases h : 40 < n
  · exact cuts_out A n cp k y w (by simp; omega)
  · obtain ⟨m, rfl⟩ : ∃ m : Nat, y = m := ⟨y.toNat, by omega⟩
    have hm : ((UInt8.ofNat m).toNat) = m := by simp; omega
    have := cuts_in A n cp Li k (UInt8.ofNat m) w hL (by omega)
    rwa [hm] at this
end Go.Proofs.Ytacngbngljfedaa
