/-
  LAWS of chapter 11: JsoninBack.
-/
import Derived.Test.YtacngbngljfedaaJinLawsA
import Derived.Test.YtacngbngljfedaaGi
import Derived.Test.YtacngbngljfedaaGh
import Derived.Test.YtacngbngljfedaaRefStep
namespace Go.Proofs.Ytacngbngljfedaa
open Go.RowKit
open Go.Lib
theorem writeW_len (s : List Bx) (e : Ev) (g : GoodW e) (ht : e.t.size ≤ 28) : (writeW s e).length ≤ 100001 := by
  have h1 : (sepW s).length ≤ 1 := by
    unfold sepW
    repeat' split
    all_goals simp
  unfold writeW
  split
  · split
    · simp
    · split <;> simp
  · rw [List.length_append]
    by_cases hk : e.k = 0 ∨ e.k = 1 ∨ e.k = 2 ∨ e.k = 3
    · have := outW_length e hk g.mag (by omega)
      omega
    · have h2 : (outW e).length ≤ 1 := by
        unfold outW
        rw [if_neg (by omega), if_neg (by omega), if_neg (by omega), if_neg (by omega)]
        split <;> simp
      omega
theorem wr_new (w : World) : WrAt 0 w.heap.size (w.alloc (.cells #[.int .i64 1, .slice none 0 0, .bool false] 35)) w.heap.size [] false :=
  ⟨⟨none, 0, at_block (heap_alloc_new w _), ⟨Win.nil_ _ _ _, fun k hk => by simp [Value.owner] at hk, fun b hb => by simp at hb, by simp, by omega⟩⟩, ⟨_, heap_alloc_new w _⟩, Nat.le_refl _⟩
/-- In the midst of writing. -/
structure BackI (w3 wr : World) (L : List Ev) (j : Nat) (S T : ByteArray) : Prop where
  wrc : WrC j w3.heap.size wr w3.heap.size (runC (.live []) (L.take j))
  st : S = ⟨(writeAll [] [] [] (L.take j)).toArray⟩
  tt : T = ⟨(32 :: writeAll [10] [9] [] (L.take j)).toArray⟩
  below : Below w3.heap.size w3 wr
  sz : S.size ≤ 100001 * j ∧ T.size ≤ 1 + 100003 * j
theorem back_next {w3 wr w4 : World} {L : List Ev} {j : Nat} {S T X : ByteArray} {s : List Bx} (h : BackI w3 wr L j S T) (hj : j < L.length) (hs : runC (.live []) (L.take j) = .live s) (hX : X = ⟨(writeW s L[j]).toArray⟩) (hz : (writeW s L[j]).length ≤ 100001)
    (hW : WrC (j + 1) w3.heap.size w4 w3.heap.size (stepC (.live s) L[j])) (hB : Below w3.heap.size wr w4) : BackI w3 w4 L (j + 1) (S ++ X) (T ++ (⟨#[10]⟩ ++ X ++ ⟨#[9]⟩)) := by
  have hxs : X.size = (writeW s L[j]).length := by rw [hX]; exact size_of _
  have h1 := write_take [] [] hj hs
  have h2 := write_take [10] [9] hj hs
  refine ⟨by rw [runC_take hj, hs]; exact hW, ?_, ?_, h.below.trans hB, ?_, ?_⟩
  · rw [h1, h.st, hX, cat_of]
    simp
  · rw [h2, h.tt, hX]
    have e1 : (⟨#[10]⟩ : ByteArray) = ⟨([10] : List UInt8).toArray⟩ := rfl
    have e2 : (⟨#[9]⟩ : ByteArray) = ⟨([9] : List UInt8).toArray⟩ := rfl
    rw [e1, e2, cat_of, cat_of, cat_of]
    simp
  · have := h.sz.1
    rw [ByteArray.size_append, hxs]
    omega
  · have := h.sz.2
    rw [ByteArray.size_append, ByteArray.size_append, ByteArray.size_append, hxs]
    show T.size + (1 + (writeW s L[j]).length + 1) ≤ _
    omega
theorem cap16 (D : Nat) (hD : D ≤ 16) : capD D ≤ 900000000 := by
  have hc : D = 0 ∨ D = 1 ∨ D = 2 ∨ D = 3 ∨ D = 4 ∨ D = 5 ∨ D = 6 ∨ D = 7 ∨ D = 8 ∨ D = 9 ∨ D = 10 ∨ D = 11 ∨ D = 12 ∨ D = 13 ∨ D = 14 ∨ D = 15 ∨ D = 16 := by omega
  rcases hc with rfl | rfl | rfl | rfl | rfl | rfl | rfl | rfl | rfl | rfl | rfl | rfl | rfl | rfl | rfl | rfl | rfl <;> decide +kernel
set_option maxRecDepth 100000 in
set_option maxHeartbeats 8000000 in
theorem back_in (A : Option Addr) (n cp : Nat) (Li : Nat → Int) (D : Nat) (w : World) (hL : DLAt w w.heap.size A n Li) (hn : n ≤ 60) (hD : 1 ≤ D ∧ D ≤ 16) :
    Calls Try.prog 4 #[.slice A n cp, .int .i64 D] w fun r w' => r = .returned (.bool true) ∧ Below w.heap.size w w' := by
  have t1 : ((60 : Int) < (n : Int)) = False := by simp; omega
  have t2 : ((D : Int) < 1) = False := by simp; omega
  have t3 : ((16 : Int) < (D : Int)) = False := by simp; omega
  have HAL := Lib.hid (jalive_any w)
  have hgood := doc_good n Li D 0
  have hone := doc_one true D n Li hD.2
  rw [gE_true] at hone
  have hlen := item_length n Li D
  have HDOC := Lib.hid (fun W (h : DLAt W W.heap.size A n Li) => doc_any A n cp Li D W h (by omega) (by omega) (cap16 D hD.2))
  have HLI := Lib.hid hL
  generalize hI : (itemD n Li D 0).1 = I at *
  clear hI
  have HOP : Hid (∀ W a c, Win W 40 5 (.slice a I.length c) I.length (evsC I) → Calls Try.prog 12 #[.slice a I.length c] W fun r w' => ∃ v, r = .returned v ∧ Made W w' v I.length (I.map openE)) := Lib.hid (fun W a c h => by
    have := dopen_any a I.length c (getE I) W (by omega) (evs_win h (Nat.le_refl _))
    rwa [pre_getE] at this)
  have hlm : (I.map openE).length = I.length := by simp
  generalize I.map openE = L at *
  obtain ⟨N, hN⟩ : ∃ N, I.length = N := ⟨_, rfl⟩
  rw [hN] at HDOC HOP hlm hlen
  have hN482 : N ≤ 482 := by omega
  have hdone := check_zero hone.1
  have HG := Lib.hid hgood
  have HDN := Lib.hid hdone
  have HLN := Lib.hid hlm
  have HA1 : Hid (allJ D (writeAll [] [] [] L) = (L, 0)) := Lib.hid (back_all D [] [] (by simp) (by simp) L hone.1 (fun e he => (hgood e he).1) hone.2)
  have HA2 : Hid (allJ D (32 :: writeAll [10] [9] [] L) = (L, 0)) := Lib.hid (by
    rw [back_blank D 32 rfl]
    exact back_all D [10] [9] (by simp [isBlank]) (by simp [isBlank]) L hone.1 (fun e he => (hgood e he).1) hone.2)
  have HJ : Hid (∀ bs : List UInt8, bs.length ≤ 100000000 → ∀ W, Calls Try.prog 10 #[.string ⟨bs.toArray⟩, .int .i64 D] W fun r w' => ∃ u, r = .returned (.tuple #[u, .int .i64 (allJ D bs).2]) ∧ Made W w' u (allJ D bs).1.length (allJ D bs).1) := Lib.hid (fun bs hz W => jall_any bs D hD hz W)
  clear hgood hone hlen hdone hlm hL hn hD hN
  go_enter Try.func4, Try.ntmps4
  go_wp2_with fail
  refine HAL.out.mono ?_
  rintro e w1 ⟨rfl, b1⟩
  have B1 := Lib.hid b1
  have HL1 := Lib.hid (show DLAt w1 w1.heap.size A n Li from fun h0 => by
    obtain ⟨b, off, h1, h2, h3⟩ := HLI.out.below b1 h0
    exact ⟨b, off, h1, Nat.lt_of_lt_of_le h2 b1.size, h3⟩)
  clear b1
  go_wp2_with fail
  refine (HDOC.out _ HL1.out).mono ?_
  rintro r w2 ⟨v2, rfl, hM2⟩
  obtain ⟨a2, c2, rfl, _, _⟩ := hM2.2.1.slice_form
  have B2 := Lib.hid (up_trans B1.out hM2.1)
  have HO2 := Lib.hid (HOP.out _ _ _ hM2.2.1)
  clear hM2
  go_wp2_with fail
  refine HO2.out.mono ?_
  rintro r w3 ⟨v3, rfl, hM3⟩
  obtain ⟨a3, c3, rfl, _, _⟩ := hM3.2.1.slice_form
  have B3 := Lib.hid (up_trans B2.out hM3.1)
  have HE3 := Lib.hid (evs_win hM3.2.1 (n := N) (by rw [HLN.out]; exact Nat.le_refl _))
  clear hM3
  have H0 : Hid (BackI w3 (w3.alloc (.cells #[.int .i64 1, .slice none 0 0, .bool false] 35)) L 0 ⟨#[]⟩ ⟨#[32]⟩) := Lib.hid ⟨wr_new w3, rfl, rfl, up_alloc (Below.refl _ _) _, by show (0 : Nat) ≤ 0; omega, by show (1 : Nat) ≤ 1; omega⟩
  go_wp2
  go_loopw [7, 8, 9, 10, 11, 40] (fun s t _ _ _ i wr => ∃ (j : Nat) (S T : ByteArray), s = .string S ∧ t = .string T ∧ i = .int .i64 j ∧ j ≤ N ∧ Hid (BackI w3 wr L j S T)) (fun _ _ _ _ _ i _ => N - (RowKit.intOf i).toNat)
  case atStart => exact ⟨0, ⟨#[]⟩, ⟨#[32]⟩, rfl, rfl, rfl, by omega, H0⟩
  case round =>
    obtain ⟨j, S, T, rfl, rfl, rfl, hj, HI⟩ := hrel
    clear H0
    by_cases hlt : j < N
    · have hjL : j < L.length := by rw [HLN.out]; exact hlt
      obtain ⟨s, hs, hst⟩ := live_at HDN.out hjL
      obtain ⟨g1, g2, g3⟩ := HG.out _ (List.getElem_mem hjL)
      have hwz := writeW_len s L[j] g1 g3
      have hwr : WrAt j w3.heap.size wr w3.heap.size s false := by have := HI.out.wrc; rw [hs] at this; exact this
      have HS := Lib.hid (wr_step hwr (by omega) L[j] g1 hst)
      have HN := Lib.hid (fun w4 (X : ByteArray) (hX : X = ⟨(writeW s L[j]).toArray⟩) hW hB => back_next (w4 := w4) HI.out hjL hs hX hwz hW hB)
      obtain ⟨g, off, rfl, hgb, x0, x1, x2, x3, x4⟩ := (HE3.out.below HI.out.below).cells hlt
      have hge : getE L j = L[j] := by simp [getE, hjL]
      rw [hge] at x0 x1 x2 x3 x4
      have hsz := HI.out.sz
      have hxz : (⟨(writeW s L[j]).toArray⟩ : ByteArray).size ≤ 100001 := by rw [size_of]; exact hwz
      generalize L[j] = e at *
      obtain ⟨k, y, m, t, c⟩ := e
      simp only [evV] at x0 x1 x2 x3 x4 HS
      obtain ⟨X, hX⟩ : ∃ X : ByteArray, (⟨(writeW s ⟨k, y, m, t, c⟩).toArray⟩ : ByteArray) = X := ⟨_, rfl⟩
      rw [hX] at HS hxz
      have HX := Lib.hid hX
      have s1 : ¬ 9223372036854775807 < S.size + X.size := by omega
      have s2 : ¬ 9223372036854775807 < 1 + X.size := by omega
      have s3 : ¬ 9223372036854775807 < 1 + X.size + 1 := by omega
      have s4 : ¬ 9223372036854775807 < T.size + (1 + X.size + 1) := by omega
      have hgb2 : g < wr.heap.size := Nat.lt_of_lt_of_le hgb HI.out.below.size
      clear hs hst g1 g2 g3 hwz hwr hge hsz hX hjL hgb
      go_wp2_with fail
      refine HS.out.mono ?_
      rintro r w4 ⟨rfl, hW, hB⟩
      have HN4 := Lib.hid (HN.out w4 X HX.out.symm hW hB)
      clear hW hB
      go_wp2
      go_roundw
      case rel => exact ⟨j + 1, _, _, rfl, rfl, rfl, hlt, HN4⟩
      case measure => simp [RowKit.intOf]; omega
    · obtain rfl : j = N := by omega
      have hI := HI.out
      have hS := hI.st
      have hT := hI.tt
      have hsz := hI.sz
      have hwl : L.take j = L := List.take_of_length_le (by rw [HLN.out]; exact Nat.le_refl _)
      rw [hwl] at hS hT
      have HJ1 := HJ.out (writeAll [] [] [] L) (by have : S.size = (writeAll [] [] [] L).length := by rw [hS]; exact size_of _
                                                   omega)
      have HJ2 := HJ.out (32 :: writeAll [10] [9] [] L) (by have : T.size = (32 :: writeAll [10] [9] [] L).length := by rw [hT]; exact size_of _
                                                            omega)
      rw [← hS, HA1.out] at HJ1
      rw [← hT, HA2.out] at HJ2
      simp only at HJ1 HJ2
      rw [HLN.out] at HJ1 HJ2
      have K1 := Lib.hid HJ1
      have K2 := Lib.hid HJ2
      have HEr := Lib.hid (HE3.out.grow hI.below)
      have HBr := Lib.hid (up_trans B3.out hI.below)
      have hj9 : j ≤ 900 := by omega
      clear hI hS hT hsz hwl HJ1 HJ2
      go_wp2_with fail
      refine (K1.out _).mono ?_
      rintro r w5 ⟨u5, rfl, hM5⟩
      obtain ⟨a5, c5, rfl, _, _⟩ := hM5.2.1.slice_form
      have E5 := Lib.hid (And.intro (evs_win hM5.2.1 (n := j) (by rw [HLN.out]; exact Nat.le_refl _)) (HEr.out.grow hM5.1))
      have B5 := Lib.hid (up_trans HBr.out hM5.1)
      clear hM5
      go_wp2_with fail
      refine (K2.out _).mono ?_
      rintro r w6 ⟨u6, rfl, hM6⟩
      obtain ⟨a6, c6, rfl, _, _⟩ := hM6.2.1.slice_form
      have E6 := Lib.hid (And.intro (evs_win hM6.2.1 (n := j) (by rw [HLN.out]; exact Nat.le_refl _)) (And.intro (E5.out.1.grow hM6.1) (E5.out.2.grow hM6.1)))
      have B6 := Lib.hid (up_trans B5.out hM6.1)
      clear hM6
      go_wp2_with fail
      refine (same_evs _ _ j _ _ (getE L) w6 hj9 E6.out.2.1 E6.out.2.2).mono ?_
      rintro r w7 ⟨rfl, b7⟩
      have E7 := Lib.hid (And.intro (E6.out.1.grow b7) (E6.out.2.2.grow b7))
      have B7 := Lib.hid (up_trans B6.out b7)
      clear b7
      go_wp2_with fail
      refine (same_evs _ _ j _ _ (getE L) w7 hj9 E7.out.1 E7.out.2).mono ?_
      rintro r w8 ⟨rfl, b8⟩
      have B8 := Lib.hid (up_trans B7.out b8)
      clear b8
      go_wp2
      go_ret
      exact ⟨rfl, B8.out⟩
set_option maxRecDepth 100000 in
set_option maxHeartbeats 2000000 in
theorem back_out1 (A : Option Addr) (n cp : Nat) (d : Int) (w : World) (t1 : ((60 : Int) < (n : Int)) = True) :
    Calls Try.prog 4 #[.slice A n cp, .int .i64 d] w fun r w' => r = .returned (.bool true) ∧ Below w.heap.size w w' := by
  have HA := Lib.hid (jalive_any w)
  go_enter Try.func4, Try.ntmps4
  go_wp2_with fail
  refine HA.out.mono ?_
  rintro r w1 ⟨rfl, b1⟩
  have B1 := Lib.hid b1
  clear b1
  go_wp2
  go_ret
  exact ⟨rfl, B1.out⟩
set_option maxRecDepth 100000 in
set_option maxHeartbeats 2000000 in
theorem back_out2 (A : Option Addr) (n cp : Nat) (d : Int) (w : World) (t1 : ((60 : Int) < (n : Int)) = False) (t2 : (d < 1) = True) :
    Calls Try.prog 4 #[.slice A n cp, .int .i64 d] w fun r w' => r = .returned (.bool true) ∧ Below w.heap.size w w' := by
  have HA := Lib.hid (jalive_any w)
  go_enter Try.func4, Try.ntmps4
  go_wp2_with fail
  refine HA.out.mono ?_
  rintro r w1 ⟨rfl, b1⟩
  have B1 := Lib.hid b1
  clear b1
  go_wp2
  go_ret
  exact ⟨rfl, B1.out⟩
set_option maxRecDepth 100000 in
set_option maxHeartbeats 2000000 in
theorem back_out3 (A : Option Addr) (n cp : Nat) (d : Int) (w : World) (t1 : ((60 : Int) < (n : Int)) = False) (t2 : (d < 1) = False) (t3 : ((16 : Int) < d) = True) :
    Calls Try.prog 4 #[.slice A n cp, .int .i64 d] w fun r w' => r = .returned (.bool true) ∧ Below w.heap.size w w' := by
  have HA := Lib.hid (jalive_any w)
  go_enter Try.func4, Try.ntmps4
  go_wp2_with fail
  refine HA.out.mono ?_
  rintro r w1 ⟨rfl, b1⟩
  have B1 := Lib.hid b1
  clear b1
  go_wp2
  go_ret
  exact ⟨rfl, B1.out⟩
theorem back_row (A : Option Addr) (n cp : Nat) (Li : Nat → Int) (d : Int) (w : World) (hL : DLAt w w.heap.size A n Li) :
    Calls Try.prog 4 #[.slice A n cp, .int .i64 d] w fun r w' => r = .returned (.bool true) ∧ Below w.heap.size w w' := by
  by_cases h1 : 60 < n
  · exact back_out1 A n cp d w (by simp; omega)
  have t1 : ((60 : Int) < (n : Int)) = False := by simp; omega
  by_cases h2 : d < 1
  · exact back_out2 A n cp d w t1 (eq_true h2)
  by_cases h3 : 16 < d
  · exact back_out3 A n cp d w t1 (eq_false h2) (eq_true h3)
  obtain ⟨D, rfl⟩ : ∃ D : Nat, d = D := ⟨d.toNat, by omega⟩
  exact back_in A n cp Li D w hL (by omega) (by omega)
/-- What came in as ints, as the documents want it. -/
theorem dlat_reads {w : World} {A : Option Addr} {n : Nat} {zs : List Int} (hl : zs.length = n) (hR : Reads w w.heap.size 1 A n (zs.map (Value.int .i64))) : DLAt w w.heap.size A n (fun i => zs.getD i 0) := fun h0 => by
  obtain ⟨ad, rfl, hb, hc⟩ := hR.2 h0
  obtain ⟨b, off, spot⟩ := ad
  have h00 := hc 0 (.int .i64 (zs[0]'(by omega))) (by simp [show 0 < zs.length by omega])
  have hspot : spot = none := by simpa [Addr.add] using World.cell?_spot h00
  subst hspot
  refine ⟨b, off, rfl, hb, fun i hi => ?_⟩
  have hi' : i < zs.length := by omega
  have := hc i (.int .i64 zs[i]) (by simp [hi'])
  by_cases hi0 : i = 0
  · subst hi0
    simpa [List.getD, hi', Addr.add] using this
  · simpa [List.getD, hi', Addr.add, hi0] using this
end Go.Proofs.Ytacngbngljfedaa
