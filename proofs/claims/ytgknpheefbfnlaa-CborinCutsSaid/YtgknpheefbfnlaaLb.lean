/-
  LAWS of chapter 13: CborinBack, CborinCuts.
-/
import Derived.Test.YtgknpheefbfnlaaGj
import Derived.Test.YtgknpheefbfnlaaRn
import Derived.Test.YtgknpheefbfnlaaGd
import Derived.Test.YtgknpheefbfnlaaDe
import Derived.Test.YtgknpheefbfnlaaGa
/-
  LAWS of chapter 13, over CinAll and HeadK: CborinBack.
-/
namespace Go.Proofs.Ytgknpheefbfnlaa
open Go.RowKit
open Go.Lib
set_option maxRecDepth 100000 in
set_option maxHeartbeats 8000000 in
theorem cback_open (H : CinAll) (hH : HeadK) (A : Option Addr) (n cp : Nat) (Li : Nat → Int) (D : Nat) (w : World) (hL : DLAt w w.heap.size A n Li) (hn : n ≤ 60) (hD : 1 ≤ D ∧ D ≤ 16) :
    Calls Try.prog 4 #[.slice A n cp, .int .i64 D, .bool true] w fun r w' => r = .returned (.bool true) ∧ Below w.heap.size w w' := by
  have t1 : ((60 : Int) < (n : Int)) = False := by simp; omega
  have t2 : ((D : Int) < 1) = False := by simp; omega
  have t3 : ((16 : Int) < (D : Int)) = False := by simp; omega
  have HAL := Lib.hid (calive_any H w)
  have hgood := docK_good true n Li D 0
  have hone := doc_one true D n Li hD.2
  rw [gE_true] at hone hgood
  have hlen := item_length n Li D
  have HDOC := Lib.hid (fun W (h : DLAt W W.heap.size A n Li) => doc_any A n cp Li D W h (by omega) (by omega) (cap16 D hD.2))
  have HLI := Lib.hid hL
  generalize hI : (itemD n Li D 0).1 = I at *
  clear hI
  have HOP : Hid (∀ W a c, Win W 40 5 (.slice a I.length c) I.length (evsC I) → Calls Try.prog 17 #[.slice a I.length c] W fun r w' => ∃ v, r = .returned v ∧ Made W w' v I.length (I.map openE)) := Lib.hid (fun W a c h => by
    have := dopen_any a I.length c (getE I) W (by omega) (evs_win h (Nat.le_refl _))
    rwa [pre_getE] at this)
  have hlm : (I.map openE).length = I.length := by simp
  generalize I.map openE = L at *
  obtain ⟨N, hN⟩ : ∃ N, I.length = N := ⟨_, rfl⟩
  rw [hN] at HDOC HOP hlm hlen
  have hN482 : N ≤ 482 := by omega
  have hdone := check_zero hone.1
  have HG : Hid (∀ e ∈ L, GoodK e) := Lib.hid (fun e he => (hgood e he).1)
  have HDN := Lib.hid hdone
  have HLN := Lib.hid hlm
  have HA1 : Hid (allCi D (writeAllK [] L) = (L, 0)) := Lib.hid (back_allK D L hone.1 HG.out hone.2)
  have HJ : Hid (∀ bs : List UInt8, bs.length ≤ 100000000 → ∀ W, Calls Try.prog 14 #[.string ⟨bs.toArray⟩, .int .i64 D] W fun r w' => ∃ u, r = .returned (.tuple #[u, .int .i64 (allCi D bs).2]) ∧ Made W w' u (allCi D bs).1.length (allCi D bs).1) := Lib.hid (fun bs hz W => H bs D hD hz W)
  clear hgood hone hlen hdone hlm hL hn hD hN
  go_enter Try.func4, Try.ntmps4
  go_wp2_with fail
  refine HAL.out.mono ?_
  rintro e w1 ⟨rfl, b1⟩
  have B1 := Lib.hid b1
  have HL1 := Lib.hid (show DLAt w1 w1.heap.size A n Li from fun h0 => by
    obtain ⟨b, off, h1, h2, h3⟩ := HLI.out.below b1 h0
    exact ⟨b, off, h1, Nat.lt_of_lt_of_le h2 b1.size, h3⟩)
  clear b1
  go_wp2_with fail
  refine (HDOC.out _ HL1.out).mono ?_
  rintro r w2 ⟨v2, rfl, hM2⟩
  obtain ⟨a2, c2, rfl, _, _⟩ := hM2.2.1.slice_form
  have B2 := Lib.hid (up_trans B1.out hM2.1)
  have HO2 := Lib.hid (HOP.out _ _ _ hM2.2.1)
  clear hM2
  go_wp2_with fail
  refine HO2.out.mono ?_
  rintro r w3 ⟨v3, rfl, hM3⟩
  obtain ⟨a3, c3, rfl, _, _⟩ := hM3.2.1.slice_form
  have B3 := Lib.hid (up_trans B2.out hM3.1)
  have HE3 := Lib.hid (evs_win hM3.2.1 (n := N) (by rw [HLN.out]; exact Nat.le_refl _))
  clear hM3
  have H0 : Hid (KI w3 (w3.alloc (.cells #[.int .i64 2, .slice none 0 0, .bool false] 35)) L 0 ⟨#[]⟩) := Lib.hid (ki_new w3 L)
  go_wp2
  go_loopw [9, 10, 11, 12, 41] (fun s _ _ _ i wr => ∃ (j : Nat) (S : ByteArray), s = .string S ∧ i = .int .i64 j ∧ j ≤ N ∧ Hid (KI w3 wr L j S)) (fun _ _ _ _ i _ => N - (RowKit.intOf i).toNat)
  case atStart => exact ⟨0, ⟨#[]⟩, rfl, rfl, by omega, H0⟩
  case round =>
    obtain ⟨j, S, rfl, rfl, hj, HI⟩ := hrel
    clear H0
    by_cases hlt : j < N
    · have hjL : j < L.length := by rw [HLN.out]; exact hlt
      have HS := Lib.hid (ki_step hH HI.out hjL (by rw [HLN.out]; omega) HDN.out HG.out)
      obtain ⟨g, off, hgo, hgb, x0, x1, x2, x3, x4⟩ := (HE3.out.below HI.out.below).cells hlt
      subst hgo
      have hge : getE L j = L[j] := by simp [getE, hjL]
      rw [hge] at x0 x1 x2 x3 x4
      have hsz := HI.out.sz
      generalize L[j] = e at *
      obtain ⟨k, y, m, t, c⟩ := e
      simp only [evV] at x0 x1 x2 x3 x4 HS
      clear hge hjL hgb
      go_wp2_with fail
      refine HS.out.mono ?_
      rintro r w4 ⟨X, rfl, hxz, hKI⟩
      have HN4 := Lib.hid hKI
      have s1 : ¬ 9223372036854775807 < S.size + X.size := by omega
      clear hKI hsz hxz
      go_wp2
      go_roundw
      case rel => exact ⟨j + 1, _, rfl, rfl, hlt, HN4⟩
      case measure => simp [RowKit.intOf]; omega
    · obtain rfl : j = N := by omega
      have hI := HI.out
      have hsz := hI.sz
      have hS : S = ⟨(writeAllK [] L).toArray⟩ := by
        have := hI.st
        rwa [List.take_of_length_le (by rw [HLN.out]; exact Nat.le_refl _)] at this
      have HJ1 := HJ.out (writeAllK [] L) (by
        have : S.size = (writeAllK [] L).length := by rw [hS]; exact size_of _
        omega)
      rw [← hS, HA1.out] at HJ1
      simp only at HJ1
      rw [HLN.out] at HJ1
      have K1 := Lib.hid HJ1
      have HEr := Lib.hid (HE3.out.grow hI.below)
      have HBr := Lib.hid (up_trans B3.out hI.below)
      have hj9 : j ≤ 900 := by omega
      clear hI hS hsz HJ1
      go_wp2_with fail
      refine (K1.out _).mono ?_
      rintro r w5 ⟨u5, rfl, hM5⟩
      obtain ⟨a5, c5, rfl, _, _⟩ := hM5.2.1.slice_form
      have E5 := Lib.hid (And.intro (evs_win hM5.2.1 (n := j) (by rw [HLN.out]; exact Nat.le_refl _)) (HEr.out.grow hM5.1))
      have B5 := Lib.hid (up_trans HBr.out hM5.1)
      clear hM5
      go_wp2_with fail
      refine (same_evs _ _ j _ _ (getE L) w5 hj9 E5.out.1 E5.out.2).mono ?_
      rintro r w6 ⟨rfl, b6⟩
      have B6 := Lib.hid (up_trans B5.out b6)
      clear b6
      go_wp2
      go_ret
      exact ⟨rfl, B6.out⟩
set_option maxRecDepth 100000 in
set_option maxHeartbeats 8000000 in
theorem cback_shut (H : CinAll) (hH : HeadK) (A : Option Addr) (n cp : Nat) (Li : Nat → Int) (D : Nat) (w : World) (hL : DLAt w w.heap.size A n Li) (hn : n ≤ 60) (hD : 1 ≤ D ∧ D ≤ 16) :
    Calls Try.prog 4 #[.slice A n cp, .int .i64 D, .bool false] w fun r w' => r = .returned (.bool true) ∧ Below w.heap.size w w' := by
  have t1 : ((60 : Int) < (n : Int)) = False := by simp; omega
  have t2 : ((D : Int) < 1) = False := by simp; omega
  have t3 : ((16 : Int) < (D : Int)) = False := by simp; omega
  have HAL := Lib.hid (calive_any H w)
  have hgood := docK_good false n Li D 0
  have hone := doc_one false D n Li hD.2
  rw [gE_false] at hone hgood
  rw [List.map_id] at hone hgood
  have hlen := item_length n Li D
  have HDOC := Lib.hid (fun W (h : DLAt W W.heap.size A n Li) => doc_any A n cp Li D W h (by omega) (by omega) (cap16 D hD.2))
  have HLI := Lib.hid hL
  generalize hI : (itemD n Li D 0).1 = L at *
  clear hI
  obtain ⟨N, hlm⟩ : ∃ N, L.length = N := ⟨_, rfl⟩
  rw [hlm] at HDOC hlen
  have hN482 : N ≤ 482 := by omega
  have hdone := check_zero hone.1
  have HG : Hid (∀ e ∈ L, GoodK e) := Lib.hid (fun e he => (hgood e he).1)
  have HDN := Lib.hid hdone
  have HLN := Lib.hid hlm
  have HA1 : Hid (allCi D (writeAllK [] L) = (L, 0)) := Lib.hid (back_allK D L hone.1 HG.out hone.2)
  have HJ : Hid (∀ bs : List UInt8, bs.length ≤ 100000000 → ∀ W, Calls Try.prog 14 #[.string ⟨bs.toArray⟩, .int .i64 D] W fun r w' => ∃ u, r = .returned (.tuple #[u, .int .i64 (allCi D bs).2]) ∧ Made W w' u (allCi D bs).1.length (allCi D bs).1) := Lib.hid (fun bs hz W => H bs D hD hz W)
  clear hgood hone hlen hdone hlm hL hn hD
  go_enter Try.func4, Try.ntmps4
  go_wp2_with fail
  refine HAL.out.mono ?_
  rintro e w1 ⟨rfl, b1⟩
  have B1 := Lib.hid b1
  have HL1 := Lib.hid (show DLAt w1 w1.heap.size A n Li from fun h0 => by
    obtain ⟨b, off, h1, h2, h3⟩ := HLI.out.below b1 h0
    exact ⟨b, off, h1, Nat.lt_of_lt_of_le h2 b1.size, h3⟩)
  clear b1
  go_wp2_with fail
  refine (HDOC.out _ HL1.out).mono ?_
  rintro r w2 ⟨v2, rfl, hM2⟩
  obtain ⟨a2, c2, rfl, _, _⟩ := hM2.2.1.slice_form
  have B2 := Lib.hid (up_trans B1.out hM2.1)
  have HE3 := Lib.hid (evs_win hM2.2.1 (n := N) (by rw [HLN.out]; exact Nat.le_refl _))
  clear hM2
  have B3 := B2
  generalize w2 = w3 at *
  have H0 : Hid (KI w3 (w3.alloc (.cells #[.int .i64 2, .slice none 0 0, .bool false] 35)) L 0 ⟨#[]⟩) := Lib.hid (ki_new w3 L)
  go_wp2
  go_loopw [9, 10, 11, 12, 41] (fun s _ _ _ i wr => ∃ (j : Nat) (S : ByteArray), s = .string S ∧ i = .int .i64 j ∧ j ≤ N ∧ Hid (KI w3 wr L j S)) (fun _ _ _ _ i _ => N - (RowKit.intOf i).toNat)
  case atStart => exact ⟨0, ⟨#[]⟩, rfl, rfl, by omega, H0⟩
  case round =>
    obtain ⟨j, S, rfl, rfl, hj, HI⟩ := hrel
    clear H0
    by_cases hlt : j < N
    · have hjL : j < L.length := by rw [HLN.out]; exact hlt
      have HS := Lib.hid (ki_step hH HI.out hjL (by rw [HLN.out]; omega) HDN.out HG.out)
      obtain ⟨g, off, hgo, hgb, x0, x1, x2, x3, x4⟩ := (HE3.out.below HI.out.below).cells hlt
      subst hgo
      have hge : getE L j = L[j] := by simp [getE, hjL]
      rw [hge] at x0 x1 x2 x3 x4
      have hsz := HI.out.sz
      generalize L[j] = e at *
      obtain ⟨k, y, m, t, c⟩ := e
      simp only [evV] at x0 x1 x2 x3 x4 HS
      clear hge hjL hgb
      go_wp2_with fail
      refine HS.out.mono ?_
      rintro r w4 ⟨X, rfl, hxz, hKI⟩
      have HN4 := Lib.hid hKI
      have s1 : ¬ 9223372036854775807 < S.size + X.size := by omega
      clear hKI hsz hxz
      go_wp2
      go_roundw
      case rel => exact ⟨j + 1, _, rfl, rfl, hlt, HN4⟩
      case measure => simp [RowKit.intOf]; omega
    · obtain rfl : j = N := by omega
      have hI := HI.out
      have hsz := hI.sz
      have hS : S = ⟨(writeAllK [] L).toArray⟩ := by
        have := hI.st
        rwa [List.take_of_length_le (by rw [HLN.out]; exact Nat.le_refl _)] at this
      have HJ1 := HJ.out (writeAllK [] L) (by
        have : S.size = (writeAllK [] L).length := by rw [hS]; exact size_of _
        omega)
      rw [← hS, HA1.out] at HJ1
      simp only at HJ1
      rw [HLN.out] at HJ1
      have K1 := Lib.hid HJ1
      have HEr := Lib.hid (HE3.out.grow hI.below)
      have HBr := Lib.hid (up_trans B3.out hI.below)
      have hj9 : j ≤ 900 := by omega
      clear hI hS hsz HJ1
      go_wp2_with fail
      refine (K1.out _).mono ?_
      rintro r w5 ⟨u5, rfl, hM5⟩
      obtain ⟨a5, c5, rfl, _, _⟩ := hM5.2.1.slice_form
      have E5 := Lib.hid (And.intro (evs_win hM5.2.1 (n := j) (by rw [HLN.out]; exact Nat.le_refl _)) (HEr.out.grow hM5.1))
      have B5 := Lib.hid (up_trans HBr.out hM5.1)
      clear hM5
      go_wp2_with fail
      refine (same_evs _ _ j _ _ (getE L) w5 hj9 E5.out.1 E5.out.2).mono ?_
      rintro r w6 ⟨rfl, b6⟩
      have B6 := Lib.hid (up_trans B5.out b6)
      clear b6
      go_wp2
      go_ret
      exact ⟨rfl, B6.out⟩
set_option maxRecDepth 100000 in
set_option maxHeartbeats 2000000 in
theorem cback_out (H : CinAll) (A : Option Addr) (n cp : Nat) (d : Int) (o : Bool) (w : World) (h : ¬ (n ≤ 60 ∧ 1 ≤ d ∧ d ≤ 16)) :
    Calls Try.prog 4 #[.slice A n cp, .int .i64 d, .bool o] w fun r w' => r = .returned (.bool true) ∧ Below w.heap.size w w' := by
  have key : ∀ c1 c2 c3 : Prop, ((60 : Int) < (n : Int)) = c1 → (d < 1) = c2 → ((16 : Int) < d) = c3 →
      (c1 = True ∨ c1 = False ∧ c2 = True ∨ c1 = False ∧ c2 = False ∧ c3 = True) →
      Calls Try.prog 4 #[.slice A n cp, .int .i64 d, .bool o] w fun r w' => r = .returned (.bool true) ∧ Below w.heap.size w w' := by
    intro c1 c2 c3 e1 e2 e3 hc
    have HA := Lib.hid (calive_any H w)
    clear h
    rcases hc with rfl | ⟨rfl, rfl⟩ | ⟨rfl, rfl, rfl⟩
    all_goals
      go_enter Try.func4, Try.ntmps4
      go_wp2_with fail
      refine HA.out.mono ?_
      rintro r w1 ⟨rfl, b1⟩
      have B1 := Lib.hid b1
      clear b1
      go_wp2
      go_ret
      exact ⟨rfl, B1.out⟩
  refine key _ _ _ rfl rfl rfl ?_
  by_cases h1 : (60 : Int) < (n : Int)
  · exact .inl (eq_true h1)
  by_cases h3 : d < 1
  · exact .inr (.inl ⟨eq_false h1, eq_true h3⟩)
  · exact .inr (.inr ⟨eq_false h1, eq_false h3, eq_true (by omega)⟩)
theorem cback_row (H : CinAll) (hH : HeadK) (A : Option Addr) (n cp : Nat) (Li : Nat → Int) (d : Int) (o : Bool) (w : World) (hL : DLAt w w.heap.size A n Li) :
    Calls Try.prog 4 #[.slice A n cp, .int .i64 d, .bool o] w fun r w' => r = .returned (.bool true) ∧ Below w.heap.size w w' := by
  by_cases h : n ≤ 60 ∧ 1 ≤ d ∧ d ≤ 16
  · obtain ⟨D, rfl⟩ : ∃ D : Nat, d = D := ⟨d.toNat, by omega⟩
    cases o
    · exact cback_shut H hH A n cp Li D w hL h.1 (by omega)
    · exact cback_open H hH A n cp Li D w hL h.1 (by omega)
  · exact cback_out H A n cp d o w h
end Go.Proofs.Ytgknpheefbfnlaa
/-
  LAWS of chapter 13, over CinAll and HeadK: CborinCuts.
-/
namespace Go.Proofs.Ytgknpheefbfnlaa
open Go.RowKit
open Go.Lib
set_option maxRecDepth 100000 in
set_option maxHeartbeats 2000000 in
theorem ccuts_out (H : CinAll) (A : Option Addr) (n cp : Nat) (k y : Int) (w : World) (t1 : ((40 : Int) < (n : Int)) = True) :
    Calls Try.prog 5 #[.slice A n cp, .int .i64 k, .int .u8 y] w fun r w' => r = .returned (.bool true) ∧ Below w.heap.size w w' := by
  have HA := Lib.hid (calive_any H w)
  go_enter Try.func5, Try.ntmps5
  go_wp2_with fail
  refine HA.out.mono ?_
  rintro r w1 ⟨rfl, b1⟩
  have B1 := Lib.hid b1
  clear b1
  go_wp2
  go_ret
  exact ⟨rfl, B1.out⟩
set_option maxRecDepth 100000 in
set_option maxHeartbeats 8000000 in
theorem ccuts_in (H : CinAll) (hH : HeadK) (A : Option Addr) (n cp : Nat) (Li : Nat → Int) (k : Int) (b : UInt8) (w : World) (hL : DLAt w w.heap.size A n Li) (hn : n ≤ 40) :
    Calls Try.prog 5 #[.slice A n cp, .int .i64 k, .int .u8 b.toNat] w fun r w' => r = .returned (.bool true) ∧ Below w.heap.size w w' := by
  have t1 : ((40 : Int) < (n : Int)) = False := by simp; omega
  have HAL := Lib.hid (calive_any H w)
  have hgood := docK_good false n Li 8 0
  have hone := doc_one false 8 n Li (by omega)
  rw [gE_false] at hone hgood
  rw [List.map_id] at hone hgood
  have hlen := item_length n Li 8
  have HDOC := Lib.hid (fun W (h : DLAt W W.heap.size A n Li) => doc_any A n cp Li 8 W h (by omega) (by omega) (cap16 8 (by omega)))
  have HLI := Lib.hid hL
  generalize hI : (itemD n Li 8 0).1 = L at *
  clear hI
  obtain ⟨N, hlm⟩ : ∃ N, L.length = N := ⟨_, rfl⟩
  rw [hlm] at HDOC hlen
  have hN322 : N ≤ 322 := by omega
  have hdone := check_zero hone.1
  have HG : Hid (∀ e ∈ L, GoodK e) := Lib.hid (fun e he => (hgood e he).1)
  have HDN := Lib.hid hdone
  have HLN := Lib.hid hlm
  have HCUT : Hid (∀ kk, kk < (writeAllK [] L).length → (allCi 8 ((writeAllK [] L).take kk)).2 = 3) := Lib.hid (fun kk hk => cut_allK 8 L hone.1 HG.out hone.2 kk hk)
  have HMOR : Hid (allCi 8 (writeAllK [] L ++ [b]) = (L, 2)) := Lib.hid (more_allK 8 L hone.1 HG.out hone.2 b [])
  have HB0 : Hid (0 < (writeAllK [] L).length) := Lib.hid (List.length_pos_iff.2 (write_someK 8 L hone.1 HG.out hone.2))
  have HJ : Hid (∀ bs : List UInt8, bs.length ≤ 100000000 → ∀ W, Calls Try.prog 14 #[.string ⟨bs.toArray⟩, .int .i64 (8 : Nat)] W fun r w' => ∃ u, r = .returned (.tuple #[u, .int .i64 (allCi 8 bs).2]) ∧ Made W w' u (allCi 8 bs).1.length (allCi 8 bs).1) := Lib.hid (fun bs hz W => H bs 8 (by omega) hz W)
  clear hgood hone hlen hdone hlm hL hn
  go_enter Try.func5, Try.ntmps5
  go_wp2_with fail
  refine HAL.out.mono ?_
  rintro e w1 ⟨rfl, b1⟩
  have B1 := Lib.hid b1
  have HL1 := Lib.hid (show DLAt w1 w1.heap.size A n Li from fun h0 => by
    obtain ⟨b, off, h1, h2, h3⟩ := HLI.out.below b1 h0
    exact ⟨b, off, h1, Nat.lt_of_lt_of_le h2 b1.size, h3⟩)
  clear b1
  go_wp2_with fail
  refine (HDOC.out _ HL1.out).mono ?_
  rintro r w3 ⟨v3, rfl, hM3⟩
  obtain ⟨a3, c3, rfl, _, _⟩ := hM3.2.1.slice_form
  have B3 := Lib.hid (up_trans B1.out hM3.1)
  have HE3 := Lib.hid (evs_win hM3.2.1 (n := N) (by rw [HLN.out]; exact Nat.le_refl _))
  clear hM3
  have H0 : Hid (KI w3 (w3.alloc (.cells #[.int .i64 2, .slice none 0 0, .bool false] 35)) L 0 ⟨#[]⟩) := Lib.hid (ki_new w3 L)
  go_wp2
  go_loopw [9, 10, 11, 12, 31] (fun s _ _ _ i wr => ∃ (j : Nat) (S : ByteArray), s = .string S ∧ i = .int .i64 j ∧ j ≤ N ∧ Hid (KI w3 wr L j S)) (fun _ _ _ _ i _ => N - (RowKit.intOf i).toNat)
  case atStart => exact ⟨0, ⟨#[]⟩, rfl, rfl, by omega, H0⟩
  case round =>
    obtain ⟨j, S, rfl, rfl, hj, HI⟩ := hrel
    clear H0
    by_cases hlt : j < N
    · have hjL : j < L.length := by rw [HLN.out]; exact hlt
      have HS := Lib.hid (ki_step hH HI.out hjL (by rw [HLN.out]; omega) HDN.out HG.out)
      obtain ⟨g, off, hgo, hgb, x0, x1, x2, x3, x4⟩ := (HE3.out.below HI.out.below).cells hlt
      subst hgo
      have hge : getE L j = L[j] := by simp [getE, hjL]
      rw [hge] at x0 x1 x2 x3 x4
      have hsz := HI.out.sz
      generalize L[j] = e at *
      obtain ⟨ek, y, m, t, c⟩ := e
      simp only [evV] at x0 x1 x2 x3 x4 HS
      clear hge hjL hgb
      go_wp2_with fail
      refine HS.out.mono ?_
      rintro r w4 ⟨X, rfl, hxz, hKI⟩
      have HN4 := Lib.hid hKI
      have s1 : ¬ 9223372036854775807 < S.size + X.size := by omega
      clear hKI hsz hxz
      go_wp2
      go_roundw
      case rel => exact ⟨j + 1, _, rfl, rfl, hlt, HN4⟩
      case measure => simp [RowKit.intOf]; omega
    · obtain rfl : j = N := by omega
      have hI := HI.out
      have hsz := hI.sz
      have hS : S = ⟨(writeAllK [] L).toArray⟩ := by
        have := hI.st
        rwa [List.take_of_length_le (by rw [HLN.out]; exact Nat.le_refl _)] at this
      have hB0 := HB0.out
      have hCUT := HCUT.out
      have hMOR := HMOR.out
      generalize writeAllK [] L = B at *
      have hSB : S.size = B.length := by rw [hS]; exact size_of _
      obtain ⟨kk, hkk, hk⟩ := rem_place k S.size (by omega) (by omega)
      have hk' : (wrap64 (k.tmod (S.size : Int) + (S.size : Int))).tmod (S.size : Int) = (kk : Int) := hk
      have hC0 := hCUT kk (by omega)
      have hz0 : ((S.size : Int) == 0) = false := by rw [beq_eq_false_iff_ne]; omega
      have hsl := fun W : World => slice_str_hi S kk (Nat.le_of_lt hkk) W
      obtain ⟨C, hC⟩ : ∃ C : ByteArray, S.extract 0 kk = C := ⟨_, rfl⟩
      have hCl : C.data.toList = B.take kk := by subst hS; rw [← hC, ext_list]; rfl
      have hCB : (⟨(B.take kk).toArray⟩ : ByteArray) = C := by rw [← hCl]
      simp only [hC] at hsl
      have hJ1 := HJ.out (B.take kk) (by rw [List.length_take]; omega)
      rw [hCB, hC0] at hJ1
      have hJ2 := HJ.out (B ++ [b]) (by rw [List.length_append]; simp only [List.length_cons, List.length_nil]; omega)
      rw [hMOR] at hJ2
      simp only at hJ2
      rw [HLN.out] at hJ2
      have hSb : S ++ ⟨#[b]⟩ = ⟨(B ++ [b]).toArray⟩ := by rw [hS]; exact cat_of B [b]
      obtain ⟨Y, hY⟩ : ∃ Y : ByteArray, (⟨(B ++ [b]).toArray⟩ : ByteArray) = Y := ⟨_, rfl⟩
      rw [hY] at hJ2 hSb
      obtain ⟨Xb, hXb⟩ : ∃ Xb : ByteArray, (⟨#[b]⟩ : ByteArray) = Xb := ⟨_, rfl⟩
      have hcv : ∀ W : World, (convert 43 9 (.slice (some ⟨W.heap.size, 0, none⟩) 1 1)).run Try.prog (W.alloc (.cells #[.int .u8 b.toNat] 5)) = .ok (.string Xb) (W.alloc (.cells #[.int .u8 b.toNat] 5)) := fun W => conv_new W [b] #[.int .u8 b.toNat] 1 rfl rfl Xb hXb.symm
      have hXs : Xb.size = 1 := by rw [← hXb]; rfl
      have hs1 : ¬ 9223372036854775807 < S.size + Xb.size := by omega
      have hs2 : ¬ 9223372036854775807 < S.size + 1 := by omega
      rw [hXb] at hSb
      have HBr := Lib.hid (up_trans B3.out hI.below)
      have HEr := Lib.hid (HE3.out.grow hI.below)
      have hj9 : j ≤ 900 := by omega
      generalize (allCi 8 (B.take kk)).1 = L1 at *
      have K1 := Lib.hid hJ1
      have K2 := Lib.hid hJ2
      have hkS : kk < S.size := hkk
      clear hI hS hsz hB0 hCUT hMOR hC0 hSB hkk hk hC hCl hCB hJ1 hJ2 hY hXb hXs
      generalize (b.toNat : Int) = y at *
      go_wp2_with fail
      refine (K1.out _).mono ?_
      rintro r w5 ⟨u5, rfl, hM5⟩
      obtain ⟨a5, c5, rfl, _, _⟩ := hM5.2.1.slice_form
      have B5 := Lib.hid (up_trans HBr.out hM5.1)
      have E5 := Lib.hid (HEr.out.grow hM5.1)
      clear hM5
      go_wp2_with fail
      refine (K2.out _).mono ?_
      rintro r w6 ⟨u6, rfl, hM6⟩
      obtain ⟨a6, c6, rfl, _, _⟩ := hM6.2.1.slice_form
      have B6 := Lib.hid (up_trans (up_alloc B5.out _) hM6.1)
      have E6 := Lib.hid (And.intro (evs_win hM6.2.1 (n := j) (by rw [HLN.out]; exact Nat.le_refl _)) ((E5.out.grow (up_alloc (Below.refl _ _) _)).grow hM6.1))
      clear hM6
      go_wp2_with fail
      refine (same_evs _ _ j _ _ (getE L) w6 hj9 E6.out.1 E6.out.2).mono ?_
      rintro r w7 ⟨rfl, b7⟩
      have B7 := Lib.hid (up_trans B6.out b7)
      clear b7
      go_wp2
      go_ret
      exact ⟨rfl, B7.out⟩
theorem ccuts_row (H : CinAll) (hH : HeadK) (A : Option Addr) (n cp : Nat) (Li : Nat → Int) (k : Int) (b : UInt8) (w : World) (hL : DLAt w w.heap.size A n Li) :
    Calls Try.prog 5 #[.slice A n cp, .int .i64 k, .int .u8 b.toNat] w fun r w' => r = .returned (.bool true) ∧ Below w.heap.size w w' := by
  by_cases h1 : 40 < n
  · exact ccuts_out H A n cp k _ w (by simp; omega)
  · exact ccuts_in H hH A n cp Li k b w hL (by omega)
end Go.Proofs.Ytgknpheefbfnlaa
