/-
  LAWS of chapter 17: StageSizes.
-/
import Derived.Test.YtkfidnfnehnhoaaStgK
namespace Go.Proofs.Ytkfidnfnehnhoaa
open Go.RowKit
open Go.Lib
/-- The one list held: its begin, and j values. -/
def SzK (s : Gs) (j z : Nat) : Prop := ∃ H, s = .live z H [⟨false, -1, 0, j⟩] ∧ H.length = j + 1
theorem sz_begin : SzK (stepG 2000 gs0 ⟨5, false, 0, ⟨#[]⟩, -1⟩).s 0 1 ∧ (stepG 2000 gs0 ⟨5, false, 0, ⟨#[]⟩, -1⟩).e = 0 := ⟨⟨[⟨5, false, 0, ⟨#[]⟩, -1⟩], by kernel_rfl, rfl⟩, by kernel_rfl⟩
theorem sz_val {s : Gs} {j z : Nat} (h : SzK s j z) (e : Ev) (hk : 0 ≤ e.k ∧ e.k ≤ 4) (hz : z + sizG e ≤ 2000) : stepG 2000 s e = ⟨(stepG 2000 s e).s, [], 0⟩ ∧ SzK (stepG 2000 s e).s (j + 1) (z + sizG e) := by
  obtain ⟨H, rfl, hl⟩ := h
  have e1 : stepG 2000 (.live z H [⟨false, -1, 0, j⟩]) e = ⟨.live (z + sizG e) (heldN e H [⟨false, -1, 0, j⟩]) (openN e H.length [⟨false, -1, 0, j⟩]), [], 0⟩ := by
    simp only [stepG]
    rw [if_neg (by simp), if_neg (by simp; omega), if_neg (by omega)]
  rw [e1]
  refine ⟨rfl, heldN e H [⟨false, -1, 0, j⟩], ?_, by rw [heldN_length, hl]⟩
  have e2 : openN e H.length [⟨false, -1, 0, j⟩] = [⟨false, -1, 0, j + 1⟩] := by
    unfold openN
    rw [if_neg (by omega), if_neg (by omega)]
    rfl
  rw [e2]
theorem sz_end {s : Gs} {j z : Nat} (h : SzK s j z) : (stepG 2000 s ⟨7, false, 0, ⟨#[]⟩, 0⟩).e = 0 ∧ (stepG 2000 s ⟨7, false, 0, ⟨#[]⟩, 0⟩).s = gs0 ∧ (stepG 2000 s ⟨7, false, 0, ⟨#[]⟩, 0⟩).l.length = j + 2 := by
  obtain ⟨H, rfl, hl⟩ := h
  have e1 : stepG 2000 (.live z H [⟨false, -1, 0, j⟩]) ⟨7, false, 0, ⟨#[]⟩, 0⟩ = ⟨gs0, endH H [⟨false, -1, 0, j⟩] ++ [⟨7, false, 0, ⟨#[]⟩, 0⟩], 0⟩ := by
    simp only [stepG]
    rw [if_neg (by simp), if_pos (by simp)]
  rw [e1]
  exact ⟨rfl, rfl, by simp [endH_length, hl]⟩
theorem low_may {e : Ev} (h : 0 ≤ e.k ∧ e.k ≤ 4) : mayE e := ⟨h.1, by omega, fun hh => by omega⟩
theorem low_not {e : Ev} (h : 0 ≤ e.k ∧ e.k ≤ 4) : ¬ opnE e := fun hh => by have := hh.1; omega
set_option maxRecDepth 100000 in
set_option maxHeartbeats 4000000 in
theorem gsizes_off (A : Option Addr) (n cp : Nat) (B : Option Addr) (m cq : Nat) (w : World) (hn : 20 < n ∨ 60 < m) :
    Calls Try.prog 7 #[.slice A n cp, .slice B m cq] w fun r w' => r = .returned (.bool true) ∧ Below w.heap.size w w' := by
  have HA := Lib.hid (fun W => galive_any W)
  by_cases h1 : 20 < n
  · have t1 : ((n : Int) > 20) = True := by simp; omega
    clear hn
    go_enter Try.func7, Try.ntmps7
    go_wp2_with fail
    refine (HA.out _).mono ?_
    rintro r w1 ⟨rfl, b1⟩
    have B1 := Lib.hid b1
    clear b1
    go_wp2
    go_ret
    exact ⟨rfl, B1.out⟩
  · have t1 : ((n : Int) > 20) = False := by simp; omega
    have t2 : ((m : Int) > 60) = True := by simp; omega
    clear hn h1
    go_enter Try.func7, Try.ntmps7
    go_wp2_with fail
    refine (HA.out _).mono ?_
    rintro r w1 ⟨rfl, b1⟩
    have B1 := Lib.hid b1
    clear b1
    go_wp2
    go_ret
    exact ⟨rfl, B1.out⟩
theorem ev_low (e : Ev) (N : Nat) (L : Int) (hL : L = (N : Int)) : (5 ≤ e.k) = True ∨ ((5 ≤ e.k) = False ∧ (e.k < 0) = True) ∨ ((5 ≤ e.k) = False ∧ (e.k < 0) = False ∧ (L < (e.t.size : Int)) = True) ∨ ((5 ≤ e.k) = False ∧ (e.k < 0) = False ∧ (L < (e.t.size : Int)) = False ∧ (0 ≤ e.k ∧ e.k ≤ 4) ∧ e.t.size ≤ N) := by
  subst hL
  by_cases h1 : 5 ≤ e.k
  · exact .inl (by simp [h1])
  · by_cases h2 : e.k < 0
    · exact .inr (.inl ⟨by simp; omega, by simp [h2]⟩)
    · by_cases h3 : N < e.t.size
      · exact .inr (.inr (.inl ⟨by simp; omega, by simp; omega, by simp; omega⟩))
      · exact .inr (.inr (.inr ⟨by simp; omega, by simp; omega, by simp; omega, ⟨by omega, by omega⟩, by omega⟩))
set_option maxRecDepth 100000 in
set_option maxHeartbeats 8000000 in
theorem gsizes_in (A : Option Addr) (n cp : Nat) (E : Nat → Ev) (B : Option Addr) (m cq : Nat) (F : Nat → Ev) (w : World) (hn : n ≤ 20) (hm : m ≤ 60) (hE : EvsAt w w.heap.size A n E) (hF : EvsAt w w.heap.size B m F) (hok : ∀ i, i < n → EvOk (E i)) (hof : ∀ i, i < m → EvOk (F i)) :
    Calls Try.prog 7 #[.slice A n cp, .slice B m cq] w fun r w' => r = .returned (.bool true) ∧ Below w.heap.size w w' := by
  have HA := Lib.hid (fun W => galive_any W)
  have HO := Lib.hid (fun e W => of_any e W)
  have HN := Lib.hid (fun W => gk_new 2000 W)
  rw [show (min (max (2000 : Int) 0) 2000).toNat = 2000 by decide] at HN
  have t1 : ((n : Int) > 20) = False := by simp; omega
  have t2 : ((m : Int) > 60) = False := by simp; omega
  have HE := Lib.hid hE
  have HF := Lib.hid hF
  have HOK := Lib.hid hok
  have HOF := Lib.hid hof
  have HMN := Lib.hid (And.intro hn hm)
  clear hE hF hok hof
  go_enter Try.func7, Try.ntmps7
  go_wp2_with fail
  refine (HA.out _).mono ?_
  rintro r w1 ⟨rfl, b1⟩
  have B1 := Lib.hid b1
  clear b1
  go_wp2_with fail
  refine (HN.out _).mono ?_
  rintro r w2 ⟨b, rfl, h2⟩
  have H2 := Lib.hid h2
  clear h2 HA HN
  go_wp2
  go_loopw [6, 7, 8, 9, 10, 11, 39] (fun _ _ _ _ _ _ i wr => ∃ (j : Nat), i = .int .i64 j ∧ j ≤ n ∧ Hid (GK w1 wr b 2000 gs0)) (fun _ _ _ _ _ _ i _ => n - (RowKit.intOf i).toNat)
  case atStart => exact ⟨0, rfl, by omega, H2⟩
  case round =>
    obtain ⟨j, rfl, hj, HG⟩ := hrel
    by_cases hlt : j < n
    · have hB := up_trans B1.out HG.out.bel
      obtain ⟨g, off, hA, hb, x0, x1, x2, x3, x4⟩ := (HE.out.below hB).cells hlt
      subst hA
      have hOk := HOK.out j hlt
      have hlow := ev_low (E j) 60 60 rfl
      have HB := Lib.hid hB
      generalize E j = e at *
      have hO := HO.out e
      clear hB H2
      rcases hlow with h | ⟨h, h'⟩ | ⟨h, h', h''⟩ | ⟨h, h', h'', hk, hs⟩
      · obtain ⟨k, y, mg, t, c⟩ := e
        simp only at *
        clear hO hOk
        go_wp2
        go_ret
        exact ⟨rfl, HB.out⟩
      · obtain ⟨k, y, mg, t, c⟩ := e
        simp only at *
        clear hO hOk
        go_wp2
        go_ret
        exact ⟨rfl, HB.out⟩
      · obtain ⟨k, y, mg, t, c⟩ := e
        simp only at *
        clear hO hOk
        go_wp2
        go_ret
        exact ⟨rfl, HB.out⟩
      · rw [if_pos (low_may hk), decide_eq_true (low_may hk)] at hO
        have HO1 := Lib.hid hO
        have HST := Lib.hid (fun W (h : GK w1 W b 2000 gs0) => h.step e (low_may hk) (by have := sizG_le e; omega))
        rw [none_pass (low_not hk)] at HST
        generalize valE e = V at *
        generalize hl1 : [e] = L1 at HST
        have hl2 : L1.length = 1 := by rw [← hl1]; rfl
        have HL2 := Lib.hid hl2
        clear hl1 hl2
        obtain ⟨k, y, mg, t, c⟩ := e
        simp only [evV] at *
        clear hO hOk hk hs
        go_wp2_with fail
        refine (HO1.out _).mono ?_
        rintro r w3 ⟨rfl, b3⟩
        have H3 := Lib.hid (HST.out _ (HG.out.go b3))
        clear b3
        go_wp2_with fail
        refine H3.out.mono ?_
        rintro r w4 ⟨⟨v4, rfl, hv4⟩, h4, _⟩
        obtain ⟨a4, c4, rfl⟩ := hv4.form
        rw [HL2.out]
        have H4 := Lib.hid h4.held
        have H5 := Lib.hid h4
        clear hv4 h4 H3
        go_wp2_with fail
        refine H4.out.mono ?_
        rintro r w5 ⟨rfl, rfl⟩
        clear h h' h'' x0 x1 x2 x3 x4
        go_wp2
        go_roundw
        case rel => exact ⟨j + 1, rfl, by omega, H5⟩
        case measure => simp [RowKit.intOf]; omega
    · obtain rfl : j = n := by omega
      have H6 := Lib.hid (HG.out.step ⟨5, false, 0, ⟨#[]⟩, -1⟩ (by decide) (by rw [size_lit]; decide))
      rw [valE_lit5] at H6
      have HB1 := Lib.hid sz_begin
      generalize stepG 2000 gs0 ⟨5, false, 0, ⟨#[]⟩, -1⟩ = G at *
      clear H2 HE HOK
      go_wp2_with fail
      refine H6.out.mono ?_
      rintro r w6 ⟨⟨v6, rfl, _⟩, h6, _⟩
      have H7 : Hid (∃ s, SzK s 0 1 ∧ GK w1 w6 b 2000 s) := Lib.hid ⟨_, HB1.out.1, h6⟩
      clear h6 H6 HB1 HG
      go_wp2
      go_loopw [12, 13, 14, 15, 16, 17, 18, 95] (fun z _ _ _ _ _ _ i wr => ∃ (j z' : Nat), i = .int .i64 j ∧ z = .int .i64 z' ∧ j ≤ m ∧ z' ≤ 1 + 26 * j ∧ Hid (∃ s, SzK s j z' ∧ GK w1 wr b 2000 s)) (fun _ _ _ _ _ _ _ i _ => m - (RowKit.intOf i).toNat)
      case atStart => exact ⟨0, 1, rfl, rfl, by omega, by omega, H7⟩
      case round =>
        obtain ⟨j, z, rfl, rfl, hj, hz, HG⟩ := hrel
        by_cases hlt : j < m
        · obtain ⟨s, hsz, hG⟩ := HG.out
          have hB := up_trans B1.out hG.bel
          obtain ⟨g, off, hA, hb, x0, x1, x2, x3, x4⟩ := (HF.out.below hB).cells hlt
          subst hA
          have hOk := HOF.out j hlt
          have hlow := ev_low (F j) 25 25 rfl
          have HB := Lib.hid hB
          generalize F j = e at *
          have hO := HO.out e
          clear hB H7
          rcases hlow with h | ⟨h, h'⟩ | ⟨h, h', h''⟩ | ⟨h, h', h'', hk, hs⟩
          · obtain ⟨k, y, mg, t, c⟩ := e
            simp only at *
            clear hO hOk hsz hG
            go_wp2
            go_ret
            exact ⟨rfl, HB.out⟩
          · obtain ⟨k, y, mg, t, c⟩ := e
            simp only at *
            clear hO hOk hsz hG
            go_wp2
            go_ret
            exact ⟨rfl, HB.out⟩
          · obtain ⟨k, y, mg, t, c⟩ := e
            simp only at *
            clear hO hOk hsz hG
            go_wp2
            go_ret
            exact ⟨rfl, HB.out⟩
          · rw [if_pos (low_may hk), decide_eq_true (low_may hk)] at hO
            have HO1 := Lib.hid hO
            have hsl := sizG_le e
            have HSE := Lib.hid (fun W => gsize_any e (low_may hk) (by omega) W)
            have hv := sz_val hsz e hk (by have := HMN.out; omega)
            have HST := Lib.hid (fun W (h : GK w1 W b 2000 s) => h.step e (low_may hk) (by omega))
            rw [hv.1] at HST
            have HV := Lib.hid hv.2
            have HGG := Lib.hid hG
            have hq : sizG e ≤ 26 := by omega
            generalize (stepG 2000 s e).s = s' at *
            generalize sizG e = Q at *
            generalize valE e = V at *
            have hzz : IntKind.i64.wrap ((z : Int) + (Q : Int)) = (z : Int) + (Q : Int) := by have := HMN.out; simp only [IntKind.wrap_i64]; omega
            obtain ⟨k, y, mg, t, c⟩ := e
            simp only [evV] at *
            clear hO hOk hk hs hv hsl hG hsz
            go_wp2_with fail
            refine (HO1.out _).mono ?_
            rintro r w3 ⟨rfl, b3⟩
            have H3 := Lib.hid (HGG.out.go b3)
            clear b3
            go_wp2_with fail
            refine (HSE.out _).mono ?_
            rintro r w4 ⟨rfl, b4⟩
            have H4 := Lib.hid (HST.out _ (H3.out.go b4))
            clear b4 H3 HSE HGG HST
            go_wp2_with fail
            refine H4.out.mono ?_
            rintro r w5 ⟨⟨v5, rfl, hv5⟩, h5, _⟩
            obtain ⟨a5, c5, rfl⟩ := hv5.form
            have H5 := Lib.hid h5.held
            have H6 := Lib.hid h5
            have HV2 : Hid (∃ s, SzK s (j + 1) (z + Q) ∧ GK w1 w5 b 2000 s) := Lib.hid ⟨s', HV.out, h5⟩
            obtain ⟨Hh, hs', hl'⟩ := HV.out
            subst hs'
            simp only [heldG, List.length_nil] at H5 ⊢
            rw [Int.natCast_add] at H5
            clear hv5 h5 H4 H6 hl' HV
            go_wp2_with fail
            refine H5.out.mono ?_
            rintro r w6 ⟨rfl, rfl⟩
            clear h h' h'' x0 x1 x2 x3 x4
            go_wp2
            go_roundw
            case rel => exact ⟨j + 1, z + Q, rfl, by rw [Int.natCast_add], by omega, by omega, HV2⟩
            case measure => simp [RowKit.intOf]; omega
        · obtain rfl : j = m := by omega
          obtain ⟨s, hsz, hG⟩ := HG.out
          have H8 := Lib.hid (hG.step ⟨7, false, 0, ⟨#[]⟩, 0⟩ (by decide) (by rw [size_lit]; decide))
          rw [valE_lit7] at H8
          have he := sz_end hsz
          generalize stepG 2000 s ⟨7, false, 0, ⟨#[]⟩, 0⟩ = G at *
          obtain ⟨G1, G2, G3⟩ := G
          simp only at he
          obtain ⟨rfl, rfl, hlen⟩ := he
          have HLEN := Lib.hid hlen
          clear H7 hG hsz hlen
          simp only at H8
          go_wp2_with fail
          refine H8.out.mono ?_
          rintro r w9 ⟨⟨v9, rfl, hv9⟩, h9, _⟩
          obtain ⟨a9, c9, rfl⟩ := hv9.form
          rw [HLEN.out]
          have H9 := Lib.hid h9.held
          have H10 := Lib.hid h9.empty
          have HBB := Lib.hid (up_trans B1.out h9.bel)
          have hww : IntKind.i64.wrap ((j : Int) + 2) = (j : Int) + 2 := by simp only [IntKind.wrap_i64]; omega
          clear hv9 h9 H8
          go_wp2_with fail
          refine H9.out.mono ?_
          rintro r w10 ⟨rfl, rfl⟩
          go_wp2_with fail
          refine H10.out.mono ?_
          rintro r w11 ⟨rfl, rfl⟩
          go_wp2
          go_ret
          exact ⟨rfl, HBB.out⟩
theorem gsizes_row (A : Option Addr) (n cp : Nat) (E : Nat → Ev) (B : Option Addr) (m cq : Nat) (F : Nat → Ev) (w : World) (hE : EvsAt w w.heap.size A n E) (hF : EvsAt w w.heap.size B m F) (hok : ∀ i, i < n → EvOk (E i)) (hof : ∀ i, i < m → EvOk (F i)) :
    Calls Try.prog 7 #[.slice A n cp, .slice B m cq] w fun r w' => r = .returned (.bool true) ∧ Below w.heap.size w w' := by
  by_cases h : 20 < n ∨ 60 < m
  · exact gsizes_off A n cp B m cq w h
  · exact gsizes_in A n cp E B m cq F w (by omega) (by omega) hE hF hok hof
end Go.Proofs.Ytkfidnfnehnhoaa
