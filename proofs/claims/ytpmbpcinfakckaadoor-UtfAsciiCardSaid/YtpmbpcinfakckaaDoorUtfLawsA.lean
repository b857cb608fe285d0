/-
  LAWS of chapter 4: UtfAscii.
-/
import Derived.Test.YtpmbpcinfakckaaDoorUtfAlive
namespace Go.Proofs.YtpmbpcinfakckaaDoor
open Go.RowKit
open Go.Lib
theorem ascii_states (b : UInt8) (h : b.toNat < 128) : stepS st0 b = st0 ∧ validD [b] = true ∧ runesOf ⟨#[b]⟩ = [b.toNat] := by
  have hs : stepS st0 b = st0 := by
    show openS b.toNat = _
    unfold openS
    rw [if_pos h]
    rfl
  have hv : validD [b] = true := by rw [valid_run, runS_cons, hs]; rfl
  refine ⟨hs, hv, ?_⟩
  unfold runesOf
  show (if validD [b] = true then runesD 1 [b] else []) = _
  rw [if_pos hv]
  unfold runesD
  rw [if_neg (by simp), decodeL_ascii b [] h]
  simp [runesD]
theorem high_states (b : UInt8) (h : 128 ≤ b.toNat) : stepS st0 b = openS b.toNat ∧ wholeS (openS b.toNat) = false ∧ validD [b] = false ∧ runesOf ⟨#[b]⟩ = [] ∧ ((openS b.toNat).isSome = decide (194 ≤ b.toNat ∧ b.toNat ≤ 244)) := by
  have hw : wholeS (openS b.toNat) = false := by
    cases ho : openS b.toNat with
    | none => rfl
    | some p =>
      obtain ⟨n, lo, hi⟩ := p
      have := (openS_pos _ _ _ _ ho h).1
      rcases this with rfl | rfl | rfl <;> rfl
  have hv : validD [b] = false := by rw [valid_run, runS_cons]; exact hw
  have hlt := b.toNat_lt
  refine ⟨rfl, hw, hv, ?_, ?_⟩
  · unfold runesOf
    show (if validD [b] = true then runesD 1 [b] else []) = _
    rw [hv]
    rfl
  · by_cases hl : 194 ≤ b.toNat ∧ b.toNat ≤ 244
    · rw [decide_eq_true hl]
      unfold openS
      repeat' split
      all_goals first | rfl | (exfalso; omega)
    · rw [decide_eq_false hl]
      unfold openS
      repeat' split
      all_goals first | rfl | (exfalso; omega)
set_option maxRecDepth 100000 in
set_option maxHeartbeats 1600000 in
theorem ascii_any (b : UInt8) (w : World) (hT : Tabs w) : Calls Tryd.prog 8 #[.int .u8 b.toNat] w fun e w' => e = .returned (.bool true) ∧ Below w.heap.size w w' := by
  have hA := alive_any w hT
  have hTl := hT.lt
  have HT := Lib.hid hT
  have HA := Lib.hid hA
  clear hT hA
  go_enter Tryd.func8, Tryd.ntmps8
  go_wp2_with fail
  refine HA.out.mono ?_
  rintro e w1 ⟨rfl, b1⟩
  have H0 := Lib.hid (cat_new w1)
  have hcv := conv_new (w1.alloc (.cells #[.int .i64 0, .int .u8 0, .int .u8 0, .bool false] 25)) [b] #[.int .u8 b.toNat] 1 rfl rfl ⟨#[b]⟩ rfl
  rw [show (w1.alloc (.cells #[.int .i64 0, .int .u8 0, .int .u8 0, .bool false] 25)).heap.size = w1.heap.size + 1 by simp] at hcv
  obtain ⟨p, hp⟩ : ∃ p, p = w1.heap.size := ⟨_, rfl⟩
  have HP := Lib.hid hp
  have hsz := b1.size
  have H2 : CAt ((w1.alloc (.cells #[.int .i64 0, .int .u8 0, .int .u8 0, .bool false] 25)).alloc (.cells #[.int .u8 b.toNat] 5)) p st0 := by
    rw [hp]; exact H0.out.keep (Below.heap_alloc _ _ _ (by simp))
  have B2 := Lib.hid ((b1.alloc hsz (.cells #[.int .i64 0, .int .u8 0, .int .u8 0, .bool false] 25)).alloc (by simp; omega) (.cells #[.int .u8 b.toNat] 5))
  have D2 := Lib.hid H2
  have hwp : w.heap.size ≤ p := by rw [hp]; exact hsz
  clear H2 H0 hp b1 HA
  go_wp2_with fail
  rw [← HP.out]
  refine (step_at D2.out b).mono ?_
  rintro e w3 ⟨rfl, C3, S3⟩
  have B3 := Lib.hid (step_below B2.out S3 hwp B2.out.size)
  have C3' := Lib.hid C3
  have T3 := Lib.hid (HT.out.below B3.out hTl)
  have hp3 := C3.lt
  clear C3 S3 D2 B2 hcv
  by_cases hb : b.toNat < 128
  · obtain ⟨e1, e2, e3⟩ := ascii_states b hb
    have hR := runes_any ⟨#[b]⟩ w3 (show 1 ≤ 100000 by decide) T3.out
    rw [e3] at hR
    rw [e1] at C3' ⊢
    have HR := Lib.hid hR
    have hbz : ((b.toNat : Nat) : Int) < 128 := by omega
    have HV := Lib.hid e2
    clear e1 e2 e3 hR
    simp only [Option.isSome, st0]
    go_wp2_with fail
    refine HR.out.mono ?_
    rintro e w4 ⟨v, rfl, hW, hF⟩
    have B4 := Lib.hid (B3.out.trans (hF.1.mono B3.out.size))
    have C4 := Lib.hid (C3'.out.below hF.1 hp3)
    have T4 := Lib.hid (T3.out.below hF.1 T3.out.lt)
    have HW := Lib.hid hW
    obtain ⟨g, off, cap, rfl, hcell⟩ := hW.elem 0 (.int .i64 b.toNat) (by simp [intCells])
    clear hW hF B3 T3 C3'
    go_wp2_with fail
    refine (whole_at C4.out).mono ?_
    rintro e w5 ⟨rfl, rfl⟩
    simp only [wholeS, st0]
    go_wp2_with fail
    refine (valid_lit ⟨#[b]⟩ w4 (show 1 ≤ 9223372036854775807 by decide) T4.out true HV.out).mono ?_
    rintro e w5 ⟨rfl, b5⟩
    have B5 := Lib.hid (B4.out.trans (b5.mono B4.out.size))
    have hgl : g < w4.heap.size := by
      have := HW.out.lt g (by simp [Value.owner])
      exact this
    have hc5 : w5.cell? ⟨g, off, none⟩ = some (.int .i64 b.toNat) := (b5.cell (p := ⟨g, off + 0, none⟩) hgl).trans hcell
    clear b5 hcell
    go_wp2
    go_ret
    exact ⟨rfl, B5.out⟩
  · obtain ⟨e1, e2, e3, e4, e5⟩ := high_states b (by omega)
    have hR := runes_any ⟨#[b]⟩ w3 (show 1 ≤ 100000 by decide) T3.out
    rw [e4] at hR
    rw [e1] at C3' ⊢
    have HR := Lib.hid hR
    have hbz : ¬ ((b.toNat : Nat) : Int) < 128 := by omega
    have HV := Lib.hid e3
    have HWh := Lib.hid e2
    clear e1 e2 e3 hR
    by_cases h1 : (194 : Int) ≤ ((b.toNat : Nat) : Int)
    · by_cases h2 : ((b.toNat : Nat) : Int) ≤ 244
      · rw [decide_eq_true (by omega)] at e5
        have HNo : Hid ((openS b.toNat).isNone = false) := Lib.hid (by cases ho : openS b.toNat <;> simp_all)
        rw [e5]
        clear e5
        go_wp2_with fail
        refine HR.out.mono ?_
        rintro e w4 ⟨v, rfl, hW, hF⟩
        have B4 := Lib.hid (B3.out.trans (hF.1.mono B3.out.size))
        have C4 := Lib.hid (C3'.out.below hF.1 hp3)
        have T4 := Lib.hid (T3.out.below hF.1 T3.out.lt)
        obtain ⟨a, cap, rfl, _, _⟩ := hW.slice_form
        clear hW hF B3 T3 C3'
        go_wp2_with fail
        refine (whole_at C4.out).mono ?_
        rintro e w5 ⟨rfl, rfl⟩
        rw [HWh.out]
        go_wp2_with fail
        refine (bad_at C4.out).mono ?_
        rintro e w5 ⟨rfl, rfl⟩
        rw [HNo.out]
        go_wp2_with fail
        refine (valid_lit ⟨#[b]⟩ w4 (show 1 ≤ 9223372036854775807 by decide) T4.out false HV.out).mono ?_
        rintro e w5 ⟨rfl, b5⟩
        have B5 := Lib.hid (B4.out.trans (b5.mono B4.out.size))
        clear b5
        go_wp2
        go_ret
        exact ⟨rfl, B5.out⟩
      · rw [decide_eq_false (by omega)] at e5
        have h2a : decide (((b.toNat : Nat) : Int) ≤ 244) = false := decide_eq_false h2
        have HNo : Hid ((openS b.toNat).isNone = true) := Lib.hid (by cases ho : openS b.toNat <;> simp_all)
        rw [e5]
        clear e5
        go_wp2_with fail
        refine HR.out.mono ?_
        rintro e w4 ⟨v, rfl, hW, hF⟩
        have B4 := Lib.hid (B3.out.trans (hF.1.mono B3.out.size))
        have C4 := Lib.hid (C3'.out.below hF.1 hp3)
        have T4 := Lib.hid (T3.out.below hF.1 T3.out.lt)
        obtain ⟨a, cap, rfl, _, _⟩ := hW.slice_form
        clear hW hF B3 T3 C3'
        go_wp2_with fail
        refine (whole_at C4.out).mono ?_
        rintro e w5 ⟨rfl, rfl⟩
        rw [HWh.out]
        go_wp2_with fail
        refine (bad_at C4.out).mono ?_
        rintro e w5 ⟨rfl, rfl⟩
        rw [HNo.out]
        go_wp2_with fail
        refine (valid_lit ⟨#[b]⟩ w4 (show 1 ≤ 9223372036854775807 by decide) T4.out false HV.out).mono ?_
        rintro e w5 ⟨rfl, b5⟩
        have B5 := Lib.hid (B4.out.trans (b5.mono B4.out.size))
        clear b5
        go_wp2
        go_ret
        exact ⟨rfl, B5.out⟩
    · rw [decide_eq_false (by omega)] at e5
      have HNo : Hid ((openS b.toNat).isNone = true) := Lib.hid (by cases ho : openS b.toNat <;> simp_all)
      rw [e5]
      clear e5
      go_wp2_with fail
      refine HR.out.mono ?_
      rintro e w4 ⟨v, rfl, hW, hF⟩
      have B4 := Lib.hid (B3.out.trans (hF.1.mono B3.out.size))
      have C4 := Lib.hid (C3'.out.below hF.1 hp3)
      have T4 := Lib.hid (T3.out.below hF.1 T3.out.lt)
      obtain ⟨a, cap, rfl, _, _⟩ := hW.slice_form
      clear hW hF B3 T3 C3'
      go_wp2_with fail
      refine (whole_at C4.out).mono ?_
      rintro e w5 ⟨rfl, rfl⟩
      rw [HWh.out]
      go_wp2_with fail
      refine (bad_at C4.out).mono ?_
      rintro e w5 ⟨rfl, rfl⟩
      rw [HNo.out]
      go_wp2_with fail
      refine (valid_lit ⟨#[b]⟩ w4 (show 1 ≤ 9223372036854775807 by decide) T4.out false HV.out).mono ?_
      rintro e w5 ⟨rfl, b5⟩
      have B5 := Lib.hid (B4.out.trans (b5.mono B4.out.size))
      clear b5
      go_wp2
      go_ret
      exact ⟨rfl, B5.out⟩
theorem u8_of (n : Int) (h : 0 ≤ n ∧ n ≤ 255) : ∃ b : UInt8, n = ((b.toNat : Nat) : Int) := ⟨UInt8.ofNat n.toNat, by rw [toNat_ofNat _ (by omega)]; omega⟩
theorem ascii_z (n : Int) (w : World) (h : 0 ≤ n ∧ n ≤ 255) (hT : Tabs w) : Calls Tryd.prog 8 #[.int .u8 n] w fun e w' => e = .returned (.bool true) ∧ Below w.heap.size w w' := by
  obtain ⟨b, rfl⟩ := u8_of n h
  exact ascii_any b w hT
end Go.Proofs.YtpmbpcinfakckaaDoor
