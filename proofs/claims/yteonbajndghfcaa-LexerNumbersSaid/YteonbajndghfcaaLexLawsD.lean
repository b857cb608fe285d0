/-
  LAWS of chapter 10: LexerNumbers.
-/
import Derived.Test.YteonbajndghfcaaLexLawsC
import Derived.Test.YteonbajndghfcaaRefPrint
import Derived.Laws.StructEq
namespace Go.Proofs.Yteonbajndghfcaa
open Go.RowKit
open Go.Lib
/-- Within a number that is printed: no error, no token. -/
theorem num_pre (p : Bool × Nat) (i : Nat) : (runX .idle ((printD p).take i)).2 = [] ∧ errX (runX .idle ((printD p).take i)).1 = 0 := by
  obtain ⟨r, hr⟩ := runs_take (runs_print p) i
  by_cases h : (printD p).take i = []
  · rw [h]
    exact ⟨rfl, rfl⟩
  · rw [num_in hr h]
    exact ⟨rfl, rfl⟩
theorem num_all (p : Bool × Nat) : runX .idle (printD p) = (.num (prD p), []) := num_in (runs_print p) (by
  unfold printD
  split
  · simp
  · exact dec_ne _)
theorem num_step (p : Bool × Nat) (q : Nat) (hq : q < (printD p).length) {x : UInt8} (hx : (printD p)[q] = x) : errX (stepX (runX .idle ((printD p).take q)).1 x).1 = 0 ∧ (stepX (runX .idle ((printD p).take q)).1 x).2 = [] := by
  have h := num_pre p (q + 1)
  rw [runX_snoc .idle _ q hq, hx] at h
  simp only [List.append_eq_nil_iff] at h
  exact ⟨h.2, h.1.2⟩
theorem print_le (m : Bool) (v : Nat) (hv : v < 18446744073709551616) : (printD (m, v)).length ≤ 21 := by
  unfold printD
  split
  · have := nDigits_le (v + 1) (by omega)
    simp only [List.length_cons, decDigits_length]
    omega
  · have := nDigits_le v (by omega)
    rw [decDigits_length]
    simp only []
    omega
set_option maxRecDepth 100000 in
set_option maxHeartbeats 8000000 in
theorem numbers_any (m : Bool) (v : Nat) (hv : v < 18446744073709551616) (y : UInt8) (w : World) :
    Calls Try.prog 6 #[.agg #[.bool m, .int .u64 v], .int .u8 y.toNat] w fun e w' => e = .returned (.bool true) ∧ Below w.heap.size w w' := by
  obtain ⟨wA, hwA⟩ : ∃ wA, w.alloc (.cells #[.bool m, .int .u64 v] 40) = wA := ⟨_, rfl⟩
  have hBA : Below w.heap.size w wA := by rw [← hwA]; exact (Below.refl _ w).alloc (Nat.le_refl _) _
  have hPB : ∀ W', Below wA.heap.size wA W' → W'.cell? ⟨w.heap.size, 0, none⟩ = some (.bool m) ∧ W'.cell? ⟨w.heap.size, 1, none⟩ = some (.int .u64 v) := by
    intro W' hb
    have hB := Blk.below (blk_new w #[.bool m, .int .u64 v] 40) (w' := W') (B := wA.heap.size) (by rw [hwA]; exact hb) (by rw [← hwA]; simp)
    exact ⟨hB.cell 0, hB.cell 1⟩
  have PB := Lib.hid hPB
  have BA := Lib.hid hBA
  obtain ⟨l, hl⟩ : ∃ l, printD (m, v) = l := ⟨_, rfl⟩
  obtain ⟨s, hs⟩ : ∃ s : ByteArray, (⟨l.toArray⟩ : ByteArray) = s := ⟨_, rfl⟩
  have hPr : ∀ W, Calls Try.prog 13 #[.agg #[.bool m, .int .u64 v]] W fun e w' => e = .returned (.string s) ∧ Below W.heap.size W w' := fun W => by
    have := rprint_any m v hv W
    rw [hl, hs] at this
    exact this
  have hsl : s.data.toList = l := by rw [← hs]
  have hs21 : s.size ≤ 21 := by
    rw [← size_list, hsl, ← hl]
    exact print_le m v hv
  have PR := Lib.hid hPr
  have HL := Lib.hid (And.intro hl hsl)
  have HV := Lib.hid hv
  clear hPB hBA hl hs hPr hsl hv
  go_enter Try.func6, Try.ntmps6
  go_wp2_with (rw [hwA])
  refine (alive_any _).mono ?_
  rintro e w1 ⟨rfl, b1⟩
  have H0 := Lib.hid (ls_new b1)
  have H1 := Lib.hid b1
  obtain ⟨p0, p1⟩ := PB.out _ (up_alloc b1 (.cells (lxZ 0).toArray 35))
  obtain ⟨g, hg⟩ : ∃ g, w1.heap.size = g := ⟨_, rfl⟩
  obtain ⟨W, hW⟩ : ∃ W, w1.alloc (.cells #[.int .i64 0, .int .i64 0, .int .i64 0, .int .i64 0, .int .u8 0, .int .u8 0, .bool false, .int .i64 0, .int .i64 0, .int .i64 0, .string ⟨#[]⟩, .int .i64 0, .int .i64 0, .bool false, .int .u64 0, .int .u64 0, .string ⟨#[]⟩, .int .i64 0] 35) = W := ⟨_, rfl⟩
  have hW' : w1.alloc (.cells (lxZ 0).toArray 35) = W := hW
  rw [hW'] at H0 p0 p1
  rw [hg] at H0
  clear b1 hW'
  go_wp2_with (rw [hg, hW])
  refine (PR.out _).mono ?_
  rintro e w2 ⟨rfl, b2⟩
  have H2 := Lib.hid (H0.out.go b2)
  clear b2 p0 p1 H0
  go_wp2
  go_loopw [7, 8, 9] (fun i _ _ wr => ∃ q : Nat, q ≤ s.size ∧ i = .int .i64 q ∧ Hid (LS wA wr g (runX .idle (l.take q)).1)) (fun i _ _ _ => s.size - (RowKit.intOf i).toNat)
  case atStart => exact ⟨0, Nat.zero_le _, rfl, H2⟩
  case round =>
    obtain ⟨q, hq, rfl, HE⟩ := hrel
    clear H2 hwA
    by_cases hlt : q < s.size
    · obtain ⟨x, hx⟩ : ∃ x, s[q]'hlt = x := ⟨_, rfl⟩
      obtain ⟨hql, hlq⟩ := at_str HL.out.2 hlt hx
      have HN := Lib.hid (fun w' => HE.out.read (w' := w') hql hlq)
      have h12 : errX (stepX (runX .idle (l.take q)).1 x).1 = 0 ∧ (stepX (runX .idle (l.take q)).1 x).2 = [] := by
        have hh := HL.out.1
        subst hh
        exact num_step (m, v) q hql hlq
      have HS := Lib.hid (lstep_at HE.out.at_ x)
      rw [h12.1, h12.2] at HS
      clear hql hlq h12
      go_wp2_with fail
      refine HS.out.mono ?_
      rintro r w3 ⟨v1, rfl, hT, hL, hs⟩
      obtain ⟨a, c, rfl⟩ := hT.form
      have HN2 := Lib.hid (HN.out w3 hs hL)
      clear hT hL hs
      go_wp2
      go_roundw
      case rel => exact ⟨q + 1, by omega, by go_num, HN2⟩
      case measure => simp [RowKit.intOf]; omega
    · have hst : (runX .idle (l.take q)).1 = .num (prD (m, v)) := by
        have e1 : s.data.toList.length = s.size := size_list s
        rw [HL.out.2] at e1
        rw [List.take_of_length_le (by omega), ← HL.out.1, num_all]
      have HE2 : Hid (LS wA wr g (.num (prD (m, v)))) := by rw [← hst]; exact HE
      clear hst HE
      have hvv := HV.out
      by_cases hb : isBlank y.toNat = true
      · have HS := Lib.hid (lstep_at HE2.out.at_ y)
        rw [num_blank (m, v) hvv y hb] at HS
        have hy4 : y.toNat = 32 ∨ y.toNat = 10 ∨ y.toNat = 9 ∨ y.toNat = 13 := by
          simp only [isBlank, Bool.or_eq_true, beq_iff_eq] at hb
          omega
        clear hb hvv
        rcases hy4 with hy | hy | hy | hy
        · have n32 : ((y.toNat : Int) == 32) = true := by rw [beq_iff_eq]; omega
          clear hy
          go_wp2_with fail
          refine HS.out.mono ?_
          rintro r w3 ⟨v1, rfl, hT, hL, hs⟩
          have HB := Lib.hid (HE2.out.b.trans (hs.below HE2.out.new HE2.out.b.size))
          obtain ⟨p0, p1⟩ := PB.out _ HB.out
          obtain ⟨gb, off, cc, rfl, c0, c1, c2, c3⟩ := hT.cells (i := 0) (by simp)
          simp only [Nat.zero_mul, Nat.add_zero, getT, List.getElem?_cons_zero, Option.getD_some, numT] at c0 c1 c2 c3
          clear hT hL hs
          go_wp2
          go_quiet (fail)
          go_wp2
          go_ret
          exact ⟨rfl, below_dq (BA.out.trans (HB.out.mono BA.out.size)) _⟩
        · have n32 : ((y.toNat : Int) == 32) = false := by rw [beq_eq_false_iff_ne]; omega
          have n10 : ((y.toNat : Int) == 10) = true := by rw [beq_iff_eq]; omega
          clear hy
          go_wp2_with fail
          refine HS.out.mono ?_
          rintro r w3 ⟨v1, rfl, hT, hL, hs⟩
          have HB := Lib.hid (HE2.out.b.trans (hs.below HE2.out.new HE2.out.b.size))
          obtain ⟨p0, p1⟩ := PB.out _ HB.out
          obtain ⟨gb, off, cc, rfl, c0, c1, c2, c3⟩ := hT.cells (i := 0) (by simp)
          simp only [Nat.zero_mul, Nat.add_zero, getT, List.getElem?_cons_zero, Option.getD_some, numT] at c0 c1 c2 c3
          clear hT hL hs
          go_wp2
          go_quiet (fail)
          go_wp2
          go_ret
          exact ⟨rfl, below_dq (BA.out.trans (HB.out.mono BA.out.size)) _⟩
        · have n32 : ((y.toNat : Int) == 32) = false := by rw [beq_eq_false_iff_ne]; omega
          have n10 : ((y.toNat : Int) == 10) = false := by rw [beq_eq_false_iff_ne]; omega
          have n9 : ((y.toNat : Int) == 9) = true := by rw [beq_iff_eq]; omega
          clear hy
          go_wp2_with fail
          refine HS.out.mono ?_
          rintro r w3 ⟨v1, rfl, hT, hL, hs⟩
          have HB := Lib.hid (HE2.out.b.trans (hs.below HE2.out.new HE2.out.b.size))
          obtain ⟨p0, p1⟩ := PB.out _ HB.out
          obtain ⟨gb, off, cc, rfl, c0, c1, c2, c3⟩ := hT.cells (i := 0) (by simp)
          simp only [Nat.zero_mul, Nat.add_zero, getT, List.getElem?_cons_zero, Option.getD_some, numT] at c0 c1 c2 c3
          clear hT hL hs
          go_wp2
          go_quiet (fail)
          go_wp2
          go_ret
          exact ⟨rfl, below_dq (BA.out.trans (HB.out.mono BA.out.size)) _⟩
        · have n32 : ((y.toNat : Int) == 32) = false := by rw [beq_eq_false_iff_ne]; omega
          have n10 : ((y.toNat : Int) == 10) = false := by rw [beq_eq_false_iff_ne]; omega
          have n9 : ((y.toNat : Int) == 9) = false := by rw [beq_eq_false_iff_ne]; omega
          have n13 : ((y.toNat : Int) == 13) = true := by rw [beq_iff_eq]; omega
          clear hy
          go_wp2_with fail
          refine HS.out.mono ?_
          rintro r w3 ⟨v1, rfl, hT, hL, hs⟩
          have HB := Lib.hid (HE2.out.b.trans (hs.below HE2.out.new HE2.out.b.size))
          obtain ⟨p0, p1⟩ := PB.out _ HB.out
          obtain ⟨gb, off, cc, rfl, c0, c1, c2, c3⟩ := hT.cells (i := 0) (by simp)
          simp only [Nat.zero_mul, Nat.add_zero, getT, List.getElem?_cons_zero, Option.getD_some, numT] at c0 c1 c2 c3
          clear hT hL hs
          go_wp2
          go_quiet (fail)
          go_wp2
          go_ret
          exact ⟨rfl, below_dq (BA.out.trans (HB.out.mono BA.out.size)) _⟩
      by_cases hc : isSgn y.toNat = true
      · have HS := Lib.hid (lstep_at HE2.out.at_ y)
        rw [num_sign (m, v) hvv y hc] at HS
        have hb4 : y.toNat ≠ 32 ∧ y.toNat ≠ 10 ∧ y.toNat ≠ 9 ∧ y.toNat ≠ 13 := by
          simp only [isBlank, Bool.or_eq_true, beq_iff_eq] at hb
          omega
        have hy6 : y.toNat = 44 ∨ y.toNat = 93 ∨ y.toNat = 125 ∨ y.toNat = 58 ∨ y.toNat = 91 ∨ y.toNat = 123 := by
          simp only [isSgn, Bool.or_eq_true, beq_iff_eq] at hc
          omega
        clear hb hc hvv
        rcases hy6 with hy | hy | hy | hy | hy | hy
        · have n32 : ((y.toNat : Int) == 32) = false := by rw [beq_eq_false_iff_ne]; omega
          have n10 : ((y.toNat : Int) == 10) = false := by rw [beq_eq_false_iff_ne]; omega
          have n9 : ((y.toNat : Int) == 9) = false := by rw [beq_eq_false_iff_ne]; omega
          have n13 : ((y.toNat : Int) == 13) = false := by rw [beq_eq_false_iff_ne]; omega
          have n44 : ((y.toNat : Int) == 44) = true := by rw [beq_iff_eq]; omega
          clear hy hb4
          go_wp2_with fail
          refine HS.out.mono ?_
          rintro r w3 ⟨v1, rfl, hT, hL, hs⟩
          have HB := Lib.hid (HE2.out.b.trans (hs.below HE2.out.new HE2.out.b.size))
          obtain ⟨p0, p1⟩ := PB.out _ HB.out
          obtain ⟨gb, off, cc, rfl, _, _, _, _, hc⟩ := hT.win.form (by simp)
          have c2 : w3.cell? ⟨gb, off + 2, none⟩ = some (.bool m) := (hc 2 _ rfl).1
          have c3 : w3.cell? ⟨gb, off + 2 + 1, none⟩ = some (.int .u64 v) := (hc 3 _ rfl).1
          have c4 : w3.cell? ⟨gb, off + 4, none⟩ = some (.int .u8 y.toNat) := (hc 4 _ rfl).1
          clear hT hL hs hc
          go_wp2
          go_quiet (fail)
          go_wp2
          go_ret
          exact ⟨rfl, below_dq (BA.out.trans (HB.out.mono BA.out.size)) _⟩
        · have n32 : ((y.toNat : Int) == 32) = false := by rw [beq_eq_false_iff_ne]; omega
          have n10 : ((y.toNat : Int) == 10) = false := by rw [beq_eq_false_iff_ne]; omega
          have n9 : ((y.toNat : Int) == 9) = false := by rw [beq_eq_false_iff_ne]; omega
          have n13 : ((y.toNat : Int) == 13) = false := by rw [beq_eq_false_iff_ne]; omega
          have n44 : ((y.toNat : Int) == 44) = false := by rw [beq_eq_false_iff_ne]; omega
          have n93 : ((y.toNat : Int) == 93) = true := by rw [beq_iff_eq]; omega
          clear hy hb4
          go_wp2_with fail
          refine HS.out.mono ?_
          rintro r w3 ⟨v1, rfl, hT, hL, hs⟩
          have HB := Lib.hid (HE2.out.b.trans (hs.below HE2.out.new HE2.out.b.size))
          obtain ⟨p0, p1⟩ := PB.out _ HB.out
          obtain ⟨gb, off, cc, rfl, _, _, _, _, hc⟩ := hT.win.form (by simp)
          have c2 : w3.cell? ⟨gb, off + 2, none⟩ = some (.bool m) := (hc 2 _ rfl).1
          have c3 : w3.cell? ⟨gb, off + 2 + 1, none⟩ = some (.int .u64 v) := (hc 3 _ rfl).1
          have c4 : w3.cell? ⟨gb, off + 4, none⟩ = some (.int .u8 y.toNat) := (hc 4 _ rfl).1
          clear hT hL hs hc
          go_wp2
          go_quiet (fail)
          go_wp2
          go_ret
          exact ⟨rfl, below_dq (BA.out.trans (HB.out.mono BA.out.size)) _⟩
        · have n32 : ((y.toNat : Int) == 32) = false := by rw [beq_eq_false_iff_ne]; omega
          have n10 : ((y.toNat : Int) == 10) = false := by rw [beq_eq_false_iff_ne]; omega
          have n9 : ((y.toNat : Int) == 9) = false := by rw [beq_eq_false_iff_ne]; omega
          have n13 : ((y.toNat : Int) == 13) = false := by rw [beq_eq_false_iff_ne]; omega
          have n44 : ((y.toNat : Int) == 44) = false := by rw [beq_eq_false_iff_ne]; omega
          have n93 : ((y.toNat : Int) == 93) = false := by rw [beq_eq_false_iff_ne]; omega
          have n125 : ((y.toNat : Int) == 125) = true := by rw [beq_iff_eq]; omega
          clear hy hb4
          go_wp2_with fail
          refine HS.out.mono ?_
          rintro r w3 ⟨v1, rfl, hT, hL, hs⟩
          have HB := Lib.hid (HE2.out.b.trans (hs.below HE2.out.new HE2.out.b.size))
          obtain ⟨p0, p1⟩ := PB.out _ HB.out
          obtain ⟨gb, off, cc, rfl, _, _, _, _, hc⟩ := hT.win.form (by simp)
          have c2 : w3.cell? ⟨gb, off + 2, none⟩ = some (.bool m) := (hc 2 _ rfl).1
          have c3 : w3.cell? ⟨gb, off + 2 + 1, none⟩ = some (.int .u64 v) := (hc 3 _ rfl).1
          have c4 : w3.cell? ⟨gb, off + 4, none⟩ = some (.int .u8 y.toNat) := (hc 4 _ rfl).1
          clear hT hL hs hc
          go_wp2
          go_quiet (fail)
          go_wp2
          go_ret
          exact ⟨rfl, below_dq (BA.out.trans (HB.out.mono BA.out.size)) _⟩
        · have n32 : ((y.toNat : Int) == 32) = false := by rw [beq_eq_false_iff_ne]; omega
          have n10 : ((y.toNat : Int) == 10) = false := by rw [beq_eq_false_iff_ne]; omega
          have n9 : ((y.toNat : Int) == 9) = false := by rw [beq_eq_false_iff_ne]; omega
          have n13 : ((y.toNat : Int) == 13) = false := by rw [beq_eq_false_iff_ne]; omega
          have n44 : ((y.toNat : Int) == 44) = false := by rw [beq_eq_false_iff_ne]; omega
          have n93 : ((y.toNat : Int) == 93) = false := by rw [beq_eq_false_iff_ne]; omega
          have n125 : ((y.toNat : Int) == 125) = false := by rw [beq_eq_false_iff_ne]; omega
          have n58 : ((y.toNat : Int) == 58) = true := by rw [beq_iff_eq]; omega
          clear hy hb4
          go_wp2_with fail
          refine HS.out.mono ?_
          rintro r w3 ⟨v1, rfl, hT, hL, hs⟩
          have HB := Lib.hid (HE2.out.b.trans (hs.below HE2.out.new HE2.out.b.size))
          obtain ⟨p0, p1⟩ := PB.out _ HB.out
          obtain ⟨gb, off, cc, rfl, _, _, _, _, hc⟩ := hT.win.form (by simp)
          have c2 : w3.cell? ⟨gb, off + 2, none⟩ = some (.bool m) := (hc 2 _ rfl).1
          have c3 : w3.cell? ⟨gb, off + 2 + 1, none⟩ = some (.int .u64 v) := (hc 3 _ rfl).1
          have c4 : w3.cell? ⟨gb, off + 4, none⟩ = some (.int .u8 y.toNat) := (hc 4 _ rfl).1
          clear hT hL hs hc
          go_wp2
          go_quiet (fail)
          go_wp2
          go_ret
          exact ⟨rfl, below_dq (BA.out.trans (HB.out.mono BA.out.size)) _⟩
        · have n32 : ((y.toNat : Int) == 32) = false := by rw [beq_eq_false_iff_ne]; omega
          have n10 : ((y.toNat : Int) == 10) = false := by rw [beq_eq_false_iff_ne]; omega
          have n9 : ((y.toNat : Int) == 9) = false := by rw [beq_eq_false_iff_ne]; omega
          have n13 : ((y.toNat : Int) == 13) = false := by rw [beq_eq_false_iff_ne]; omega
          have n44 : ((y.toNat : Int) == 44) = false := by rw [beq_eq_false_iff_ne]; omega
          have n93 : ((y.toNat : Int) == 93) = false := by rw [beq_eq_false_iff_ne]; omega
          have n125 : ((y.toNat : Int) == 125) = false := by rw [beq_eq_false_iff_ne]; omega
          have n58 : ((y.toNat : Int) == 58) = false := by rw [beq_eq_false_iff_ne]; omega
          have n91 : ((y.toNat : Int) == 91) = true := by rw [beq_iff_eq]; omega
          clear hy hb4
          go_wp2_with fail
          refine HS.out.mono ?_
          rintro r w3 ⟨v1, rfl, hT, hL, hs⟩
          have HB := Lib.hid (HE2.out.b.trans (hs.below HE2.out.new HE2.out.b.size))
          obtain ⟨p0, p1⟩ := PB.out _ HB.out
          obtain ⟨gb, off, cc, rfl, _, _, _, _, hc⟩ := hT.win.form (by simp)
          have c2 : w3.cell? ⟨gb, off + 2, none⟩ = some (.bool m) := (hc 2 _ rfl).1
          have c3 : w3.cell? ⟨gb, off + 2 + 1, none⟩ = some (.int .u64 v) := (hc 3 _ rfl).1
          have c4 : w3.cell? ⟨gb, off + 4, none⟩ = some (.int .u8 y.toNat) := (hc 4 _ rfl).1
          clear hT hL hs hc
          go_wp2
          go_quiet (fail)
          go_wp2
          go_ret
          exact ⟨rfl, below_dq (BA.out.trans (HB.out.mono BA.out.size)) _⟩
        · have n32 : ((y.toNat : Int) == 32) = false := by rw [beq_eq_false_iff_ne]; omega
          have n10 : ((y.toNat : Int) == 10) = false := by rw [beq_eq_false_iff_ne]; omega
          have n9 : ((y.toNat : Int) == 9) = false := by rw [beq_eq_false_iff_ne]; omega
          have n13 : ((y.toNat : Int) == 13) = false := by rw [beq_eq_false_iff_ne]; omega
          have n44 : ((y.toNat : Int) == 44) = false := by rw [beq_eq_false_iff_ne]; omega
          have n93 : ((y.toNat : Int) == 93) = false := by rw [beq_eq_false_iff_ne]; omega
          have n125 : ((y.toNat : Int) == 125) = false := by rw [beq_eq_false_iff_ne]; omega
          have n58 : ((y.toNat : Int) == 58) = false := by rw [beq_eq_false_iff_ne]; omega
          have n91 : ((y.toNat : Int) == 91) = false := by rw [beq_eq_false_iff_ne]; omega
          have n123 : ((y.toNat : Int) == 123) = true := by rw [beq_iff_eq]; omega
          clear hy hb4
          go_wp2_with fail
          refine HS.out.mono ?_
          rintro r w3 ⟨v1, rfl, hT, hL, hs⟩
          have HB := Lib.hid (HE2.out.b.trans (hs.below HE2.out.new HE2.out.b.size))
          obtain ⟨p0, p1⟩ := PB.out _ HB.out
          obtain ⟨gb, off, cc, rfl, _, _, _, _, hc⟩ := hT.win.form (by simp)
          have c2 : w3.cell? ⟨gb, off + 2, none⟩ = some (.bool m) := (hc 2 _ rfl).1
          have c3 : w3.cell? ⟨gb, off + 2 + 1, none⟩ = some (.int .u64 v) := (hc 3 _ rfl).1
          have c4 : w3.cell? ⟨gb, off + 4, none⟩ = some (.int .u8 y.toNat) := (hc 4 _ rfl).1
          clear hT hL hs hc
          go_wp2
          go_quiet (fail)
          go_wp2
          go_ret
          exact ⟨rfl, below_dq (BA.out.trans (HB.out.mono BA.out.size)) _⟩
      have HS := Lib.hid (lfin_at HE2.out.at_)
      have he : endS (.num (prD (m, v))) = .idle := by
        simp only [endS]
        rw [end_print (m, v) hvv, if_neg (by simp)]
      rw [num_end (m, v) hvv, he] at HS
      simp only [isBlank, isSgn, Bool.or_eq_true, beq_iff_eq] at hb hc
      have n32 : ((y.toNat : Int) == 32) = false := by rw [beq_eq_false_iff_ne]; omega
      have n10 : ((y.toNat : Int) == 10) = false := by rw [beq_eq_false_iff_ne]; omega
      have n9 : ((y.toNat : Int) == 9) = false := by rw [beq_eq_false_iff_ne]; omega
      have n13 : ((y.toNat : Int) == 13) = false := by rw [beq_eq_false_iff_ne]; omega
      have n44 : ((y.toNat : Int) == 44) = false := by rw [beq_eq_false_iff_ne]; omega
      have n93 : ((y.toNat : Int) == 93) = false := by rw [beq_eq_false_iff_ne]; omega
      have n125 : ((y.toNat : Int) == 125) = false := by rw [beq_eq_false_iff_ne]; omega
      have n58 : ((y.toNat : Int) == 58) = false := by rw [beq_eq_false_iff_ne]; omega
      have n91 : ((y.toNat : Int) == 91) = false := by rw [beq_eq_false_iff_ne]; omega
      have n123 : ((y.toNat : Int) == 123) = false := by rw [beq_eq_false_iff_ne]; omega
      clear hb hc hvv he
      go_wp2_with fail
      refine HS.out.mono ?_
      rintro r w3 ⟨v1, rfl, hT, hL, hs⟩
      have HB := Lib.hid (HE2.out.b.trans (hs.below HE2.out.new HE2.out.b.size))
      have HT := Lib.hid hT
      have HF2 := Lib.hid (lfin_at hL)
      have HLT := Lib.hid hL.lt
      obtain ⟨a1, c1', rfl⟩ := hT.form
      clear hT hL hs
      go_wp2_with fail
      refine HF2.out.mono ?_
      rintro r w4 ⟨v2, rfl, hT2, hL2, hs2⟩
      have HB4 := Lib.hid (HB.out.trans (hs2.below HE2.out.new HB.out.size))
      have hT3 := HT.out.keep (w' := w4) (fun k hk h0 => hs2.step.block k hk (by have := HE2.out.at_.lt; simp only [List.mem_singleton]; omega))
      obtain ⟨p0, p1⟩ := PB.out _ HB4.out
      obtain ⟨gb, off, cc, hv1, _, _, _, _, hcc⟩ := hT3.win.form (by simp)
      injection hv1 with hv1 hv2 hv3
      subst hv1
      have c2 : w4.cell? ⟨gb, off + 2, none⟩ = some (.bool m) := (hcc 2 _ rfl).1
      have c3 : w4.cell? ⟨gb, off + 2 + 1, none⟩ = some (.int .u64 v) := (hcc 3 _ rfl).1
      obtain ⟨a2, c2', rfl⟩ := hT2.form
      clear hT2 hL2 hs2 hT3 hcc hv2 hv3
      go_wp2
      go_quiet (fail)
      go_wp2
      go_ret
      exact ⟨rfl, below_dq (BA.out.trans (HB4.out.mono BA.out.size)) _⟩
end Go.Proofs.Yteonbajndghfcaa
