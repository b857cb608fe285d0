/-
  LAWS of chapter 10: LexerOpens.
-/
import Derived.Test.YteonbajndghfcaaLexLawsA
namespace Go.Proofs.Yteonbajndghfcaa
open Go.RowKit
open Go.Lib
theorem wrap64_of {x : Int} (h : -9223372036854775808 ≤ x ∧ x ≤ 9223372036854775807) : wrap64 x = x := by
  first | (rw [wrap64]; omega) | (unfold wrap64; omega) | (simp only [wrap64, IntKind.wrap_i64]; omega)
/-- '(at%n + n) % n' -/
theorem rem_place (a : Int) (n : Nat) (hn : 0 < n) (hm : n ≤ 1000000) : ∃ k : Nat, k < n ∧ ((wrap64 (a.tmod n + n)).tmod n) = (k : Int) := by
  have h1 := Int.tmod_lt_of_pos a (show (0 : Int) < n by omega)
  have h2 : -(n : Int) < a.tmod n := by
    have := Int.lt_tmod_of_pos a (show (0 : Int) < n by omega)
    exact this
  have hw : wrap64 (a.tmod n + n) = a.tmod n + n := wrap64_of (by omega)
  rw [hw]
  have h3 : 0 ≤ a.tmod n + n := by omega
  have h4 := Int.tmod_nonneg (n : Int) h3
  have h5 := Int.tmod_lt_of_pos (a.tmod n + n) (show (0 : Int) < n by omega)
  exact ⟨((a.tmod n + n).tmod n).toNat, by omega, by omega⟩
/-- '(at%(n+1) + n + 1) % (n+1)' -/
theorem rem_more (a : Int) (n : Nat) (hm : n ≤ 1000000) : ∃ k : Nat, k ≤ n ∧ ((wrap64 (wrap64 (a.tmod ((n : Int) + 1) + n) + 1)).tmod ((n : Int) + 1)) = (k : Int) := by
  have h1 := Int.tmod_lt_of_pos a (show (0 : Int) < (n : Int) + 1 by omega)
  have h2 : -((n : Int) + 1) < a.tmod ((n : Int) + 1) := Int.lt_tmod_of_pos a (show (0 : Int) < (n : Int) + 1 by omega)
  have hw : wrap64 (a.tmod ((n : Int) + 1) + n) = a.tmod ((n : Int) + 1) + n := wrap64_of (by omega)
  have hw2 : wrap64 (a.tmod ((n : Int) + 1) + n + 1) = a.tmod ((n : Int) + 1) + n + 1 := wrap64_of (by omega)
  rw [hw, hw2]
  have h3 : 0 ≤ a.tmod ((n : Int) + 1) + n + 1 := by omega
  have h4 := Int.tmod_nonneg ((n : Int) + 1) h3
  have h5 := Int.tmod_lt_of_pos (a.tmod ((n : Int) + 1) + n + 1) (show (0 : Int) < (n : Int) + 1 by omega)
  exact ⟨((a.tmod ((n : Int) + 1) + n + 1).tmod ((n : Int) + 1)).toNat, by omega, by omega⟩
def fiveL : List (List UInt8) := [[34, 97, 98, 34], [116, 114, 117, 101], [110, 117, 108, 108], [91], [34, 92, 110, 34]]
structure OpenX (l : List UInt8) : Prop where
  pos : 0 < l.length
  le : l.length ≤ 7
  ok : ∀ i, i < l.length → errX (runX .idle (l.take (i + 1))).1 = 0
  fin : ∀ m, m ≤ l.length → endX (runX .idle (l.take m)).1 = ([], if m = 0 ∨ m = l.length then 0 else 3)
def openXB (l : List UInt8) : Bool := decide (0 < l.length) && decide (l.length ≤ 7) && ((List.range l.length).all fun i => errX (runX .idle (l.take (i + 1))).1 == 0) &&
  ((List.range (l.length + 1)).all fun m => decide (endX (runX .idle (l.take m)).1 = ([], if m = 0 ∨ m = l.length then 0 else 3)))
theorem five_ok : fiveL.all openXB = true := by decide +kernel
theorem openX_of {l : List UInt8} (h : openXB l = true) : OpenX l := by
  unfold openXB at h
  simp only [Bool.and_eq_true, decide_eq_true_eq, List.all_eq_true, List.mem_range, beq_iff_eq] at h
  exact ⟨h.1.1.1, h.1.1.2, fun i hi => h.1.2 i hi, fun m hm => h.2 m (by omega)⟩
theorem five_at (j : Nat) (hj : j < 5) : ∃ l, fiveL[j]? = some l ∧ OpenX l := by
  have h1 : j < fiveL.length := hj
  have h2 := List.all_eq_true.1 five_ok fiveL[j] (List.getElem_mem h1)
  exact ⟨fiveL[j], List.getElem?_eq_getElem h1, openX_of h2⟩
abbrev fiveCells : Array Value := #[.string ⟨#[34, 97, 98, 34]⟩, .string ⟨#[116, 114, 117, 101]⟩, .string ⟨#[110, 117, 108, 108]⟩, .string ⟨#[91]⟩, .string ⟨#[34, 92, 110, 34]⟩]
theorem five_cells (j : Nat) (l : List UInt8) (h : fiveL[j]? = some l) : fiveCells[j]? = some (.string ⟨l.toArray⟩) := by
  match j, h with
  | 0, h => cases h; rfl
  | 1, h => cases h; rfl
  | 2, h => cases h; rfl
  | 3, h => cases h; rfl
  | 4, h => cases h; rfl
set_option maxRecDepth 100000 in
set_option maxHeartbeats 4000000 in
theorem opens_any (k n : Int) (w : World) :
    Calls Try.prog 7 #[.int .i64 k, .int .i64 n] w fun e w' => e = .returned (.bool true) ∧ Below w.heap.size w w' := by
  obtain ⟨j, hj5, hj⟩ := rem_place k 5 (by omega) (by omega)
  obtain ⟨l, hl, hO⟩ := five_at j hj5
  have hcs := five_cells j l hl
  obtain ⟨s, hs⟩ : ∃ s : ByteArray, s = ⟨l.toArray⟩ := ⟨_, rfl⟩
  have hsl : s.data.toList = l := by rw [hs]
  have hsz : s.size = l.length := by rw [← size_list, hsl]
  rw [← hs] at hcs
  have hcell : ∀ h, fiveCells.toList[j]'h = .string s := by
    intro h
    have := hcs
    rw [← Array.getElem?_toList, List.getElem?_eq_getElem h] at this
    injection this
  unfold fiveCells at hcell
  simp only [] at hcell
  have hj' : (wrap64 (k.tmod 5 + 5)).tmod 5 = (j : Int) := hj
  have HC := Lib.hid hcell
  have hs7 : s.size ≤ 7 := by rw [hsz]; exact hO.le
  obtain ⟨m, hm, hmz⟩ := rem_more n s.size (by omega)
  have HM := Lib.hid (And.intro hm hmz)
  have HO := Lib.hid (And.intro hO (And.intro hsl hsz))
  clear hj hcs hs hl hO hcell hsl hsz hm hmz
  go_enter Try.func7, Try.ntmps7
  go_wp2_with fail
  rw [HC.out]
  refine (alive_any _).mono ?_
  rintro e w1 ⟨rfl, b1⟩
  have B1 : Hid (Below w.heap.size w w1) := Lib.hid (((Below.refl _ w).alloc (Nat.le_refl _) _).trans (b1.mono (by simp)))
  clear b1
  have H0 := Lib.hid (ls_new B1.out)
  have hz0 : ((s.size : Int) + 1 == 0) = false := by rw [beq_eq_false_iff_ne]; omega
  have hmz := HM.out.2
  have hml := HM.out.1
  go_wp2
  obtain ⟨g, hg⟩ : ∃ g, w1.heap.size = g := ⟨_, rfl⟩
  have hnew : w1.alloc (.cells #[.int .i64 0, .int .i64 0, .int .i64 0, .int .i64 0, .int .u8 0, .int .u8 0, .bool false, .int .i64 0, .int .i64 0, .int .i64 0, .string ⟨#[]⟩, .int .i64 0, .int .i64 0, .bool false, .int .u64 0, .int .u64 0, .string ⟨#[]⟩, .int .i64 0] 35) = w1.alloc (.cells (lxZ 0).toArray 35) := rfl
  rw [hg] at H0 ⊢
  rw [hnew]
  generalize w1.alloc (.cells (lxZ 0).toArray 35) = W at H0 ⊢
  clear hg hnew hmz hz0
  go_loopw [8, 9, 10] (fun i _ _ wr => ∃ q : Nat, q ≤ m ∧ i = .int .i64 q ∧ Hid (LS w wr g (runX .idle (l.take q)).1)) (fun i _ _ _ => m - (RowKit.intOf i).toNat)
  case atStart => exact ⟨0, Nat.zero_le _, rfl, H0⟩
  case round =>
    obtain ⟨q, hq, rfl, HE⟩ := hrel
    clear H0
    by_cases hlt : q < m
    · have hqs : q < s.size := by omega
      obtain ⟨x, hx⟩ : ∃ x, s[q]'hqs = x := ⟨_, rfl⟩
      obtain ⟨hO, hsl, hsz⟩ := HO.out
      have hql : q < l.length := by omega
      have hlq : l[q] = x := by
        have : s.data.toList[q]'(by rw [size_list]; exact hqs) = x := hx
        simp only [hsl] at this
        exact this
      have hsn := runX_snoc .idle l q hql
      have h1 := hO.ok q hql
      rw [hsn, hlq] at h1
      rw [hlq] at hsn
      have HF := Lib.hid hsn
      have HZ := Lib.hid h1
      have HS := Lib.hid (lstep_at HE.out.at_ x)
      clear hO hsl hsz hlq hsn h1 hql
      rw [HZ.out] at HS
      go_wp2_with fail
      refine HS.out.mono ?_
      rintro r w2 ⟨v, rfl, hT, hL, hs⟩
      have HN : Hid (LS w w2 g (runX .idle (l.take (q + 1))).1) := Lib.hid (by rw [HF.out]; exact HE.out.step hs hL)
      clear hT hL hs
      go_wp2
      go_roundw
      case rel => exact ⟨q + 1, by omega, by go_num, HN⟩
      case measure => simp [RowKit.intOf]; omega
    · obtain rfl : q = m := by omega
      obtain ⟨hO, hsl, hsz⟩ := HO.out
      have hfin := hO.fin q (by omega)
      have HS := Lib.hid (lfin_at HE.out.at_)
      rw [hfin] at HS
      rw [← hsz] at HS
      clear hO hsl hsz hfin
      by_cases h0 : q = 0
      · subst h0
        rw [if_pos (.inl rfl)] at HS
        go_wp2_with fail
        refine HS.out.mono ?_
        rintro r w2 ⟨v, rfl, hT, hL, hs⟩
        obtain ⟨a, c, rfl⟩ := hT.form
        have HB : Hid (Below w.heap.size w w2) := Lib.hid (HE.out.b.trans (hs.below HE.out.new HE.out.b.size))
        clear hT hL hs
        go_wp2
        go_ret
        exact ⟨rfl, HB.out⟩
      · have hq0 : ((q : Int) == 0) = false := by rw [beq_eq_false_iff_ne]; omega
        by_cases h1 : q = s.size
        · have hq1 : ((q : Int) == (s.size : Int)) = true := by rw [beq_iff_eq]; omega
          rw [if_pos (.inr h1)] at HS
          clear h1 h0
          go_wp2_with fail
          refine HS.out.mono ?_
          rintro r w2 ⟨v, rfl, hT, hL, hs⟩
          obtain ⟨a, c, rfl⟩ := hT.form
          have HB : Hid (Below w.heap.size w w2) := Lib.hid (HE.out.b.trans (hs.below HE.out.new HE.out.b.size))
          clear hT hL hs
          go_wp2
          go_ret
          exact ⟨rfl, HB.out⟩
        · have hq1 : ((q : Int) == (s.size : Int)) = false := by rw [beq_eq_false_iff_ne]; omega
          rw [if_neg (by omega)] at HS
          clear h1 h0
          go_wp2_with fail
          refine HS.out.mono ?_
          rintro r w2 ⟨v, rfl, hT, hL, hs⟩
          obtain ⟨a, c, rfl⟩ := hT.form
          have HB : Hid (Below w.heap.size w w2) := Lib.hid (HE.out.b.trans (hs.below HE.out.new HE.out.b.size))
          clear hT hL hs
          go_wp2
          go_ret
          exact ⟨rfl, HB.out⟩
end Go.Proofs.Yteonbajndghfcaa
