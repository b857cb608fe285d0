/-
  LAWS of chapter 10: LexerWords.
-/
import Derived.Test.YteonbajndghfcaaLexLawsB
namespace Go.Proofs.Yteonbajndghfcaa
open Go.RowKit
open Go.Lib
theorem bits_xor_u8 (a b : Nat) (ha : a < 256) (hb : b < 256) : bits .xor .u8 (a : Int) (b : Int) = ((a ^^^ b : Nat) : Int) := by
  have hx : a ^^^ b < 2 ^ 8 := Nat.xor_lt_two_pow (by omega) (by omega)
  have h1 : (BitVec.ofInt 8 (a : Int)).toNat = a := by
    rw [BitVec.ofInt_natCast, BitVec.toNat_ofNat]; exact Nat.mod_eq_of_lt (by omega)
  have h2 : (BitVec.ofInt 8 (b : Int)).toNat = b := by
    rw [BitVec.ofInt_natCast, BitVec.toNat_ofNat]; exact Nat.mod_eq_of_lt (by omega)
  show IntKind.u8.wrap ((BitVec.ofInt 8 (a : Int) ^^^ BitVec.ofInt 8 (b : Int)).toNat : Int) = _
  rw [BitVec.toNat_xor, h1, h2]
  exact wrap_u8_of _ (by omega) (by omega)
theorem xor_ne (a b : Nat) (hb : b ≠ 0) : a ^^^ b ≠ a := fun h => hb (by
  have : a ^^^ (a ^^^ b) = a ^^^ a := by rw [h]
  rw [← Nat.xor_assoc, Nat.xor_self, Nat.zero_xor] at this
  exact this)
/-- '1 + (at%(n-1) + n - 1) % (n-1)' -/
theorem rem_less (a : Int) (n : Nat) (h2 : 2 ≤ n) (hm : n ≤ 1000000) : ∃ k : Nat, 1 + k < n ∧ ((wrap64 (wrap64 (a.tmod ((n : Int) - 1) + n) - 1)).tmod ((n : Int) - 1)) = (k : Int) := by
  have h1 := Int.tmod_lt_of_pos a (show (0 : Int) < (n : Int) - 1 by omega)
  have h2 : -((n : Int) - 1) < a.tmod ((n : Int) - 1) := Int.lt_tmod_of_pos a (show (0 : Int) < (n : Int) - 1 by omega)
  have hw : wrap64 (a.tmod ((n : Int) - 1) + n) = a.tmod ((n : Int) - 1) + n := wrap64_of (by omega)
  have hw2 : wrap64 (a.tmod ((n : Int) - 1) + n - 1) = a.tmod ((n : Int) - 1) + n - 1 := wrap64_of (by omega)
  rw [hw, hw2]
  have h3 : 0 ≤ a.tmod ((n : Int) - 1) + n - 1 := by omega
  have h4 := Int.tmod_nonneg ((n : Int) - 1) h3
  have h5 := Int.tmod_lt_of_pos (a.tmod ((n : Int) - 1) + n - 1) (show (0 : Int) < (n : Int) - 1 by omega)
  exact ⟨((a.tmod ((n : Int) - 1) + n - 1).tmod ((n : Int) - 1)).toNat, by omega, by omega⟩
theorem getD_at0 (l : List UInt8) (i : Nat) (h : i < l.length) : l.getD i 0 = l[i] := by simp [List.getD, h]
def threeL : List (List UInt8) := [[116, 114, 117, 101], [102, 97, 108, 115, 101], [110, 117, 108, 108]]
def isWord (s : Lx) (x : Nat) : Bool := match s with
  | .word _ (y :: _) => y == x
  | _ => false
theorem isWord_bad {s : Lx} {x : Nat} (h : isWord s x = true) (b : UInt8) (hb : b.toNat ≠ x) : stepX s b = (.bad 2, []) := by
  match s, h with
  | .word k (y :: q), h =>
    obtain rfl : y = x := by simpa [isWord] using h
    exact word_off k y q b hb
structure WordX (l : List UInt8) : Prop where
  lo : 4 ≤ l.length
  hi : l.length ≤ 5
  ok : ∀ i (h : i < l.length), errX (stepX (runX .idle (l.take i)).1 l[i]).1 = 0 ∧ (stepX (runX .idle (l.take i)).1 l[i]).2.length = if i + 1 = l.length then 1 else 0
  mid : ∀ n (h : n < l.length), 1 ≤ n → isWord (runX .idle (l.take n)).1 l[n].toNat = true
def wordXB (l : List UInt8) : Bool := decide (4 ≤ l.length) && decide (l.length ≤ 5) && ((List.range l.length).all fun i => errX (stepX (runX .idle (l.take i)).1 (l.getD i 0)).1 == 0 && (stepX (runX .idle (l.take i)).1 (l.getD i 0)).2.length == if i + 1 = l.length then 1 else 0) &&
  ((List.range l.length).all fun n => decide (n = 0) || isWord (runX .idle (l.take n)).1 (l.getD n 0).toNat)
theorem three_ok : threeL.all wordXB = true := by decide +kernel
theorem wordX_of {l : List UInt8} (h : wordXB l = true) : WordX l := by
  unfold wordXB at h
  simp only [Bool.and_eq_true, Bool.or_eq_true, decide_eq_true_eq, List.all_eq_true, List.mem_range, beq_iff_eq] at h
  refine ⟨h.1.1.1, h.1.1.2, fun i hi => ?_, fun n hn h1 => ?_⟩
  · have := h.1.2 i hi
    rw [getD_at0 l i hi] at this
    exact this
  · have := h.2 n hn
    rw [getD_at0 l n hn] at this
    rcases this with h0 | h0
    · omega
    · exact h0
theorem three_at (j : Nat) (hj : j < 3) : ∃ l, threeL[j]? = some l ∧ WordX l := by
  have h1 : j < threeL.length := hj
  have h2 := List.all_eq_true.1 three_ok threeL[j] (List.getElem_mem h1)
  exact ⟨threeL[j], List.getElem?_eq_getElem h1, wordX_of h2⟩
abbrev threeCells : Array Value := #[.string ⟨#[116, 114, 117, 101]⟩, .string ⟨#[102, 97, 108, 115, 101]⟩, .string ⟨#[110, 117, 108, 108]⟩]
theorem three_cells (j : Nat) (l : List UInt8) (h : threeL[j]? = some l) : threeCells[j]? = some (.string ⟨l.toArray⟩) := by
  match j, h with
  | 0, h => cases h; rfl
  | 1, h => cases h; rfl
  | 2, h => cases h; rfl
/-- A Lexer of a law's own that reads a text so far. -/
theorem LS.read {w wr w' : World} {g : Nat} {l : List UInt8} {q : Nat} (hq : q < l.length) {x : UInt8} (hx : l[q] = x) (h : LS w wr g (runX .idle (l.take q)).1) (k : Sub g 0 18 wr w') (hl : LAt w' g 0 (stepX (runX .idle (l.take q)).1 x).1) : LS w w' g (runX .idle (l.take (q + 1))).1 := by
  rw [runX_snoc .idle l q hq, hx]
  exact h.step k hl
theorem at_str {s : ByteArray} {l : List UInt8} (h : s.data.toList = l) {q : Nat} (hq : q < s.size) {x : UInt8} (hx : s[q]'hq = x) : ∃ h : q < l.length, l[q] = x := by
  have hl : q < l.length := by rw [← h, size_list]; exact hq
  refine ⟨hl, ?_⟩
  have : s.data.toList[q]'(by rw [size_list]; exact hq) = x := hx
  simp only [h] at this
  exact this
set_option maxRecDepth 100000 in
set_option maxHeartbeats 4000000 in
theorem words_any (k at_ y : Int) (w : World) (hy : 0 ≤ y ∧ y ≤ 255) :
    Calls Try.prog 4 #[.int .i64 k, .int .i64 at_, .int .u8 y] w fun e w' => e = .returned (.bool true) ∧ Below w.heap.size w w' := by
  obtain ⟨j, hj5, hj⟩ := rem_place k 3 (by omega) (by omega)
  obtain ⟨l, hl, hO⟩ := three_at j hj5
  have hcs := three_cells j l hl
  obtain ⟨s, hs⟩ : ∃ s : ByteArray, s = ⟨l.toArray⟩ := ⟨_, rfl⟩
  have hsl : s.data.toList = l := by rw [hs]
  have hsz : s.size = l.length := by rw [← size_list, hsl]
  rw [← hs] at hcs
  have hcell : ∀ h, threeCells.toList[j]'h = .string s := by
    intro h
    have := hcs
    rw [← Array.getElem?_toList, List.getElem?_eq_getElem h] at this
    injection this
  unfold threeCells at hcell
  simp only [] at hcell
  have hj' : (wrap64 (k.tmod 3 + 3)).tmod 3 = (j : Int) := hj
  have HC := Lib.hid hcell
  have hs4 : 4 ≤ s.size := by rw [hsz]; exact hO.lo
  have hs5 : s.size ≤ 5 := by rw [hsz]; exact hO.hi
  obtain ⟨n, hn, hnz⟩ := rem_less at_ s.size (by omega) (by omega)
  have HM := Lib.hid (And.intro hn hnz)
  have HO := Lib.hid (And.intro hO (And.intro hsl hsz))
  clear hj hcs hs hl hO hcell hsl hsz hn hnz
  go_enter Try.func4, Try.ntmps4
  go_wp2_with fail
  rw [HC.out]
  refine (alive_any _).mono ?_
  rintro e w1 ⟨rfl, b1⟩
  have B1 : Hid (Below w.heap.size w w1) := Lib.hid (((Below.refl _ w).alloc (Nat.le_refl _) _).trans (b1.mono (by simp)))
  clear b1
  have H0 := Lib.hid (ls_new B1.out)
  go_wp2
  obtain ⟨g, hg⟩ : ∃ g, w1.heap.size = g := ⟨_, rfl⟩
  have hnew : w1.alloc (.cells #[.int .i64 0, .int .i64 0, .int .i64 0, .int .i64 0, .int .u8 0, .int .u8 0, .bool false, .int .i64 0, .int .i64 0, .int .i64 0, .string ⟨#[]⟩, .int .i64 0, .int .i64 0, .bool false, .int .u64 0, .int .u64 0, .string ⟨#[]⟩, .int .i64 0] 35) = w1.alloc (.cells (lxZ 0).toArray 35) := rfl
  rw [hg] at H0 ⊢
  rw [hnew]
  generalize w1.alloc (.cells (lxZ 0).toArray 35) = W at H0 ⊢
  clear hg hnew
  go_loopw [9, 10, 11] (fun i _ _ wr => ∃ q : Nat, q ≤ s.size ∧ i = .int .i64 q ∧ Hid (LS w wr g (runX .idle (l.take q)).1)) (fun i _ _ _ => s.size - (RowKit.intOf i).toNat)
  case atStart => exact ⟨0, Nat.zero_le _, rfl, H0⟩
  case round =>
    obtain ⟨q, hq, rfl, HE⟩ := hrel
    clear H0
    by_cases hlt : q < s.size
    · obtain ⟨x, hx⟩ : ∃ x, s[q]'hlt = x := ⟨_, rfl⟩
      obtain ⟨hO, hsl, hsz⟩ := HO.out
      obtain ⟨hql, hlq⟩ := at_str hsl hlt hx
      have HN := Lib.hid (fun w' => HE.out.read (w' := w') hql hlq)
      obtain ⟨h1, h2⟩ := hO.ok q hql
      rw [hlq] at h1 h2
      have HZ := Lib.hid h1
      have HT2 := Lib.hid h2
      have HS := Lib.hid (lstep_at HE.out.at_ x)
      by_cases hl1 : q + 1 = s.size
      · have hz1 : ((q : Int) == (s.size : Int) - 1) = true := by rw [beq_iff_eq]; omega
        rw [if_pos (by omega)] at HT2
        clear hO hsl hsz hlq h1 h2 hql hl1
        rw [HZ.out] at HS
        go_wp2_with fail
        refine HS.out.mono ?_
        rintro r w2 ⟨v, rfl, hT, hL, hs⟩
        obtain ⟨a, c, rfl⟩ := hT.form
        have HN2 := Lib.hid (HN.out w2 hs hL)
        clear hT hL hs
        rw [HT2.out]
        go_wp2
        go_roundw
        case rel => exact ⟨q + 1, by omega, by go_num, HN2⟩
        case measure => simp [RowKit.intOf]; omega
      · have hz1 : ((q : Int) == (s.size : Int) - 1) = false := by rw [beq_eq_false_iff_ne]; omega
        rw [if_neg (by omega)] at HT2
        clear hO hsl hsz hlq h1 h2 hql hl1
        rw [HZ.out] at HS
        go_wp2_with fail
        refine HS.out.mono ?_
        rintro r w2 ⟨v, rfl, hT, hL, hs⟩
        obtain ⟨a, c, rfl⟩ := hT.form
        have HN2 := Lib.hid (HN.out w2 hs hL)
        clear hT hL hs
        rw [HT2.out]
        go_wp2
        go_roundw
        case rel => exact ⟨q + 1, by omega, by go_num, HN2⟩
        case measure => simp [RowKit.intOf]; omega
    · obtain rfl : q = s.size := by omega
      have hz0 : ((s.size : Int) - 1 == 0) = false := by rw [beq_eq_false_iff_ne]; omega
      have hnz := HM.out.2
      obtain ⟨N, hN⟩ : ∃ N : Nat, N = 1 + n := ⟨_, rfl⟩
      have hN1 : (1 : Int) + (n : Int) = (N : Int) := by omega
      have hNs : N < s.size := by have := HM.out.1; omega
      have hN0 : 1 ≤ N := by omega
      have H1 := Lib.hid (ls_new HE.out.b)
      have HB := Lib.hid HE.out.b
      clear hN
      by_cases hy0 : y = 0
      · subst hy0
        go_wp2
        go_ret
        exact ⟨rfl, HB.out⟩
      · have hyz : ((y : Int) == 0) = false := by rw [beq_eq_false_iff_ne]; exact hy0
        have Hy := Lib.hid hy0
        clear hy0
        go_wp2
        obtain ⟨g2, hg⟩ : ∃ g, wr.heap.size = g := ⟨_, rfl⟩
        have hnew : wr.alloc (.cells #[.int .i64 0, .int .i64 0, .int .i64 0, .int .i64 0, .int .u8 0, .int .u8 0, .bool false, .int .i64 0, .int .i64 0, .int .i64 0, .string ⟨#[]⟩, .int .i64 0, .int .i64 0, .bool false, .int .u64 0, .int .u64 0, .string ⟨#[]⟩, .int .i64 0] 35) = wr.alloc (.cells (lxZ 0).toArray 35) := rfl
        rw [hg] at H1 ⊢
        rw [hnew]
        generalize wr.alloc (.cells (lxZ 0).toArray 35) = W2 at H1 ⊢
        clear hg hnew hnz hz0 hN1
        go_loopw [14] (fun i wr => ∃ q : Nat, q ≤ N ∧ i = .int .i64 q ∧ Hid (LS w wr g2 (runX .idle (l.take q)).1)) (fun i _ => N - (RowKit.intOf i).toNat)
        case atStart => exact ⟨0, Nat.zero_le _, rfl, H1⟩
        case round =>
          obtain ⟨q, hq, rfl, HE2⟩ := hrel
          clear H1
          by_cases hlt2 : q < N
          · have hqs : q < s.size := by omega
            obtain ⟨x, hx⟩ : ∃ x, s[q]'hqs = x := ⟨_, rfl⟩
            obtain ⟨hql, hlq⟩ := at_str HO.out.2.1 hqs hx
            have HN := Lib.hid (fun w' => HE2.out.read (w' := w') hql hlq)
            have HS := Lib.hid (lstep_at HE2.out.at_ x)
            clear hql hlq
            go_wp2_with fail
            refine HS.out.mono ?_
            rintro r w2 ⟨v, rfl, hT, hL, hs⟩
            have HN2 := Lib.hid (HN.out w2 hs hL)
            clear hT hL hs
            go_wp2
            go_roundw
            case rel => exact ⟨q + 1, by omega, by go_num, HN2⟩
            case measure => simp [RowKit.intOf]; omega
          · obtain rfl : q = N := by omega
            obtain ⟨x, hx⟩ : ∃ x, s[q]'hNs = x := ⟨_, rfl⟩
            obtain ⟨hql, hlq⟩ := at_str HO.out.2.1 hNs hx
            have hw := HO.out.1.mid q hql hN0
            rw [hlq] at hw
            obtain ⟨Y, hY⟩ : ∃ Y : Nat, y = (Y : Int) := ⟨y.toNat, by omega⟩
            subst hY
            have hY0 : Y ≠ 0 := fun e => Hy.out (by omega)
            have hxor := bits_xor_u8 x.toNat Y x.toNat_lt (by omega)
            have hlt8 : x.toNat ^^^ Y < 2 ^ 8 := Nat.xor_lt_two_pow (by have := x.toNat_lt; omega) (by omega)
            have hne := xor_ne x.toNat Y hY0
            obtain ⟨z, hz⟩ : ∃ z : UInt8, z.toNat = x.toNat ^^^ Y := ⟨UInt8.ofNat (x.toNat ^^^ Y), toNat_ofNat _ hlt8⟩
            rw [← hz] at hxor hne
            have hbad := isWord_bad hw z hne
            have HS := Lib.hid (lstep_at HE2.out.at_ z)
            rw [hbad] at HS
            have HR := Lib.hid (And.intro HE2.out.new HE2.out.b)
            clear hql hlq hw hlt8 hne hz hbad hY0 hlt2 hq
            go_wp2_with fail
            refine HS.out.mono ?_
            rintro r w2 ⟨v, rfl, hT, hL, hs⟩
            obtain ⟨a, c, rfl⟩ := hT.form
            have HL2 := Lib.hid (lstep_at hL 32)
            have HB2 : Hid (Below w.heap.size w w2) := Lib.hid (HR.out.2.trans (hs.below HR.out.1 HR.out.2.size))
            clear hT hL hs
            go_wp2_with fail
            refine HL2.out.mono ?_
            rintro r w3 ⟨v2, rfl, hT, hL, hs⟩
            have HB3 : Hid (Below w.heap.size w w3) := Lib.hid (HB2.out.trans (hs.below HR.out.1 HB2.out.size))
            clear hT hL hs
            go_wp2
            go_ret
            exact ⟨rfl, HB3.out⟩
end Go.Proofs.Yteonbajndghfcaa
