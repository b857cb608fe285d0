/-
  LAWS of chapter 11: JsoninForms.
-/
import Derived.Test.YtacngbngljfedaaJinLawsA
import Derived.Test.YtacngbngljfedaaGa
namespace Go.Proofs.Ytacngbngljfedaa
open Go.RowKit
open Go.Lib
def badL : List (List UInt8) := [[91, 44], [91, 49, 44, 93], [123, 49, 32], [123, 34, 97, 34, 44], [123, 34, 97, 34, 58, 125], [123, 44], [93], [125], [91, 125], [123, 93], [49, 32, 49, 32], [91, 49, 32, 49, 44], [58], [123, 34, 97, 34, 58, 49, 44, 125], [39], [91, 49, 125], [110, 117, 108, 76], [43], [91, 48, 49]]
abbrev badCells : Array Value := #[.string ⟨#[91, 44]⟩, .string ⟨#[91, 49, 44, 93]⟩, .string ⟨#[123, 49, 32]⟩, .string ⟨#[123, 34, 97, 34, 44]⟩, .string ⟨#[123, 34, 97, 34, 58, 125]⟩, .string ⟨#[123, 44]⟩, .string ⟨#[93]⟩, .string ⟨#[125]⟩, .string ⟨#[91, 125]⟩, .string ⟨#[123, 93]⟩, .string ⟨#[49, 32, 49, 32]⟩, .string ⟨#[91, 49, 32, 49, 44]⟩, .string ⟨#[58]⟩, .string ⟨#[123, 34, 97, 34, 58, 49, 44, 125]⟩, .string ⟨#[39]⟩, .string ⟨#[91, 49, 125]⟩, .string ⟨#[110, 117, 108, 76]⟩, .string ⟨#[43]⟩, .string ⟨#[91, 48, 49]⟩]
def goodL : List (List UInt8) := [[91, 93], [123, 125], [91, 91, 93, 44, 123, 125, 93], [123, 34, 34, 58, 123, 34, 34, 58, 91, 93, 125, 125], [32, 49, 32], [34, 34], [91, 110, 117, 108, 108, 44, 116, 114, 117, 101, 44, 102, 97, 108, 115, 101, 93], [45, 48], [123, 34, 97, 34, 58, 49, 44, 34, 97, 34, 58, 50, 125]]
abbrev goodCells : Array Value := #[.string ⟨#[91, 93]⟩, .string ⟨#[123, 125]⟩, .string ⟨#[91, 91, 93, 44, 123, 125, 93]⟩, .string ⟨#[123, 34, 34, 58, 123, 34, 34, 58, 91, 93, 125, 125]⟩, .string ⟨#[32, 49, 32]⟩, .string ⟨#[34, 34]⟩, .string ⟨#[91, 110, 117, 108, 108, 44, 116, 114, 117, 101, 44, 102, 97, 108, 115, 101, 93]⟩, .string ⟨#[45, 48]⟩, .string ⟨#[123, 34, 97, 34, 58, 49, 44, 34, 97, 34, 58, 50, 125]⟩]
theorem getD_at0 (l : List UInt8) (i : Nat) (h : i < l.length) : l.getD i 0 = l[i] := by simp [List.getD, h]
def badB (l : List UInt8) : Bool := decide (1 ≤ l.length) && decide (l.length ≤ 9) && (List.range l.length).all fun i => errP (stepJ 4 (runJ 4 j0 (l.take i)).1 (l.getD i 0)).1.p == if i + 1 = l.length then 2 else 0
theorem bad_ok : badL.all badB = true := by decide +kernel
def goodB (l : List UInt8) : Bool := decide (l.length ≤ 20) && (allJ 4 l).2 == 0 && decide (1 ≤ (allJ 4 l).1.length)
theorem good_ok : goodL.all goodB = true := by decide +kernel
structure BadX (l : List UInt8) : Prop where
  lo : 1 ≤ l.length
  hi : l.length ≤ 9
  tell : ∀ i (h : i < l.length), errP (stepJ 4 (runJ 4 j0 (l.take i)).1 l[i]).1.p = if i + 1 = l.length then 2 else 0
theorem badL_at (j : Nat) (hj : j < 19) : ∃ l, badL[j]? = some l ∧ BadX l := by
  have h1 : j < badL.length := hj
  have h2 := List.all_eq_true.1 bad_ok badL[j] (List.getElem_mem h1)
  refine ⟨badL[j], List.getElem?_eq_getElem h1, ?_⟩
  generalize badL[j] = l at h2
  unfold badB at h2
  simp only [Bool.and_eq_true, decide_eq_true_eq, List.all_eq_true, List.mem_range, beq_iff_eq] at h2
  exact ⟨h2.1.1, h2.1.2, fun i hi => by
    have := h2.2 i hi
    rwa [getD_at0 l i hi] at this⟩
theorem goodL_at (j : Nat) (hj : j < 9) : ∃ l, goodL[j]? = some l ∧ l.length ≤ 20 ∧ (allJ 4 l).2 = 0 ∧ 1 ≤ (allJ 4 l).1.length := by
  have h1 : j < goodL.length := hj
  have h2 := List.all_eq_true.1 good_ok goodL[j] (List.getElem_mem h1)
  refine ⟨goodL[j], List.getElem?_eq_getElem h1, ?_⟩
  generalize goodL[j] = l at h2
  unfold goodB at h2
  simp only [Bool.and_eq_true, decide_eq_true_eq, beq_iff_eq] at h2
  exact ⟨h2.1.1, h2.1.2, h2.2⟩
theorem bad_cells (j : Nat) (l : List UInt8) (h : badL[j]? = some l) : badCells[j]? = some (.string ⟨l.toArray⟩) := by
  match j, h with
  | 0, h => cases h; rfl
  | 1, h => cases h; rfl
  | 2, h => cases h; rfl
  | 3, h => cases h; rfl
  | 4, h => cases h; rfl
  | 5, h => cases h; rfl
  | 6, h => cases h; rfl
  | 7, h => cases h; rfl
  | 8, h => cases h; rfl
  | 9, h => cases h; rfl
  | 10, h => cases h; rfl
  | 11, h => cases h; rfl
  | 12, h => cases h; rfl
  | 13, h => cases h; rfl
  | 14, h => cases h; rfl
  | 15, h => cases h; rfl
  | 16, h => cases h; rfl
  | 17, h => cases h; rfl
  | 18, h => cases h; rfl
theorem good_cells (j : Nat) (l : List UInt8) (h : goodL[j]? = some l) : goodCells[j]? = some (.string ⟨l.toArray⟩) := by
  match j, h with
  | 0, h => cases h; rfl
  | 1, h => cases h; rfl
  | 2, h => cases h; rfl
  | 3, h => cases h; rfl
  | 4, h => cases h; rfl
  | 5, h => cases h; rfl
  | 6, h => cases h; rfl
  | 7, h => cases h; rfl
  | 8, h => cases h; rfl
theorem at_str {s : ByteArray} {l : List UInt8} (h : s.data.toList = l) {q : Nat} (hq : q < s.size) {x : UInt8} (hx : s[q]'hq = x) : ∃ h : q < l.length, l[q] = x := by
  subst h
  exact ⟨by simpa using hq, by rw [← hx]; rfl⟩
set_option maxRecDepth 100000 in
set_option maxHeartbeats 4000000 in
theorem forms_row (k : Int) (w : World) :
    Calls Try.prog 7 #[.int .i64 k] w fun r w' => r = .returned (.bool true) ∧ Below w.heap.size w w' := by
  obtain ⟨j, hj1, hj⟩ := rem_place k 19 (by omega) (by omega)
  obtain ⟨l, hl, hO⟩ := badL_at j hj1
  have hcs := bad_cells j l hl
  obtain ⟨i2, hi1, hi⟩ := rem_place k 9 (by omega) (by omega)
  obtain ⟨l2, hl2, hO2, hO3, hO4⟩ := goodL_at i2 hi1
  have hcs2 := good_cells i2 l2 hl2
  obtain ⟨s, hs⟩ : ∃ s : ByteArray, s = ⟨l.toArray⟩ := ⟨_, rfl⟩
  have hsl : s.data.toList = l := by rw [hs]
  have hsz : s.size = l.length := by rw [← size_list, hsl]
  rw [← hs] at hcs
  have hj' : (wrap64 (k.tmod 19 + 19)).tmod 19 = (j : Int) := hj
  have hi' : (wrap64 (k.tmod 9 + 9)).tmod 9 = (i2 : Int) := hi
  have hs1 : 1 ≤ s.size := by rw [hsz]; exact hO.lo
  have hs9 : s.size ≤ 9 := by rw [hsz]; exact hO.hi
  have HA : Hid (∀ W, Calls Try.prog 10 #[.string ⟨l2.toArray⟩, .int .i64 4] W fun r w' => ∃ u, r = .returned (.tuple #[u, .int .i64 0]) ∧ Made W w' u (allJ 4 l2).1.length (allJ 4 l2).1) := Lib.hid (fun W => by
    have := jall_any l2 4 (by omega) (by omega) W
    rwa [hO3] at this)
  have HO := Lib.hid (And.intro hO (And.intro hsl hsz))
  have HN := Lib.hid (fun W => jnew_any 4 (by omega) W)
  obtain ⟨X2, hX2⟩ : ∃ X : ByteArray, (⟨l2.toArray⟩ : ByteArray) = X := ⟨_, rfl⟩
  rw [hX2] at hcs2 HA
  have hlen : 0 < (allJ 4 l2).1.length := hO4
  generalize allJ 4 l2 = R at HA hlen
  obtain ⟨RL, re⟩ := R
  simp only at HA hlen
  generalize RL.length = RN at HA hlen
  have HLEN := Lib.hid hlen
  have HCS := Lib.hid (And.intro hcs hcs2)
  have HAL := Lib.hid (fun W => jalive_any W)
  clear hj hcs hcs2 hs hl hO hsl hsz hi hl2 hO2 hO3 hO4 hX2 hlen
  go_enter Try.func7, Try.ntmps7
  go_wp2_with fail
  refine (HAL.out _).mono ?_
  rintro e w1 ⟨rfl, b1⟩
  have hb1 : Blk w1 w.heap.size badCells 9 := ((blk_new w badCells 9).alloc (.cells goodCells 9)).go b1
  have hb2 : Blk w1 (w.heap.size + 1) goodCells 9 := by
    have := (blk_new (w.alloc (.cells badCells 9)) goodCells 9).go b1
    simpa using this
  have c1 : w1.cell? ⟨w.heap.size, j, none⟩ = some (.string s) := (hb1.cell j).trans HCS.out.1
  have HC2 : Hid (w1.cell? ⟨w.heap.size + 1, i2, none⟩ = some (.string X2) ∧ w.heap.size + 1 < w1.heap.size) := Lib.hid ⟨(hb2.cell i2).trans HCS.out.2, hb2.lt⟩
  have B1 : Hid (Below w.heap.size w w1) := Lib.hid (up_trans (up_alloc (up_alloc (Below.refl _ _) _) _) b1)
  clear b1 hb1 hb2
  go_wp2_with fail
  refine (HN.out _).mono ?_
  rintro r w2 ⟨rfl, hP, hb⟩
  have H0 : Hid (PAt w2 w1.heap.size 0 4 (runJ 4 j0 (l.take 0)).1 ∧ Below w1.heap.size w1 w2) := Lib.hid ⟨by simpa [runJ] using hP, hb⟩
  clear hP hb
  obtain ⟨g, hg⟩ : ∃ g, w1.heap.size = g := ⟨_, rfl⟩
  rw [hg] at H0 ⊢
  have HG := Lib.hid hg
  clear hg c1
  go_wp2
  go_loopw [7, 8, 9] (fun i _ _ wr => ∃ q : Nat, q ≤ s.size ∧ i = .int .i64 q ∧ Hid (PAt wr g 0 4 (runJ 4 j0 (l.take q)).1 ∧ Below g w1 wr)) (fun i _ _ _ => s.size - (RowKit.intOf i).toNat)
  case atStart => exact ⟨0, Nat.zero_le _, rfl, H0⟩
  case round =>
    obtain ⟨q, hq, rfl, HE⟩ := hrel
    clear H0
    by_cases hlt : q < s.size
    · obtain ⟨x, hx⟩ : ∃ x, s[q]'hlt = x := ⟨_, rfl⟩
      obtain ⟨hO, hsl, hsz⟩ := HO.out
      obtain ⟨hql, hlq⟩ := at_str hsl hlt hx
      have hT := hO.tell q hql
      have hsn := runJ_snoc 4 j0 l q hql
      rw [hlq] at hT hsn
      have HS := Lib.hid (jstep_at HE.out.1 x)
      have HSN : Hid ((runJ 4 j0 (l.take (q + 1))).1 = (stepJ 4 (runJ 4 j0 (l.take q)).1 x).1) := Lib.hid (by rw [hsn])
      generalize stepJ 4 (runJ 4 j0 (l.take q)).1 x = T at *
      by_cases hl1 : q + 1 = s.size
      · have hz1 : ((q : Int) == (s.size : Int) - 1) = true := by rw [beq_iff_eq]; omega
        rw [if_pos (by omega)] at hT
        have HT := Lib.hid hT
        clear hO hsl hsz hlq hql hl1 hT hsn
        go_wp2_with fail
        refine HS.out.mono ?_
        rintro r w3 ⟨⟨v, rfl, hV⟩, hP, hs⟩
        have HN2 : Hid (PAt w3 g 0 4 (runJ 4 j0 (l.take (q + 1))).1 ∧ Below g w1 w3) := Lib.hid ⟨by rw [HSN.out]; exact hP, HE.out.2.trans (hs.below (Nat.le_refl _) (Nat.le_of_lt HE.out.1.lt))⟩
        clear hV hP hs
        rw [HT.out]
        go_wp2
        go_roundw
        case rel => exact ⟨q + 1, by omega, by go_num, HN2⟩
        case measure => simp [RowKit.intOf]; omega
      · have hz1 : ((q : Int) == (s.size : Int) - 1) = false := by rw [beq_eq_false_iff_ne]; omega
        rw [if_neg (by omega)] at hT
        have HT := Lib.hid hT
        clear hO hsl hsz hlq hql hl1 hT hsn
        go_wp2_with fail
        refine HS.out.mono ?_
        rintro r w3 ⟨⟨v, rfl, hV⟩, hP, hs⟩
        have HN2 : Hid (PAt w3 g 0 4 (runJ 4 j0 (l.take (q + 1))).1 ∧ Below g w1 w3) := Lib.hid ⟨by rw [HSN.out]; exact hP, HE.out.2.trans (hs.below (Nat.le_refl _) (Nat.le_of_lt HE.out.1.lt))⟩
        clear hV hP hs
        rw [HT.out]
        go_wp2
        go_roundw
        case rel => exact ⟨q + 1, by omega, by go_num, HN2⟩
        case measure => simp [RowKit.intOf]; omega
    · obtain rfl : q = s.size := by omega
      have c2 : wr.cell? ⟨w.heap.size + 1, i2, none⟩ = some (.string X2) := by
        rw [HE.out.2.cell (by have := HC2.out.2; have := HG.out; simp only; omega)]
        exact HC2.out.1
      have HB2 : Hid (Below w.heap.size w wr) := Lib.hid (B1.out.trans (HE.out.2.mono (by have := HC2.out.2; have := HG.out; omega)))
      clear hlt
      go_wp2_with fail
      refine (HA.out _).mono ?_
      rintro r w3 ⟨u, rfl, hM⟩
      obtain ⟨a, cp, rfl, _, _⟩ := hM.2.1.slice_form
      have HM := Lib.hid (up_trans HB2.out hM.1)
      clear hM c2
      go_wp2
      go_ret
      exact ⟨by show Ending.returned (Value.bool (decide (0 < RN))) = _; rw [decide_eq_true HLEN.out], HM.out⟩
end Go.Proofs.Ytacngbngljfedaa
