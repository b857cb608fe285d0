/-
  LAWS of chapter 5: EscapeOpens.
-/
import Derived.Test.YtpcdajhcimcedaaEscLawsA
namespace Go.Proofs.Ytpcdajhcimcedaa
open Go.RowKit
open Go.Lib
theorem wrap64_of {x : Int} (h : -9223372036854775808 ≤ x ∧ x ≤ 9223372036854775807) : wrap64 x = x := by
  first | (rw [wrap64]; omega) | (unfold wrap64; omega) | (simp only [wrap64, IntKind.wrap_i64]; omega)
/-- '(at%n + n) % n' -/
theorem rem_place (a : Int) (n : Nat) (hn : 0 < n) (hm : n ≤ 1000000) : ∃ k : Nat, k < n ∧ ((wrap64 (a.tmod n + n)).tmod n) = (k : Int) := by
  have h1 := Int.tmod_lt_of_pos a (show (0 : Int) < n by omega)
  have h2 : -(n : Int) < a.tmod n := by
    have := Int.lt_tmod_of_pos a (show (0 : Int) < n by omega)
    exact this
  have hw : wrap64 (a.tmod n + n) = a.tmod n + n := wrap64_of (by omega)
  rw [hw]
  have h3 : 0 ≤ a.tmod n + n := by omega
  have h4 := Int.tmod_nonneg (n : Int) h3
  have h5 := Int.tmod_lt_of_pos (a.tmod n + n) (show (0 : Int) < n by omega)
  exact ⟨((a.tmod n + n).tmod n).toNat, by omega, by omega⟩
def six : List (List UInt8) := [[92, 110], [92, 117, 48, 48, 101, 57], [92, 117, 100, 56, 51, 52, 92, 117, 100, 100, 49, 101], [195, 169], [240, 157, 132, 158], [97]]
def openB (l : List UInt8) : Bool := decide (0 < l.length) && decide (l.length ≤ 12) && (List.range l.length).all fun i => (errI (runI insT (l.take (i + 1))).1 == 0) && (wholeI (runI insT (l.take (i + 1))).1 == decide (i + 1 = l.length))
theorem six_ok : six.all openB = true := by decide +kernel
structure OpenOk (l : List UInt8) : Prop where
  pos : 0 < l.length
  le : l.length ≤ 12
  ok : ∀ i, i < l.length → errI (runI insT (l.take (i + 1))).1 = 0
  wh : ∀ i, i < l.length → wholeI (runI insT (l.take (i + 1))).1 = decide (i + 1 = l.length)
theorem open_of {l : List UInt8} (h : openB l = true) : OpenOk l := by
  unfold openB at h
  simp only [Bool.and_eq_true, decide_eq_true_eq, List.all_eq_true, List.mem_range, beq_iff_eq] at h
  exact ⟨h.1.1, h.1.2, fun i hi => (h.2 i hi).1, fun i hi => (h.2 i hi).2⟩
theorem six_at (j : Nat) (hj : j < 6) : ∃ l, six[j]? = some l ∧ OpenOk l := by
  have h1 : j < six.length := hj
  have h2 := List.all_eq_true.1 six_ok six[j] (List.getElem_mem h1)
  exact ⟨six[j], List.getElem?_eq_getElem h1, open_of h2⟩
abbrev sixCells : Array Value := #[.string ⟨#[92, 110]⟩, .string ⟨#[92, 117, 48, 48, 101, 57]⟩, .string ⟨#[92, 117, 100, 56, 51, 52, 92, 117, 100, 100, 49, 101]⟩, .string ⟨#[195, 169]⟩, .string ⟨#[240, 157, 132, 158]⟩, .string ⟨#[97]⟩]
theorem six_cells (j : Nat) (l : List UInt8) (h : six[j]? = some l) : sixCells[j]? = some (.string ⟨l.toArray⟩) := by
  match j, h with
  | 0, h => cases h; rfl
  | 1, h => cases h; rfl
  | 2, h => cases h; rfl
  | 3, h => cases h; rfl
  | 4, h => cases h; rfl
  | 5, h => cases h; rfl
/-- What is read of a beginning. -/
theorem open_read {l : List UInt8} (h : OpenOk l) (m : Nat) (hm : m < l.length) : readE (runI insT (l.take m)) = if 0 < m then 3 else 0 := by
  cases m with
  | zero => rfl
  | succ i =>
    have h1 := h.ok i (by omega)
    have h2 := h.wh i (by omega)
    unfold readE
    rw [if_neg (by rw [h1]; decide), if_neg (by rw [h2]; simp; omega), if_pos (by omega)]
set_option maxRecDepth 100000 in
set_option maxHeartbeats 1600000 in
theorem opens_any (k n : Int) (w : World) (_ : -9223372036854775808 ≤ k ∧ k ≤ 9223372036854775807) (_ : -9223372036854775808 ≤ n ∧ n ≤ 9223372036854775807) :
    Calls Try.prog 8 #[.int .i64 k, .int .i64 n] w fun e w' => e = .returned (.bool true) ∧ Below w.heap.size w w' := by
  obtain ⟨j, hj6, hj⟩ := rem_place k 6 (by omega) (by omega)
  obtain ⟨l, hl, hO⟩ := six_at j hj6
  have hcs := six_cells j l hl
  obtain ⟨s, hs⟩ : ∃ s : ByteArray, s = ⟨l.toArray⟩ := ⟨_, rfl⟩
  have hsl : s.data.toList = l := by rw [hs]
  have hsz : s.size = l.length := by rw [← size_list, hsl]
  rw [← hs] at hcs
  have hcell : ∀ h, sixCells.toList[j]'h = .string s := by
    intro h
    have := hcs
    rw [← Array.getElem?_toList, List.getElem?_eq_getElem h] at this
    injection this
  unfold sixCells at hcell
  simp only [] at hcell
  have hj' : (wrap64 (k.tmod 6 + 6)).tmod 6 = (j : Int) := hj
  have HC := Lib.hid hcell
  obtain ⟨m, hm, hmz⟩ := rem_place n s.size (by rw [hsz]; exact hO.pos) (by rw [hsz]; have := hO.le; omega)
  have HM := Lib.hid (And.intro hm hmz)
  have hs12 : s.size ≤ 12 := by rw [hsz]; exact hO.le
  have HO := Lib.hid (And.intro hO (And.intro hsl hsz))
  clear hj hcs hs hl hO hcell hsl hsz hm hmz
  go_enter Try.func8, Try.ntmps8
  go_wp2_with fail
  rw [HC.out]
  refine (alive_any _).mono ?_
  rintro e w1 ⟨rfl, b1⟩
  have B1 : Hid (Below w.heap.size w w1) := Lib.hid (((Below.refl _ w).alloc (Nat.le_refl _) _).trans (b1.mono (by simp)))
  clear b1
  obtain ⟨rb, hrb⟩ : ∃ rb, rb = w1.heap.size := ⟨_, rfl⟩
  have H0 : Hid (EAt (w1.alloc (.cells rdZero 28)) rb 0 insT ∧ Below w.heap.size w (w1.alloc (.cells rdZero 28)) ∧ w.heap.size ≤ rb) := by
    rw [hrb]
    exact Lib.hid ⟨eat_new w1, B1.out.alloc B1.out.size _, B1.out.size⟩
  have HRB := Lib.hid hrb
  clear hrb
  go_wp2_with fail
  rw [← HRB.out]
  refine (ewhole_at H0.out.1).mono ?_
  rintro e w2 ⟨rfl, rfl⟩
  rw [show wholeI insT = true from rfl]
  go_wp2
  generalize w1.alloc (.cells rdZero 28) = W at H0 ⊢
  go_loopw [7] (fun i wr => ∃ q : Nat, q ≤ s.size ∧ i = .int .i64 q ∧ Hid (EAt wr rb 0 (runI insT (l.take q)).1 ∧ Below w.heap.size w wr ∧ w.heap.size ≤ rb)) (fun i _ => s.size - (RowKit.intOf i).toNat)
  case atStart => exact ⟨0, Nat.zero_le _, rfl, H0⟩
  case round =>
    obtain ⟨q, hq, rfl, HE⟩ := hrel
    clear H0
    by_cases hlt : q < s.size
    · obtain ⟨x, hx⟩ : ∃ x, s[q]'hlt = x := ⟨_, rfl⟩
      obtain ⟨hO, hsl, hsz⟩ := HO.out
      have hlq : l[q]? = some x := by
        rw [← hsl, List.getElem?_eq_getElem (by rw [size_list]; exact hlt)]
        exact congrArg some hx
      have hsn := run_take_snoc l q x hlq
      have h1 := hO.ok q (by omega)
      have h2 := hO.wh q (by omega)
      rw [hsn] at h1 h2
      have HF := Lib.hid (And.intro h2 hsn)
      have HZ := Lib.hid h1
      have hdec : ((q : Int) == (s.size : Int) - 1) = decide (q + 1 = l.length) := by
        rw [Bool.eq_iff_iff]
        simp only [beq_iff_eq, decide_eq_true_eq]
        omega
      have HD := Lib.hid hdec
      clear hO hsl hsz hlq hsn h1 h2 hdec
      go_wp2_with fail
      refine (estep_at HE.out.1 x).mono ?_
      rintro e w2 ⟨rfl, he2, s2⟩
      rw [HZ.out]
      have HE2 : Hid (EAt w2 rb 0 (stepI (runI insT (l.take q)).1 x).1 ∧ Below w.heap.size w w2 ∧ w.heap.size ≤ rb) := Lib.hid ⟨he2, HE.out.2.1.trans (s2.below HE.out.2.2 HE.out.2.1.size), HE.out.2.2⟩
      have HN : Hid (EAt w2 rb 0 (runI insT (l.take (q + 1))).1 ∧ Below w.heap.size w w2 ∧ w.heap.size ≤ rb) := by
        rw [HF.out.2]
        exact HE2
      have hW := ewhole_at HE2.out.1
      rw [HF.out.1] at hW
      have HW := Lib.hid hW
      clear he2 s2 hW
      obtain ⟨d, hd⟩ : ∃ d, decide (q + 1 = l.length) = d := ⟨_, rfl⟩
      rw [hd] at HW HD
      have hdd := HD.out
      clear hd HE HF HE2 HZ HD
      go_wp2_with fail
      refine HW.out.mono ?_
      rintro e w3 ⟨rfl, rfl⟩
      have hdn : (!d == d) = false := by cases d <;> rfl
      have hdm : (d != d) = false := by cases d <;> rfl
      go_wp2
      go_roundw
      case rel => exact ⟨q + 1, by omega, by go_num, HN⟩
      case measure => simp [RowKit.intOf]; omega
    · obtain ⟨hO, hsl, hsz⟩ := HO.out
      obtain ⟨hm, hmz⟩ := HM.out
      have hR := fun W => read_any (s.extract 0 m) W (by rw [← size_list, ext_list, List.drop_zero, List.length_take]; omega)
      rw [ext_list, List.drop_zero, hsl, open_read hO m (by omega)] at hR
      have hS := slice_str_hi s m (Nat.le_of_lt hm)
      obtain ⟨y, hy⟩ : ∃ y, s.extract 0 m = y := ⟨_, rfl⟩
      rw [hy] at hR hS
      have HR := Lib.hid hR
      have HB := HE.out.2.1
      have HB' := Lib.hid HB
      generalize readT (runI insT (l.take m)) = t at *
      obtain ⟨z, hz⟩ : ∃ z : ByteArray, (⟨t.toArray⟩ : ByteArray) = z := ⟨_, rfl⟩
      rw [hz] at HR
      clear hO hsl hsz hR hy HB hz HO HM
      go_wp2_with fail
      refine (HR.out _).mono ?_
      rintro e w3 ⟨rfl, b3⟩
      have B3 := Lib.hid (HB'.out.trans (b3.mono HB'.out.size))
      clear b3
      by_cases h0 : 0 < m
      · rw [if_pos h0]
        go_wp2
        go_ret
        exact ⟨by simp, B3.out⟩
      · rw [if_neg h0]
        go_wp2
        go_ret
        exact ⟨by simp, B3.out⟩
end Go.Proofs.Ytpcdajhcimcedaa
