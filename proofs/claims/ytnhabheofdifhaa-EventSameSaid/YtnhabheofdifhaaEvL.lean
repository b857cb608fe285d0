/-
  LISTS OF PARTS in memory (what came in, what a call made); contracts of the book's copyEvs, LentEvs, SameEvs, StaysEvs; the law's first call (alive).
-/
import Derived.Test.YtnhabheofdifhaaEvG
namespace Go.Proofs.Ytnhabheofdifhaa
open Go.RowKit
open Go.Lib
def evsC : List Ev → List Value
  | [] => []
  | e :: r => evCells e ++ evsC r
theorem evsC_append (L K : List Ev) : evsC (L ++ K) = evsC L ++ evsC K := by
  induction L with
  | nil => rfl
  | cons e L ih => simp only [List.cons_append, evsC, ih, List.append_assoc]
theorem evsC_length (L : List Ev) : (evsC L).length = L.length * 5 := by
  induction L with
  | nil => rfl
  | cons e L ih =>
    rw [evsC, List.length_append, ih]
    simp [evCells]
    omega
theorem evsC_one (L : List Ev) : ∀ u ∈ evsC L, u.oneCell' = true := by
  induction L with
  | nil => intro u h; simp [evsC] at h
  | cons e L ih =>
    intro u h
    rw [evsC, List.mem_append] at h
    rcases h with h | h
    · simp [evCells] at h
      rcases h with rfl | rfl | rfl | rfl | rfl <;> rfl
    · exact ih u h
def getE (L : List Ev) (i : Nat) : Ev := L[i]?.getD evZ
theorem pre_getE (L : List Ev) : pre (getE L) L.length = L := by
  apply List.ext_getElem
  · simp [pre]
  · intro i h1 h2
    simp [pre, getE, h2]
theorem evsC_get (L : List Ev) : ∀ (i j : Nat), i < L.length → j < 5 → (evsC L)[i * 5 + j]? = (evCells (getE L i))[j]? := by
  induction L with
  | nil => intro i j h; simp at h
  | cons e L ih =>
    intro i j hi hj
    rw [evsC]
    cases i with
    | zero =>
      rw [List.getElem?_append_left (by simp [evCells]; omega)]
      simp [getE]
    | succ i =>
      rw [List.getElem?_append_right (by simp [evCells]; omega)]
      have h1 : (i + 1) * 5 + j - (evCells e).length = i * 5 + j := by simp [evCells]; omega
      rw [h1, ih i j (by simpa using hi) hj]
      simp [getE]
theorem pre_length (E : Nat → Ev) (n : Nat) : (pre E n).length = n := by simp [pre]
theorem getE_pre (E : Nat → Ev) (n i : Nat) (h : i < n) : getE (pre E n) i = E i := by simp [getE, pre, h]
/-- What came in is a source for append. -/
theorem EvsAt.src {P : Program} {w : World} {B n c : Nat} {A : Option Addr} {E : Nat → Ev} (h : EvsAt w B A n E) {tx e' : TypeId} (hk : P.underlying tx = some (.slice e')) (hA : n = 0 → A = none) : Src P 5 tx (.slice A n c) n (evsC (pre E n)) w := by
  by_cases h0 : n = 0
  · subst h0
    rw [hA rfl]
    exact Src.ofNil w hk c
  · obtain ⟨b, off, rfl, hb, hc⟩ := h (by omega)
    refine Src.ofSlice w hk _ n c _ (by rw [evsC_length, pre_length]) (fun j u hu => ?_) (evsC_one _)
    have hj : j < n * 5 := by have := (List.getElem?_eq_some_iff.1 hu).1; rwa [evsC_length, pre_length] at this
    have h1 : j = j / 5 * 5 + j % 5 := by omega
    have h2 : j / 5 < n := by omega
    rw [h1, evsC_get _ _ _ (by rw [pre_length]; exact h2) (by omega), getE_pre E n _ h2] at hu
    rw [add_flat]
    have := hc (j / 5) h2 (j % 5) u hu
    rwa [Nat.add_assoc, ← h1] at this
/-- A list of parts that a call made. -/
theorem evs_win {w : World} {a : Option Addr} {n m cap : Nat} {T : TypeId} {L : List Ev} (h : Win w T 5 (.slice a m cap) m (evsC L)) (hn : n ≤ L.length) : EvsAt w w.heap.size a n (getE L) := fun h0 => by
  have hm : 0 < m := by
    have h1 := h.1
    rw [evsC_length] at h1
    omega
  obtain ⟨g, off, cap', hv, _, _, hg, _, hc⟩ := h.form hm
  cases hv
  refine ⟨g, off, rfl, hg, fun i hi j u hu => ?_⟩
  have hj : j < 5 := (List.getElem?_eq_some_iff.1 hu).1
  have := (hc (i * 5 + j) u (by rw [evsC_get L i j (by omega) hj]; exact hu)).1
  rwa [← Nat.add_assoc] at this
theorem pre_ext {E F : Nat → Ev} {n : Nat} (h : ∀ i, i < n → E i = F i) : pre E n = pre F n := by
  unfold pre
  exact List.map_congr_left fun i hi => h i (List.mem_range.1 hi)
theorem ok_getE {L : List Ev} (h : ∀ e ∈ L, EvOk e) (i : Nat) (hi : i < L.length) : EvOk (getE L i) := by
  have : getE L i ∈ L := by
    simp only [getE, List.getElem?_eq_getElem hi, Option.getD_some]
    exact List.getElem_mem hi
  exact h _ this
/-- Check, of a list that a call made. -/
theorem check_win {w : World} {a : Option Addr} {m cap : Nat} {T : TypeId} {L : List Ev} (h : Win w T 5 (.slice a m cap) m (evsC L)) (hm : L.length = m) (hn : m ≤ 900) (hok : ∀ e ∈ L, EvOk e) :
    Calls Try.prog 20 #[.slice a m cap] w fun r w' => r = .returned (.int .i64 (checkE L : Nat)) ∧ Below w.heap.size w w' := by
  have := check_any a m cap (getE L) w hn (evs_win h (by omega)) (fun i hi => ok_getE hok i (by omega))
  rwa [← hm, pre_getE, hm] at this
theorem ok_small (k : Int) (y : Bool) (m : Nat) (t : ByteArray) (c : Int) (hk : -100 ≤ k ∧ k ≤ 100) (hm : m ≤ 100) (ht : t.size ≤ 100) (hc : -100 ≤ c ∧ c ≤ 100) : EvOk ⟨k, y, m, t, c⟩ :=
  ⟨⟨by show _ ≤ k; omega, by show k ≤ _; omega⟩, by show m < _; omega, ⟨by show _ ≤ c; omega, by show c ≤ _; omega⟩, by show t.size ≤ _; omega⟩
def aText : Ev := ⟨3, false, 0, ⟨#[97]⟩, 0⟩
def aList : List Ev := [⟨5, false, 0, ⟨#[]⟩, -1⟩, evZ, ⟨7, false, 0, ⟨#[]⟩, 0⟩]
theorem a_may : mayE aText := by decide
theorem a_tidy : tidyE aText = aText := rfl
theorem a_list : checkE aList = 0 := by decide +kernel
theorem a_ok : ∀ e ∈ aList, EvOk e := by
  intro e he
  simp only [aList, List.mem_cons, List.not_mem_nil, or_false] at he
  rcases he with rfl | rfl | rfl <;> exact ok_small _ _ _ _ _ (by decide) (by decide) (by decide) (by decide)
theorem win_list (w : World) (L : List Ev) (T : TypeId) (m : Nat) (hm : L.length = m) (h0 : m ≤ 900) : Win (w.alloc (.cells (evsC L).toArray T)) T 5 (.slice (some ⟨w.heap.size, 0, none⟩) m m) m (evsC L) := by
  have hl := evsC_length L
  rw [hm] at hl
  exact ⟨hl, .inr ⟨w.heap.size, 0, m, _, rfl, heap_alloc_new w _, Nat.le_refl _, by simp [hl], by unfold maxLen; omega, by simp [← hl]⟩⟩
set_option maxHeartbeats 2000000 in
theorem ev_alive (w : World) : Calls Try.prog 9 #[] w fun e w' => e = .returned (.bool true) ∧ Below w.heap.size w w' := by
  have hO := fun w => of_any aText w
  simp only [if_pos a_may, decide_eq_true a_may] at hO
  have hP := fun w => plain_any aText a_may w
  rw [a_tidy] at hP
  have hM := fun w => must_text ⟨#[97]⟩ w
  have hS := fun w => size_by (valE aText) aText true (by decide) hP w
  have hE := fun W => ev_eql aText aText W
  rw [sameE_refl] at hE
  have hC : ∀ w : World, Calls Try.prog 20 #[.slice (some ⟨w.heap.size, 0, none⟩) 3 3] (w.alloc (.cells (evsC aList).toArray 24)) fun r w' => r = .returned (.int .i64 0) ∧ Below (w.alloc (.cells (evsC aList).toArray 24)).heap.size (w.alloc (.cells (evsC aList).toArray 24)) w' := fun w => by
    have := check_win (win_list w aList 24 3 rfl (by omega)) rfl (by omega) a_ok
    rwa [a_list] at this
  have h1 : (⟨#[97]⟩ : ByteArray).size = 1 := rfl
  simp only [aText, evV, valE, aList, evsC, evCells, evZ] at hO hP hM hS hE hC
  have HO := Lib.hid hO
  have HP := Lib.hid hP
  have HM := Lib.hid hM
  have HS := Lib.hid hS
  have HC := Lib.hid hC
  clear hO hP hM hS hC h1
  go_enter Try.func9, Try.ntmps9
  go_wp2_with fail
  refine (HO.out _).mono ?_
  rintro e w1 ⟨rfl, b1⟩
  have B1 := Lib.hid b1
  clear b1
  go_wp2_with fail
  refine (HP.out _).mono ?_
  rintro e w2 ⟨rfl, b2⟩
  have B2 := Lib.hid (up_trans B1.out b2)
  clear b2
  go_wp2_with fail
  refine (HM.out _).mono ?_
  rintro e w3 ⟨rfl, rfl⟩
  go_wp2_with fail
  refine (HS.out _).mono ?_
  rintro e w4 ⟨rfl, b4⟩
  have B4 := Lib.hid (up_trans (up_alloc B2.out _) b4)
  clear b4
  go_wp2_with fail
  refine (HC.out _).mono ?_
  rintro e w5 ⟨rfl, b5⟩
  have B5 := Lib.hid (up_trans (up_alloc B4.out _) b5)
  clear b5
  go_wp2
  go_ret
  exact ⟨rfl, B5.out⟩
end Go.Proofs.Ytnhabheofdifhaa
