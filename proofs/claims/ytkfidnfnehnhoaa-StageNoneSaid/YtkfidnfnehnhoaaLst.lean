/-
  GENERAL (of the program the types api.Ev, []api.Ev alone): lists of parts in memory: what came in, what a call makes and grows.
-/
import Derived.Test.YtkfidnfnehnhoaaBlk
import Derived.Deep.DeepCutAuto
import Derived.Deep.RegionLaw
namespace Go.Proofs.Ytkfidnfnehnhoaa
open Go.RowKit
open Go.Lib
/-- The parts ahead of a place. -/
def pre (E : Nat → Ev) (j : Nat) : List Ev := (List.range j).map E
theorem pre_succ (E : Nat → Ev) (j : Nat) : pre E (j + 1) = pre E j ++ [E j] := by simp [pre, List.range_succ]
theorem pre_split (E : Nat → Ev) (j k : Nat) : ∃ r, pre E (j + k) = pre E j ++ r := by
  induction k with
  | zero => exact ⟨[], by simp⟩
  | succ k ih =>
    obtain ⟨r, hr⟩ := ih
    exact ⟨r ++ [E (j + k)], by rw [← Nat.add_assoc, pre_succ, hr, List.append_assoc]⟩
theorem wrap_succ {j : Nat} (h : j ≤ 1000000) : RowKit.wrap64 ((j : Int) + 1) = (j : Int) + 1 := by
  unfold RowKit.wrap64
  omega
theorem EvsAt.cells {w : World} {B n : Nat} {A : Option Addr} {E : Nat → Ev} (h : EvsAt w B A n E) {i : Nat} (hi : i < n) : ∃ b off, A = some ⟨b, off, none⟩ ∧ b < B ∧
    w.cell? ⟨b, off + i * 5, none⟩ = some (.int .i64 (E i).k) ∧ w.cell? ⟨b, off + i * 5 + 1, none⟩ = some (.bool (E i).y) ∧ w.cell? ⟨b, off + i * 5 + 2, none⟩ = some (.int .u64 (E i).m) ∧
    w.cell? ⟨b, off + i * 5 + 3, none⟩ = some (.string (E i).t) ∧ w.cell? ⟨b, off + i * 5 + 4, none⟩ = some (.int .i64 (E i).c) := by
  obtain ⟨b, off, rfl, hb, hc⟩ := h (by omega)
  exact ⟨b, off, rfl, hb, hc i hi 0 _ rfl, hc i hi 1 _ rfl, hc i hi 2 _ rfl, hc i hi 3 _ rfl, hc i hi 4 _ rfl⟩
def evsC : List Ev → List Value
  | [] => []
  | e :: r => evCells e ++ evsC r
theorem evsC_append (L K : List Ev) : evsC (L ++ K) = evsC L ++ evsC K := by
  induction L with
  | nil => rfl
  | cons e L ih => simp only [List.cons_append, evsC, ih, List.append_assoc]
theorem evsC_length (L : List Ev) : (evsC L).length = L.length * 5 := by
  induction L with
  | nil => rfl
  | cons e L ih =>
    rw [evsC, List.length_append, ih]
    simp [evCells]
    omega
theorem evsC_one (L : List Ev) : ∀ u ∈ evsC L, u.oneCell' = true := by
  induction L with
  | nil => intro u h; simp [evsC] at h
  | cons e L ih =>
    intro u h
    rw [evsC, List.mem_append] at h
    rcases h with h | h
    · simp [evCells] at h
      rcases h with rfl | rfl | rfl | rfl | rfl <;> rfl
    · exact ih u h
def getE (L : List Ev) (i : Nat) : Ev := L[i]?.getD evZ
theorem pre_getE (L : List Ev) : pre (getE L) L.length = L := by
  apply List.ext_getElem
  · simp [pre]
  · intro i h1 h2
    simp [pre, getE, h2]
theorem evsC_get (L : List Ev) : ∀ (i j : Nat), i < L.length → j < 5 → (evsC L)[i * 5 + j]? = (evCells (getE L i))[j]? := by
  induction L with
  | nil => intro i j h; simp at h
  | cons e L ih =>
    intro i j hi hj
    rw [evsC]
    cases i with
    | zero =>
      rw [List.getElem?_append_left (by simp [evCells]; omega)]
      simp [getE]
    | succ i =>
      rw [List.getElem?_append_right (by simp [evCells]; omega)]
      have h1 : (i + 1) * 5 + j - (evCells e).length = i * 5 + j := by simp [evCells]; omega
      rw [h1, ih i j (by simpa using hi) hj]
      simp [getE]
theorem pre_length (E : Nat → Ev) (n : Nat) : (pre E n).length = n := by simp [pre]
theorem getE_pre (E : Nat → Ev) (n i : Nat) (h : i < n) : getE (pre E n) i = E i := by simp [getE, pre, h]
/-- What came in is a source for append. -/
theorem EvsAt.src {P : Program} {w : World} {B n c : Nat} {A : Option Addr} {E : Nat → Ev} (h : EvsAt w B A n E) {tx e' : TypeId} (hk : P.underlying tx = some (.slice e')) (hA : n = 0 → A = none) : Src P 5 tx (.slice A n c) n (evsC (pre E n)) w := by
  by_cases h0 : n = 0
  · subst h0
    rw [hA rfl]
    exact Src.ofNil w hk c
  · obtain ⟨b, off, rfl, hb, hc⟩ := h (by omega)
    refine Src.ofSlice w hk _ n c _ (by rw [evsC_length, pre_length]) (fun j u hu => ?_) (evsC_one _)
    have hj : j < n * 5 := by have := (List.getElem?_eq_some_iff.1 hu).1; rwa [evsC_length, pre_length] at this
    have h1 : j = j / 5 * 5 + j % 5 := by omega
    have h2 : j / 5 < n := by omega
    rw [h1, evsC_get _ _ _ (by rw [pre_length]; exact h2) (by omega), getE_pre E n _ h2] at hu
    rw [add_flat]
    have := hc (j / 5) h2 (j % 5) u hu
    rwa [Nat.add_assoc, ← h1] at this
/-- A list of parts that a call made. -/
theorem evs_win {w : World} {a : Option Addr} {n m cap : Nat} {T : TypeId} {L : List Ev} (h : Win w T 5 (.slice a m cap) m (evsC L)) (hn : n ≤ L.length) : EvsAt w w.heap.size a n (getE L) := fun h0 => by
  have hm : 0 < m := by
    have h1 := h.1
    rw [evsC_length] at h1
    omega
  obtain ⟨g, off, cap', hv, _, _, hg, _, hc⟩ := h.form hm
  cases hv
  refine ⟨g, off, rfl, hg, fun i hi j u hu => ?_⟩
  have hj : j < 5 := (List.getElem?_eq_some_iff.1 hu).1
  have := (hc (i * 5 + j) u (by rw [evsC_get L i j (by omega) hj]; exact hu)).1
  rwa [← Nat.add_assoc] at this
theorem pre_ext {E F : Nat → Ev} {n : Nat} (h : ∀ i, i < n → E i = F i) : pre E n = pre F n := by
  unfold pre
  exact List.map_congr_left fun i hi => h i (List.mem_range.1 hi)
theorem ok_getE {L : List Ev} (h : ∀ e ∈ L, EvOk e) (i : Nat) (hi : i < L.length) : EvOk (getE L i) := by
  have : getE L i ∈ L := by
    simp only [getE, List.getElem?_eq_getElem hi, Option.getD_some]
    exact List.getElem_mem hi
  exact h _ this
theorem ok_small (k : Int) (y : Bool) (m : Nat) (t : ByteArray) (c : Int) (hk : -100 ≤ k ∧ k ≤ 100) (hm : m ≤ 100) (ht : t.size ≤ 100) (hc : -100 ≤ c ∧ c ≤ 100) : EvOk ⟨k, y, m, t, c⟩ :=
  ⟨⟨by show _ ≤ k; omega, by show k ≤ _; omega⟩, by show m < _; omega, ⟨by show _ ≤ c; omega, by show c ≤ _; omega⟩, by show t.size ≤ _; omega⟩
theorem win_list (w : World) (L : List Ev) (T : TypeId) (m : Nat) (hm : L.length = m) (h0 : m ≤ 900) : Win (w.alloc (.cells (evsC L).toArray T)) T 5 (.slice (some ⟨w.heap.size, 0, none⟩) m m) m (evsC L) := by
  have hl := evsC_length L
  rw [hm] at hl
  exact ⟨hl, .inr ⟨w.heap.size, 0, m, _, rfl, heap_alloc_new w _, Nat.le_refl _, by simp [hl], by unfold maxLen; omega, by simp [← hl]⟩⟩
/-- What came in is a source for append. -/
theorem EvsAt.from {P : Program} {w : World} {B n c : Nat} {A : Option Addr} {E : Nat → Ev} (h : EvsAt w B A n E) {tx e' : TypeId} (hk : P.underlying tx = some (.slice e')) : Src P 5 tx (.slice A n c) n (evsC (pre E n)) w := by
  by_cases h0 : n = 0
  · subst h0
    cases A with
    | none => exact Src.ofNil w hk c
    | some a => exact Src.ofSlice w hk a 0 c _ (by simp [pre, evsC]) (fun j u hu => by simp [pre, evsC] at hu) (evsC_one _)
  · exact h.src hk (fun h1 => absurd h1 h0)
theorem info_ev : (Try.prog.info? 34).map (fun i => (i.zero, i.size, i.bytes)) = some (some (.agg #[.int .i64 0, .bool false, .int .u64 0, .string ⟨#[]⟩, .int .i64 0]), 5, 48) := by kernel_rfl
/-- A list that a call made, of blocks that were not there. -/
def Made (w0 w : World) (v : Value) (n : Nat) (L : List Ev) : Prop := Below w0.heap.size w0 w ∧ Win w 34 5 v n (evsC L) ∧ ∀ k ∈ Value.owner v, w0.heap.size ≤ k
theorem Made.go {w0 w w' : World} {v : Value} {n : Nat} {L : List Ev} (h : Made w0 w v n L) (k : Below w.heap.size w w') : Made w0 w' v n L :=
  ⟨up_trans h.1 k, h.2.1.keep fun g hg => k.block g (h.2.1.lt g hg), h.2.2⟩
/-- More of them. -/
theorem made_more {w0 wA w w2 : World} {v v' : Value} {n m : Nat} {L K : List Ev} (h : Made w0 wA v n L) (hA : Below wA.heap.size wA w) (hW : Win w2 34 5 v' (n + m) (evsC L ++ evsC K)) (hG : w.grownBy w2 v.ownBlock)
    (hO : v'.ownBlock = v.ownBlock ∨ v'.ownBlock = some w.heap.size ∧ w.heap.size < w2.heap.size) : Made w0 w2 v' (n + m) (L ++ K) := by
  have hw0 : w0.heap.size ≤ w.heap.size := Nat.le_trans h.1.size hA.size
  refine ⟨(up_trans h.1 hA).grown hG hw0 (fun k hk => h.2.2 k ((ob_iff _ _).1 hk)), by rw [evsC_append]; exact hW, fun k hk => ?_⟩
  rcases hO with e | ⟨e, _⟩
  · exact h.2.2 k ((ob_iff _ _).1 (e ▸ (ob_iff _ _).2 hk))
  · have := (ob_iff _ _).2 hk
    rw [e] at this
    cases this
    exact hw0
theorem made_nil (w : World) : Made w w (.slice none 0 0) 0 [] := ⟨Below.refl _ _, Win.nil_ _ _ _, fun k hk => by simp [Value.owner] at hk⟩
theorem evs_one (e : Ev) : evsC [e] = evCells e := by simp [evsC]
theorem slice_hi {t : TypeId} {g off n cap k : Nat} (ht : Try.prog.underlying t = some (.slice 34)) (hk : k ≤ cap) (W : World) :
    (Instr.slice t (.slice (some ⟨g, off, none⟩) n cap) none (some (.int .i64 (k : Int))) none).run Try.prog W = .ok (.slice (some ⟨g, off, none⟩) k cap) W := by
  have ht' : Try.prog.underlying t = some (.slice (Try.prog.elem t)) := by simp [Program.elem, ht]
  have he : Try.prog.elem t = 34 := by simp [Program.elem, ht]
  have hz : ∀ W, (Go.sizeOf 34).run Try.prog W = .ok 5 W := fun W => by kernel_rfl
  rw [run_slice_h W t _ _ _ ht' .i64 _ (by omega) (by omega), he, hz]
  by_cases h0 : cap = 0 <;> simp [Result.andThen, sliced, h0, add_flat]
theorem EvsAt.grow {w w' : World} {n : Nat} {A : Option Addr} {E : Nat → Ev} (h : EvsAt w w.heap.size A n E) (k : Below w.heap.size w w') : EvsAt w' w'.heap.size A n E := fun h0 => by
  obtain ⟨b, off, hA, hb, hc⟩ := h.below k h0
  exact ⟨b, off, hA, Nat.lt_of_lt_of_le hb k.size, hc⟩
/-- A list that a call wrote out. -/
theorem made_new {w wr : World} (h : Below w.heap.size w wr) (L : List Ev) (m : Nat) (hm : L.length = m) (h0 : m ≤ 900) : Made w (wr.alloc (.cells (evsC L).toArray 34)) (.slice (some ⟨wr.heap.size, 0, none⟩) m m) m L :=
  ⟨up_alloc h _, win_list wr L _ m hm h0, fun k hk => by simp [Value.owner] at hk; subst hk; exact h.size⟩
end Go.Proofs.Ytkfidnfnehnhoaa
