/-
  Parts held against each other; lists of parts that a call makes.
-/
import Derived.Test.YtgknpheefbfnlaaGa
import Derived.Defers
import Derived.Recover
import Derived.Deep.DeepCutAuto
import Derived.Deep.RegionLaw
import Derived.Deep.QuietTactic
import Derived.Deep.RegionWith
/-
  CONTRACT of truchmanref1.May.
-/
namespace Go.Proofs.Ytgknpheefbfnlaa
open Go.RowKit
open Go.Lib
theorem may_any (e : Ev) (w : World) : Calls Try.prog 33 #[evV e] w fun r w' => r = .returned (.bool (decide (mayE e))) ∧ Below w.heap.size w w' := by
  obtain ⟨k, y, m, t, c⟩ := e
  have h1 := Lib.hid (up_alloc (Below.refl w.heap.size w) (.cells #[.int .i64 k, .bool y, .int .u64 m, .string t, .int .i64 c] 40))
  have q : ∀ n : Int, k ≠ n → (k != n) = true := fun n h => by simpa using h
  simp only [evV]
  by_cases h0 : 0 ≤ k
  · have t0 : (0 ≤ k) = True := by simp [h0]
    by_cases h7 : k ≤ 7
    · have t7 : (k ≤ 7) = True := by simp [h7]
      by_cases h5 : k = 5
      · subst h5
        have hmm : mayE ⟨5, y, m, t, c⟩ ↔ -1 ≤ c := by unfold mayE; simp
        rw [decide_eq_decide.2 hmm]
        by_cases hc : -1 ≤ c
        · have hc1 : (-1 ≤ c) = True := by simp [hc]
          rw [decide_eq_true hc]
          clear hc hmm q t0 t7 h0 h7
          go_enter Try.func33, Try.ntmps33
          go_wp2
          go_ret
          exact ⟨rfl, h1.out⟩
        · have hc1 : (-1 ≤ c) = False := by simp; omega
          rw [decide_eq_false hc]
          clear hc hmm q t0 t7 h0 h7
          go_enter Try.func33, Try.ntmps33
          go_wp2
          go_ret
          exact ⟨rfl, h1.out⟩
      · by_cases h6 : k = 6
        · subst h6
          have hmm : mayE ⟨6, y, m, t, c⟩ ↔ -1 ≤ c := by unfold mayE; simp
          rw [decide_eq_decide.2 hmm]
          by_cases hc : -1 ≤ c
          · have hc1 : (-1 ≤ c) = True := by simp [hc]
            rw [decide_eq_true hc]
            clear hc hmm q t0 t7 h0 h7
            go_enter Try.func33, Try.ntmps33
            go_wp2
            go_ret
            exact ⟨rfl, h1.out⟩
          · have hc1 : (-1 ≤ c) = False := by simp; omega
            rw [decide_eq_false hc]
            clear hc hmm q t0 t7 h0 h7
            go_enter Try.func33, Try.ntmps33
            go_wp2
            go_ret
            exact ⟨rfl, h1.out⟩
        · have hm : mayE ⟨k, y, m, t, c⟩ := ⟨h0, h7, fun h => by simp only at h; omega⟩
          rw [decide_eq_true hm]
          have q5 := q 5 h5
          have q6 := q 6 h6
          clear q h5 h6 h0 h7 hm
          go_enter Try.func33, Try.ntmps33
          go_wp2
          all_goals go_ret
          all_goals exact ⟨rfl, h1.out⟩
    · have t7 : (k ≤ 7) = False := by simp; omega
      rw [decide_eq_false (fun h => h7 h.2.1)]
      clear q h0 h7
      go_enter Try.func33, Try.ntmps33
      go_wp2
      all_goals go_ret
      all_goals exact ⟨rfl, h1.out⟩
  · have t0 : (0 ≤ k) = False := by simp; omega
    rw [decide_eq_false (fun h => h0 h.1)]
    clear q h0
    go_enter Try.func33, Try.ntmps33
    go_wp2
    all_goals go_ret
    all_goals exact ⟨rfl, h1.out⟩
end Go.Proofs.Ytgknpheefbfnlaa
/-
  TWO PLAIN PARTS held against each other, by == and !=.
-/
namespace Go.Proofs.Ytgknpheefbfnlaa
open Go.RowKit
open Go.Lib
/-- Two plain parts, cell by cell. -/
def sameE (X Y : Ev) : Bool := (X.k == Y.k) && (X.y == Y.y) && (X.m == Y.m) && (X.t.toList == Y.t.toList) && (X.c == Y.c)
theorem bytes_eq {a b : ByteArray} (h : a.toList = b.toList) : a = b := by
  apply ByteArray.ext
  simp only [ByteArray.toList_eq] at h
  exact Array.ext' h
theorem sameE_iff (X Y : Ev) : sameE X Y = true ↔ X = Y := by
  obtain ⟨k, y, m, t, c⟩ := X
  obtain ⟨k', y', m', t', c'⟩ := Y
  simp only [sameE, Bool.and_eq_true, beq_iff_eq, Ev.mk.injEq]
  constructor
  · rintro ⟨⟨⟨⟨h1, h2⟩, h3⟩, h4⟩, h5⟩
    exact ⟨h1, h2, h3, bytes_eq h4, h5⟩
  · rintro ⟨h1, h2, h3, h4, h5⟩
    exact ⟨⟨⟨⟨h1, h2⟩, h3⟩, by rw [h4]⟩, h5⟩
theorem sameE_refl (X : Ev) : sameE X X = true := (sameE_iff X X).2 rfl
theorem sameE_comm (X Y : Ev) : sameE X Y = sameE Y X := by
  rw [Bool.eq_iff_iff, sameE_iff, sameE_iff]
  exact eq_comm
theorem sameE_ne {X Y : Ev} (h : X ≠ Y) : sameE X Y = false := by
  cases hs : sameE X Y with
  | false => rfl
  | true => exact absurd ((sameE_iff X Y).1 hs) h
theorem natb (a b : Nat) : (((a : Int)) == (b : Int)) = (a == b) := by
  rw [Bool.eq_iff_iff, beq_iff_eq, beq_iff_eq]
  omega
theorem ev_eql (X Y : Ev) (W : World) : (binOp .eql 40 (evV X) (evV Y)).run Try.prog W = .ok (.bool (sameE X Y)) W := by
  have hp : Try.prog.stoodInHeld 40 = false := by kernel_rfl
  have hs : Try.prog.underlying 40 = some (.struct (Try.prog.fieldsOf 40)) := by kernel_rfl
  simp only [run_eql_struct, evV]
  rw [run_equalIn_agg _ _ _ _ _ hs hp]
  simp [go_sem]
  have h3' : ((X.m : Int) = (Y.m : Int)) ↔ X.m = Y.m := by omega
  simp only [h3']
  by_cases h1 : X.k = Y.k <;> by_cases h2 : X.y = Y.y <;> by_cases h3 : X.m = Y.m <;> by_cases h4 : X.t.toList = Y.t.toList <;> by_cases h5 : X.c = Y.c <;> simp [sameE, h1, h2, h3, h4, h5]
theorem ev_neq (X Y : Ev) (W : World) : (binOp .neq 40 (evV X) (evV Y)).run Try.prog W = .ok (.bool (!sameE X Y)) W := by
  have hp : Try.prog.stoodInHeld 40 = false := by kernel_rfl
  have hs : Try.prog.underlying 40 = some (.struct (Try.prog.fieldsOf 40)) := by kernel_rfl
  simp only [run_neq_struct, evV]
  rw [run_equalIn_agg _ _ _ _ _ hs hp]
  simp [go_sem]
  have h3' : ((X.m : Int) = (Y.m : Int)) ↔ X.m = Y.m := by omega
  simp only [h3']
  by_cases h1 : X.k = Y.k <;> by_cases h2 : X.y = Y.y <;> by_cases h3 : X.m = Y.m <;> by_cases h4 : X.t.toList = Y.t.toList <;> by_cases h5 : X.c = Y.c <;> simp [sameE, h1, h2, h3, h4, h5]
end Go.Proofs.Ytgknpheefbfnlaa
/-
  GENERAL (of the program the types api.Ev, []api.Ev alone): lists of parts in memory: what came in, what a call makes and grows.
-/
namespace Go.Proofs.Ytgknpheefbfnlaa
open Go.RowKit
open Go.Lib
/-- The parts ahead of a place. -/
def pre (E : Nat → Ev) (j : Nat) : List Ev := (List.range j).map E
theorem pre_succ (E : Nat → Ev) (j : Nat) : pre E (j + 1) = pre E j ++ [E j] := by simp [pre, List.range_succ]
theorem pre_split (E : Nat → Ev) (j k : Nat) : ∃ r, pre E (j + k) = pre E j ++ r := by
  induction k with
  | zero => exact ⟨[], by simp⟩
  | succ k ih =>
    obtain ⟨r, hr⟩ := ih
    exact ⟨r ++ [E (j + k)], by rw [← Nat.add_assoc, pre_succ, hr, List.append_assoc]⟩
theorem wrap_succ {j : Nat} (h : j ≤ 1000000) : RowKit.wrap64 ((j : Int) + 1) = (j : Int) + 1 := by
  unfold RowKit.wrap64
  omega
theorem EvsAt.cells {w : World} {B n : Nat} {A : Option Addr} {E : Nat → Ev} (h : EvsAt w B A n E) {i : Nat} (hi : i < n) : ∃ b off, A = some ⟨b, off, none⟩ ∧ b < B ∧
    w.cell? ⟨b, off + i * 5, none⟩ = some (.int .i64 (E i).k) ∧ w.cell? ⟨b, off + i * 5 + 1, none⟩ = some (.bool (E i).y) ∧ w.cell? ⟨b, off + i * 5 + 2, none⟩ = some (.int .u64 (E i).m) ∧
    w.cell? ⟨b, off + i * 5 + 3, none⟩ = some (.string (E i).t) ∧ w.cell? ⟨b, off + i * 5 + 4, none⟩ = some (.int .i64 (E i).c) := by
  obtain ⟨b, off, rfl, hb, hc⟩ := h (by omega)
  exact ⟨b, off, rfl, hb, hc i hi 0 _ rfl, hc i hi 1 _ rfl, hc i hi 2 _ rfl, hc i hi 3 _ rfl, hc i hi 4 _ rfl⟩
def evsC : List Ev → List Value
  | [] => []
  | e :: r => evCells e ++ evsC r
theorem evsC_append (L K : List Ev) : evsC (L ++ K) = evsC L ++ evsC K := by
  induction L with
  | nil => rfl
  | cons e L ih => simp only [List.cons_append, evsC, ih, List.append_assoc]
theorem evsC_length (L : List Ev) : (evsC L).length = L.length * 5 := by
  induction L with
  | nil => rfl
  | cons e L ih =>
    rw [evsC, List.length_append, ih]
    simp [evCells]
    omega
theorem evsC_one (L : List Ev) : ∀ u ∈ evsC L, u.oneCell' = true := by
  induction L with
  | nil => intro u h; simp [evsC] at h
  | cons e L ih =>
    intro u h
    rw [evsC, List.mem_append] at h
    rcases h with h | h
    · simp [evCells] at h
      rcases h with rfl | rfl | rfl | rfl | rfl <;> rfl
    · exact ih u h
def getE (L : List Ev) (i : Nat) : Ev := L[i]?.getD evZ
theorem pre_getE (L : List Ev) : pre (getE L) L.length = L := by
  apply List.ext_getElem
  · simp [pre]
  · intro i h1 h2
    simp [pre, getE, h2]
theorem evsC_get (L : List Ev) : ∀ (i j : Nat), i < L.length → j < 5 → (evsC L)[i * 5 + j]? = (evCells (getE L i))[j]? := by
  induction L with
  | nil => intro i j h; simp at h
  | cons e L ih =>
    intro i j hi hj
    rw [evsC]
    cases i with
    | zero =>
      rw [List.getElem?_append_left (by simp [evCells]; omega)]
      simp [getE]
    | succ i =>
      rw [List.getElem?_append_right (by simp [evCells]; omega)]
      have h1 : (i + 1) * 5 + j - (evCells e).length = i * 5 + j := by simp [evCells]; omega
      rw [h1, ih i j (by simpa using hi) hj]
      simp [getE]
theorem pre_length (E : Nat → Ev) (n : Nat) : (pre E n).length = n := by simp [pre]
theorem getE_pre (E : Nat → Ev) (n i : Nat) (h : i < n) : getE (pre E n) i = E i := by simp [getE, pre, h]
/-- What came in is a source for append. -/
theorem EvsAt.src {P : Program} {w : World} {B n c : Nat} {A : Option Addr} {E : Nat → Ev} (h : EvsAt w B A n E) {tx e' : TypeId} (hk : P.underlying tx = some (.slice e')) (hA : n = 0 → A = none) : Src P 5 tx (.slice A n c) n (evsC (pre E n)) w := by
  by_cases h0 : n = 0
  · subst h0
    rw [hA rfl]
    exact Src.ofNil w hk c
  · obtain ⟨b, off, rfl, hb, hc⟩ := h (by omega)
    refine Src.ofSlice w hk _ n c _ (by rw [evsC_length, pre_length]) (fun j u hu => ?_) (evsC_one _)
    have hj : j < n * 5 := by have := (List.getElem?_eq_some_iff.1 hu).1; rwa [evsC_length, pre_length] at this
    have h1 : j = j / 5 * 5 + j % 5 := by omega
    have h2 : j / 5 < n := by omega
    rw [h1, evsC_get _ _ _ (by rw [pre_length]; exact h2) (by omega), getE_pre E n _ h2] at hu
    rw [add_flat]
    have := hc (j / 5) h2 (j % 5) u hu
    rwa [Nat.add_assoc, ← h1] at this
/-- A list of parts that a call made. -/
theorem evs_win {w : World} {a : Option Addr} {n m cap : Nat} {T : TypeId} {L : List Ev} (h : Win w T 5 (.slice a m cap) m (evsC L)) (hn : n ≤ L.length) : EvsAt w w.heap.size a n (getE L) := fun h0 => by
  have hm : 0 < m := by
    have h1 := h.1
    rw [evsC_length] at h1
    omega
  obtain ⟨g, off, cap', hv, _, _, hg, _, hc⟩ := h.form hm
  cases hv
  refine ⟨g, off, rfl, hg, fun i hi j u hu => ?_⟩
  have hj : j < 5 := (List.getElem?_eq_some_iff.1 hu).1
  have := (hc (i * 5 + j) u (by rw [evsC_get L i j (by omega) hj]; exact hu)).1
  rwa [← Nat.add_assoc] at this
theorem pre_ext {E F : Nat → Ev} {n : Nat} (h : ∀ i, i < n → E i = F i) : pre E n = pre F n := by
  unfold pre
  exact List.map_congr_left fun i hi => h i (List.mem_range.1 hi)
theorem ok_getE {L : List Ev} (h : ∀ e ∈ L, EvOk e) (i : Nat) (hi : i < L.length) : EvOk (getE L i) := by
  have : getE L i ∈ L := by
    simp only [getE, List.getElem?_eq_getElem hi, Option.getD_some]
    exact List.getElem_mem hi
  exact h _ this
theorem ok_small (k : Int) (y : Bool) (m : Nat) (t : ByteArray) (c : Int) (hk : -100 ≤ k ∧ k ≤ 100) (hm : m ≤ 100) (ht : t.size ≤ 100) (hc : -100 ≤ c ∧ c ≤ 100) : EvOk ⟨k, y, m, t, c⟩ :=
  ⟨⟨by show _ ≤ k; omega, by show k ≤ _; omega⟩, by show m < _; omega, ⟨by show _ ≤ c; omega, by show c ≤ _; omega⟩, by show t.size ≤ _; omega⟩
theorem win_list (w : World) (L : List Ev) (T : TypeId) (m : Nat) (hm : L.length = m) (h0 : m ≤ 900) : Win (w.alloc (.cells (evsC L).toArray T)) T 5 (.slice (some ⟨w.heap.size, 0, none⟩) m m) m (evsC L) := by
  have hl := evsC_length L
  rw [hm] at hl
  exact ⟨hl, .inr ⟨w.heap.size, 0, m, _, rfl, heap_alloc_new w _, Nat.le_refl _, by simp [hl], by unfold maxLen; omega, by simp [← hl]⟩⟩
/-- What came in is a source for append. -/
theorem EvsAt.from {P : Program} {w : World} {B n c : Nat} {A : Option Addr} {E : Nat → Ev} (h : EvsAt w B A n E) {tx e' : TypeId} (hk : P.underlying tx = some (.slice e')) : Src P 5 tx (.slice A n c) n (evsC (pre E n)) w := by
  by_cases h0 : n = 0
  · subst h0
    cases A with
    | none => exact Src.ofNil w hk c
    | some a => exact Src.ofSlice w hk a 0 c _ (by simp [pre, evsC]) (fun j u hu => by simp [pre, evsC] at hu) (evsC_one _)
  · exact h.src hk (fun h1 => absurd h1 h0)
theorem info_ev : (Try.prog.info? 40).map (fun i => (i.zero, i.size, i.bytes)) = some (some (.agg #[.int .i64 0, .bool false, .int .u64 0, .string ⟨#[]⟩, .int .i64 0]), 5, 48) := by kernel_rfl
/-- A list that a call made, of blocks that were not there. -/
def Made (w0 w : World) (v : Value) (n : Nat) (L : List Ev) : Prop := Below w0.heap.size w0 w ∧ Win w 40 5 v n (evsC L) ∧ ∀ k ∈ Value.owner v, w0.heap.size ≤ k
theorem Made.go {w0 w w' : World} {v : Value} {n : Nat} {L : List Ev} (h : Made w0 w v n L) (k : Below w.heap.size w w') : Made w0 w' v n L :=
  ⟨up_trans h.1 k, h.2.1.keep fun g hg => k.block g (h.2.1.lt g hg), h.2.2⟩
/-- More of them. -/
theorem made_more {w0 wA w w2 : World} {v v' : Value} {n m : Nat} {L K : List Ev} (h : Made w0 wA v n L) (hA : Below wA.heap.size wA w) (hW : Win w2 40 5 v' (n + m) (evsC L ++ evsC K)) (hG : w.grownBy w2 v.ownBlock)
    (hO : v'.ownBlock = v.ownBlock ∨ v'.ownBlock = some w.heap.size ∧ w.heap.size < w2.heap.size) : Made w0 w2 v' (n + m) (L ++ K) := by
  have hw0 : w0.heap.size ≤ w.heap.size := Nat.le_trans h.1.size hA.size
  refine ⟨(up_trans h.1 hA).grown hG hw0 (fun k hk => h.2.2 k ((ob_iff _ _).1 hk)), by rw [evsC_append]; exact hW, fun k hk => ?_⟩
  rcases hO with e | ⟨e, _⟩
  · exact h.2.2 k ((ob_iff _ _).1 (e ▸ (ob_iff _ _).2 hk))
  · have := (ob_iff _ _).2 hk
    rw [e] at this
    cases this
    exact hw0
theorem made_nil (w : World) : Made w w (.slice none 0 0) 0 [] := ⟨Below.refl _ _, Win.nil_ _ _ _, fun k hk => by simp [Value.owner] at hk⟩
theorem evs_one (e : Ev) : evsC [e] = evCells e := by simp [evsC]
theorem slice_hi {t : TypeId} {g off n cap k : Nat} (ht : Try.prog.underlying t = some (.slice 40)) (hk : k ≤ cap) (W : World) :
    (Instr.slice t (.slice (some ⟨g, off, none⟩) n cap) none (some (.int .i64 (k : Int))) none).run Try.prog W = .ok (.slice (some ⟨g, off, none⟩) k cap) W := by
  have ht' : Try.prog.underlying t = some (.slice (Try.prog.elem t)) := by simp [Program.elem, ht]
  have he : Try.prog.elem t = 40 := by simp [Program.elem, ht]
  have hz : ∀ W, (Go.sizeOf 40).run Try.prog W = .ok 5 W := fun W => by kernel_rfl
  rw [run_slice_h W t _ _ _ ht' .i64 _ (by omega) (by omega), he, hz]
  by_cases h0 : cap = 0 <;> simp [Result.andThen, sliced, h0, add_flat]
theorem EvsAt.grow {w w' : World} {n : Nat} {A : Option Addr} {E : Nat → Ev} (h : EvsAt w w.heap.size A n E) (k : Below w.heap.size w w') : EvsAt w' w'.heap.size A n E := fun h0 => by
  obtain ⟨b, off, hA, hb, hc⟩ := h.below k h0
  exact ⟨b, off, hA, Nat.lt_of_lt_of_le hb k.size, hc⟩
/-- A list that a call wrote out. -/
theorem made_new {w wr : World} (h : Below w.heap.size w wr) (L : List Ev) (m : Nat) (hm : L.length = m) (h0 : m ≤ 900) : Made w (wr.alloc (.cells (evsC L).toArray 40)) (.slice (some ⟨wr.heap.size, 0, none⟩) m m) m L :=
  ⟨up_alloc h _, win_list wr L _ m hm h0, fun k hk => by simp [Value.owner] at hk; subst hk; exact h.size⟩
end Go.Proofs.Ytgknpheefbfnlaa
/-
  LISTS OF PARTS AS VALUES ([]any) that a call makes and grows; the machine of JinPure over the tokens, one by one.
-/
namespace Go.Proofs.Ytgknpheefbfnlaa
open Go.RowKit
open Go.Lib
theorem info_any : (Try.prog.info? 20).map (fun i => (i.zero, i.size, i.bytes)) = some (some .nilIface, 1, 16) := by kernel_rfl
/-- A list of parts as values, of blocks that were not there. -/
structure Vls (w0 w : World) (v : Value) (L : List Ev) : Prop where
  win : Win w 20 1 v L.length (L.map valE)
  new : ∀ k ∈ Value.owner v, w0.heap.size ≤ k
theorem Vls.nil_ (w0 w : World) : Vls w0 w (.slice none 0 0) [] := ⟨Win.nil_ _ _ _, fun k hk => by simp [Value.owner] at hk⟩
theorem Vls.keep {w0 w w' : World} {v : Value} {L : List Ev} (h : Vls w0 w v L) (hk : ∀ k, k < w.heap.size → w0.heap.size ≤ k → w'.heap[k]? = w.heap[k]?) : Vls w0 w' v L :=
  ⟨h.win.keep fun k ho => hk k (h.win.lt k ho) (h.new k ho), h.new⟩
theorem Vls.go {w0 w w' : World} {v : Value} {L : List Ev} (h : Vls w0 w v L) (k : Below w.heap.size w w') : Vls w0 w' v L := h.keep fun i hi _ => k.block i hi
theorem Vls.sub {w0 w w' : World} {v : Value} {L : List Ev} {b o n : Nat} (h : Vls w0 w v L) (k : Sub b o n w w') (hb : b < w0.heap.size) : Vls w0 w' v L :=
  h.keep fun i hi h0 => k.step.block i hi (by simp only [List.mem_singleton]; omega)
theorem Vls.old {w0 w1 w : World} {v : Value} {L : List Ev} (h : Vls w0 w v L) (hs : w1.heap.size ≤ w0.heap.size) : Vls w1 w v L := ⟨h.win, fun k hk => Nat.le_trans hs (h.new k hk)⟩
theorem Vls.form {w0 w : World} {v : Value} {L : List Ev} (h : Vls w0 w v L) : ∃ a c, v = .slice a L.length c := by
  obtain ⟨a, c, h, _, _⟩ := h.win.slice_form
  exact ⟨a, c, h⟩
theorem vals_one (L : List Ev) : ∀ u ∈ L.map valE, u.oneCell' = true := by
  intro u hu
  obtain ⟨e, _, rfl⟩ := List.mem_map.1 hu
  unfold valE
  repeat' split
  all_goals rfl
/-- One more, or none. -/
theorem vls_more {w0 w w2 : World} {v v' : Value} {L K : List Ev} {n m : Nat} (h : Vls w0 w v L) (hn : L.length = n) (hm : K.length = m) (hs : w0.heap.size ≤ w.heap.size) (hW : Win w2 20 1 v' (n + m) (L.map valE ++ K.map valE))
    (hO : v'.ownBlock = v.ownBlock ∨ v'.ownBlock = some w.heap.size ∧ w.heap.size < w2.heap.size) : Vls w0 w2 v' (L ++ K) := by
  refine ⟨by rw [List.length_append, List.map_append, hn, hm]; exact hW, fun k hk => ?_⟩
  rcases hO with e | ⟨e, _⟩
  · exact h.new k ((ob_iff _ _).1 (e ▸ (ob_iff _ _).2 hk))
  · have := (ob_iff _ _).2 hk
    rw [e] at this
    cases this
    exact hs
end Go.Proofs.Ytgknpheefbfnlaa
/-
  CONTRACT of truchmanbook.SameEvs: two lists that hold the same.
-/
namespace Go.Proofs.Ytgknpheefbfnlaa
open Go.RowKit
open Go.Lib
/-- Two lists that hold the same. -/
theorem same_evs (A A' : Option Addr) (n cp cp' : Nat) (E : Nat → Ev) (w : World) (hn : n ≤ 900) (hE : EvsAt w w.heap.size A n E) (hE' : EvsAt w w.heap.size A' n E) :
    Calls Try.prog 19 #[.slice A n cp, .slice A' n cp'] w fun r w' => r = .returned (.bool true) ∧ Below w.heap.size w w' := by
  have HE := Lib.hid hE
  have HE' := Lib.hid hE'
  clear hE hE'
  go_enter Try.func19, Try.ntmps19
  go_wp2
  go_loopw [5] (fun i wr => ∃ j : Nat, i = .int .i64 j ∧ j ≤ n ∧ Hid (Below w.heap.size w wr)) (fun i _ => n - (RowKit.intOf i).toNat)
  case atStart => exact ⟨0, rfl, by omega, Lib.hid (Below.refl _ _)⟩
  case round =>
    obtain ⟨j, rfl, hjn, HB⟩ := hrel
    by_cases hlt : j < n
    · obtain ⟨b, off, rfl, hb, x0, x1, x2, x3, x4⟩ := (HE.out.below HB.out).cells hlt
      obtain ⟨b', off', rfl, hb', y0, y1, y2, y3, y4⟩ := (HE'.out.below HB.out).cells hlt
      have he := fun W => ev_eql (E j) (E j) W
      rw [sameE_refl] at he
      generalize E j = e at *
      obtain ⟨k, y, m, t, c⟩ := e
      simp only [evV] at he x0 x1 x2 x3 x4 y0 y1 y2 y3 y4
      go_wp2
      go_quiet (fail)
      go_wp2
      go_roundw
      case rel => exact ⟨j + 1, rfl, hlt, Lib.hid (below_drN HB.out _)⟩
      case measure => simp [RowKit.intOf]; omega
    · obtain rfl : j = n := by omega
      go_wp2
      go_ret
      exact ⟨rfl, HB.out⟩
end Go.Proofs.Ytgknpheefbfnlaa
/-
  THE DOCUMENT'S OWN STACK: open containers as a list of truchmanref1.Box.
-/
namespace Go.Proofs.Ytgknpheefbfnlaa
open Go.RowKit
open Go.Lib
/-- The open containers, as a list of boxes. -/
structure Stk (M B : Nat) (w : World) (s : List Bx) (v : Value) : Prop where
  win : Win w 74 3 v s.length (bxsL s)
  vB : ∀ k ∈ Value.owner v, B ≤ k
  ok : ∀ b ∈ s, (-1 ≤ b.c ∧ b.c ≤ 9223372036854775807) ∧ b.have_ ≤ M
  deep : s.length ≤ 800
  most : M ≤ 1000
/-- Of the blocks below B only b may have turned. -/
structure Bew (B b : Nat) (w w' : World) : Prop where
  os : w'.os = w.os
  tape : w'.tape = w.tape
  output : w'.output = w.output
  size : w.heap.size ≤ w'.heap.size
  block : ∀ k, k < B → k ≠ b → w'.heap[k]? = w.heap[k]?
theorem _root_.Go.RowKit.Below.bew {B b : Nat} {w w' : World} (h : Below B w w') : Bew B b w w' := ⟨h.os, h.tape, h.output, h.size, fun k hk _ => h.block k hk⟩
theorem Bew.trans {B b : Nat} {w w1 w2 : World} (h : Bew B b w w1) (k : Bew B b w1 w2) : Bew B b w w2 :=
  ⟨k.os.trans h.os, k.tape.trans h.tape, k.output.trans h.output, Nat.le_trans h.size k.size, fun i hi hb => (k.block i hi hb).trans (h.block i hi hb)⟩
theorem Bew.set {B b : Nat} {w w' : World} (h : Bew B b w w') (i : Nat) (v : Value) : Bew B b w (w'.setCell ⟨b, i, none⟩ v) :=
  ⟨h.os, h.tape, h.output, Nat.le_trans h.size (by simp [World.setCell]), fun k hk hb => (Below.heap_setCell w' ⟨b, i, none⟩ v k (fun e => hb e)).trans (h.block k hk hb)⟩
theorem Bew.setFar {B b : Nat} {w w' : World} (h : Bew B b w w') {p : Addr} (hp : B ≤ p.block) (v : Value) : Bew B b w (w'.setCell p v) :=
  ⟨h.os, h.tape, h.output, Nat.le_trans h.size (by simp [World.setCell]), fun k hk hb => (Below.heap_setCell w' p v k (fun e => by subst e; omega)).trans (h.block k hk hb)⟩
theorem Bew.mono {B C b : Nat} {w w' : World} (h : Bew B b w w') (hC : C ≤ B) : Bew C b w w' := ⟨h.os, h.tape, h.output, h.size, fun k hk hb => h.block k (Nat.lt_of_lt_of_le hk hC) hb⟩
theorem Bew.below {B C b : Nat} {w w' : World} (h : Bew B b w w') (hC : C ≤ B) (hb : C ≤ b) : Below C w w' := ⟨h.os, h.tape, h.output, h.size, fun k hk => h.block k (Nat.lt_of_lt_of_le hk hC) (by omega)⟩
/-- What append made is nobody's but its own. -/
theorem Stk.zero {M B : Nat} {w : World} {s : List Bx} {v : Value} (h : Stk M B w s v) : Stk M 0 w s v := ⟨h.win, fun _ _ => Nat.zero_le _, h.ok, h.deep, h.most⟩
theorem Stk.go {M B : Nat} {w w' : World} {s : List Bx} {v : Value} (h : Stk M B w s v) (k : Below w.heap.size w w') : Stk M B w' s v :=
  ⟨h.win.keep fun g hg => k.block g (h.win.lt g hg), h.vB, h.ok, h.deep, h.most⟩
theorem Stk.last {M B : Nat} {w : World} {b : Bx} {r : List Bx} {v : Value} (h : Stk M B w (b :: r) v) :
    ∃ g off N cap, v = .slice (some ⟨g, off, none⟩) N cap ∧ N = r.length + 1 ∧ N ≤ 9223372036854775807 ∧
      (w.cell? ⟨g, off + r.length * 3, none⟩ = some (.bool b.map) ∧ w.cell? ⟨g, off + r.length * 3 + 1, none⟩ = some (.int .i64 b.c) ∧ w.cell? ⟨g, off + r.length * 3 + 2, none⟩ = some (.int .i64 (b.have_ : Int))) ∧
      (w.frozen? ⟨g, off + r.length * 3, none⟩ = false ∧ w.frozen? ⟨g, off + r.length * 3 + 1, none⟩ = false ∧ w.frozen? ⟨g, off + r.length * 3 + 2, none⟩ = false) := by
  obtain ⟨g, off, cap, rfl, h1, h2, _, _, h3⟩ := h.win.form (by simp)
  have hl := bxsL_length r
  have hx : ∀ j u, (bxL b)[j]? = some u → w.cell? ⟨g, off + (r.length * 3 + j), none⟩ = some u ∧ w.frozen? ⟨g, off + (r.length * 3 + j), none⟩ = false := fun j u hu => by
    refine h3 _ u ?_
    rw [bxsL, ← hl, List.getElem?_append_right (by omega), Nat.add_sub_cancel_left]
    exact hu
  have x0 := hx 0 _ rfl
  have x1 := hx 1 _ rfl
  have x2 := hx 2 _ rfl
  simp only [← Nat.add_assoc, Nat.add_zero] at x0 x1 x2
  refine ⟨g, off, _, cap, rfl, by simp, ?_, ⟨x0.1, x1.1, x2.1⟩, ⟨x0.2, x1.2, x2.2⟩⟩
  unfold maxLen at h2
  simp only [List.length_cons] at h1 ⊢
  omega
theorem Stk.up {M B : Nat} {w : World} {s : List Bx} {v : Value} (h : Stk M B w s v) (hM : M + 1 ≤ 1000) : Stk (M + 1) B w s v :=
  ⟨h.win, h.vB, fun b hb => ⟨(h.ok b hb).1, Nat.le_succ_of_le (h.ok b hb).2⟩, h.deep, hM⟩
theorem Stk.inc {M B : Nat} {w : World} {b : Bx} {r : List Bx} {g off cap N : Nat} (h : Stk M B w (b :: r) (.slice (some ⟨g, off, none⟩) N cap)) (hM : M + 1 ≤ 1000) (hN : N = r.length + 1) :
    Stk (M + 1) B (w.setCell ⟨g, off + r.length * 3 + 2, none⟩ (.int .i64 ((b.have_ : Int) + 1))) (incB (b :: r)) (.slice (some ⟨g, off, none⟩) N cap) ∧ B ≤ g := by
  subst hN
  have hw := h.win.store (r.length * 3 + 2) (by rw [bxsL_length]; simp; omega) (.int .i64 ((b.have_ : Int) + 1))
  have hx : (bxsL (b :: r)).set (r.length * 3 + 2) (.int .i64 ((b.have_ : Int) + 1)) = bxsL (incB (b :: r)) := by
    simp only [bxsL, incB]
    rw [← bxsL_length, List.set_append, if_neg (by omega), Nat.add_sub_cancel_left]
    rfl
  rw [hx, ← Nat.add_assoc] at hw
  refine ⟨⟨hw, h.vB, fun x hx => ?_, h.deep, hM⟩, h.vB g (by simp [Value.owner])⟩
  simp only [incB, List.mem_cons] at hx
  rcases hx with rfl | hx
  · have := h.ok b (by simp)
    exact ⟨this.1, by simp only; omega⟩
  · have := h.ok x (List.mem_cons_of_mem _ hx)
    exact ⟨this.1, by omega⟩
/-- A slice that append made of old elements and new ones. -/
theorem stk_new {M B : Nat} {w w2 : World} {s : List Bx} {v v' : Value} (hB : B ≤ w.heap.size) (hv : ∀ k ∈ Value.owner v, B ≤ k) {n : Nat} {xs : List Value} (hn : n = s.length) (hx : xs = bxsL s)
    (hW : Win w2 74 3 v' n xs) (hG : w.grownBy w2 v.ownBlock) (hO : v'.ownBlock = v.ownBlock ∨ v'.ownBlock = some w.heap.size ∧ w.heap.size < w2.heap.size)
    (ok : ∀ b ∈ s, (-1 ≤ b.c ∧ b.c ≤ 9223372036854775807) ∧ b.have_ ≤ M) (deep : s.length ≤ 800) (most : M ≤ 1000) : Stk M B w2 s v' ∧ Below B w w2 := by
  subst hn hx
  refine ⟨⟨hW, fun k hk => ?_, ok, deep, most⟩, (Below.refl B w).grown hG hB fun k hk => hv k ((ob_iff _ _).1 hk)⟩
  rcases hO with e | ⟨e, _⟩
  · exact hv k ((ob_iff _ _).1 (e ▸ (ob_iff _ _).2 hk))
  · have := (ob_iff _ _).2 hk
    rw [e] at this
    cases this
    exact hB
theorem info_rbox : (Try.prog.info? 74).map (fun i => (i.zero, i.size, i.bytes)) = some (some (.agg #[.bool false, .int .i64 0, .int .i64 0]), 3, 24) := by kernel_rfl
end Go.Proofs.Ytgknpheefbfnlaa
