/-
  A map[int]bool that a law keeps, as a set of places; the places between runes.
-/
import Derived.Test.YtpmbpcinfakckaaDoorUtfLawsD
import Derived.Maps.Own
import Derived.Maps.Views
namespace Go.Proofs.YtpmbpcinfakckaaDoor
open Go.RowKit
open Go.Lib
open Go.Maps
theorem int_law : Keyed Tryd.prog 3 := int_keyed Tryd.underlying3
/-- Block b holds a map of at most n entries: true at the integers of S, nothing else. -/
def MIs (w : World) (b n : Nat) (S : Int → Bool) : Prop :=
  ∃ D : DataW Unit, w.ownsMap Tryd.prog 3 (plainElem Tryd.prog 4) b n D ∧ ∀ j : Int, D.atKey (.int .i64 j) (.lit (.bool false)) = .lit (.bool (S j))
theorem MIs.lt {w : World} {b n : Nat} {S : Int → Bool} (h : MIs w b n S) : b < w.heap.size := by
  obtain ⟨D, h, _⟩ := h
  exact h.lt
theorem MIs.keep {w w' : World} {b n : Nat} {S : Int → Bool} (h : MIs w b n S) (hb : w'.heap[b]? = w.heap[b]?) : MIs w' b n S := by
  obtain ⟨D, ⟨es, clock, h1, h2, h3, h4⟩, hA⟩ := h
  exact ⟨D, ⟨es, clock, hb.trans h1, h2, h3, h4⟩, hA⟩
theorem mis_made (w : World) : MIs (w.alloc (.map #[] 0)) w.heap.size 0 (fun _ => false) := ⟨_, World.ownsMap_made w _ _ _, fun _ => rfl⟩
theorem MIs.same {w : World} {b n : Nat} {S S' : Int → Bool} (h : MIs w b n S) (he : ∀ j, S j = S' j) : MIs w b n S' := by
  obtain ⟨D, h1, h2⟩ := h
  exact ⟨D, h1, fun j => by rw [h2, he]⟩
theorem MIs.put {w' : World} {b n : Nat} {S : Int → Bool} {D : DataW Unit} {i : Int} (h : w'.ownsMap Tryd.prog 3 (plainElem Tryd.prog 4) b n (D.put (.int .i64 i) (.lit (.bool true)))) (hD : Go.Maps.IsMap D)
    (hA : ∀ j : Int, D.atKey (.int .i64 j) (.lit (.bool false)) = .lit (.bool (S j))) : MIs w' b n (fun j => S j || decide (j = i)) := by
  refine ⟨_, h, fun j => ?_⟩
  by_cases hj : j = i
  · subst hj
    rw [atKey_put_same hD (show WideAt.IsKeyLit (.int .i64 j) from trivial)]
    simp
  · rw [atKey_put_other (by intro e; injection e with _ e; exact hj e), hA]
    simp [hj]
theorem mis_step {w : World} {b n : Nat} {S : Int → Bool} {i : Int} (h : MIs w b n S) (hw : (Lit.int .i64 i).wf = true) (hn : n < maxLen) : ∃ w', (Instr.mapUpdate 46 (.map (some b)) (.int .i64 i) (.bool true)).run Tryd.prog w = .ok () w' ∧ MIs w' b (n + 1) (fun j => S j || decide (j = i)) ∧ w.grownBy w' (some b) := by
  obtain ⟨D, h1, h2⟩ := h
  have hD : Go.Maps.IsMap D := by
    obtain ⟨es, clock, _, _, _, h⟩ := h1
    exact ⟨_, h⟩
  obtain ⟨w', hr, h3, h4⟩ := h1.update int_law Tryd.underlying46 hn (keyOf_int_mk Tryd.underlying3 hw) (plainElem_bool Tryd.underlying4 true)
  exact ⟨w', hr, MIs.put h3 hD h2, h4⟩
theorem zero_bool (w : World) : (zeroValue 4).run Tryd.prog w = .ok (.bool false) w := by kernel_rfl
theorem MIs.look {w : World} {b n : Nat} {S : Int → Bool} (h : MIs w b n S) (i : Int) (hw : (Lit.int .i64 i).wf = true) : (Instr.lookup 46 (.map (some b)) (.int .i64 i) false).run Tryd.prog w = .ok (.bool (S i)) w := by
  obtain ⟨D, h1, h2⟩ := h
  obtain ⟨v, ps, hr, hv⟩ := h1.lookup int_law Tryd.underlying46 (zero_bool w) (plainElem_bool Tryd.underlying4 false) (keyOf_int_mk Tryd.underlying3 hw)
  rw [hr]
  rw [h2] at hv
  unfold plainElem at hv
  rw [Tryd.underlying4] at hv
  cases v <;> simp at hv
  rw [hv.1]
/-- A store into the map, at the operation: as a statement's, or as a literal's. -/
theorem wpList_put_mis {w : World} {ops : Array Oper} {rest : List Oper} {o : Oper} {a : Act} {Q : Exit → Act → World → Prop} (hg : o.guard = none) (m x v : Operand)
    (hop : o.op = Op.mapUpdate 46 m x v ∨ o.op = Op.insert 46 m x v) (b n : Nat) (S : Int → Bool) (hm : a.eval m = .map (some b)) (h : MIs w b n S) (hn : n < maxLen) (i : Int) (hx : a.eval x = .int .i64 i) (hv : a.eval v = .bool true) (hw : (Lit.int .i64 i).wf = true)
    (hK : ∀ w', MIs w' b (n + 1) (fun j => S j || decide (j = i)) → w.grownBy w' (some b) → wpList Tryd.prog ops Q rest (a.put o.dst undef) w') : wpList Tryd.prog ops Q (o :: rest) a w := by
  refine wpList_plain hg fun K' hK' => ?_
  obtain ⟨w', hrun, r1, r2⟩ := mis_step h hw hn
  unfold Oper.wp
  rcases hop with hop | hop
  · simp [execOp, hop, hm, hx, hv, hrun, Result.andThen]
    exact hK' _ _ (hK w' r1 r2)
  · simp [execOp, hop, hm, hx, hv, hrun, Result.andThen]
    exact hK' _ _ (hK w' r1 r2)
/-- Is place j between two runes of the text (or at an end of it)? -/
def endAt (ns : List Nat) (j : Int) : Bool := decide (0 ≤ j ∧ j ≤ ((ns.flatMap encL).length : Nat) ∧ wholeS (runS st0 ((ns.flatMap encL).take j.toNat)) = true)
theorem endAt_nil (j : Int) : (false || decide (j = 0)) = endAt [] j := by
  unfold endAt
  by_cases h : j = 0
  · subst h
    simp [runS, st0, wholeS]
  · simp [h]
    omega
theorem take_end (A B : List UInt8) (j : Nat) (h : j ≤ A.length) : (A ++ B).take j = A.take j := List.take_append_of_le_length h
theorem endAt_snoc (ns : List Nat) (n : Nat) (h : ∀ m ∈ ns, IsRune m) (hn : IsRune n) (j : Int) : (endAt ns j || decide (j = ((ns.flatMap encL).length + (encL n).length : Nat))) = endAt (ns ++ [n]) j := by
  have hl := enc_len hn
  have e : (ns ++ [n]).flatMap encL = ns.flatMap encL ++ encL n := by simp
  have hrun := run_encs ns h
  have hall := run_enc hn
  have htk := fun i h0 h1 => run_enc_take hn i h0 h1
  unfold endAt
  rw [e]
  generalize ns.flatMap encL = A at *
  generalize encL n = B at *
  by_cases h0 : 0 ≤ j
  · obtain ⟨k, rfl⟩ : ∃ k : Nat, j = k := ⟨j.toNat, by omega⟩
    simp only [Int.toNat_natCast, List.length_append]
    by_cases h1 : k ≤ A.length
    · rw [take_end A B k h1]
      have : ¬ ((k : Int) = ((A.length + B.length : Nat) : Int)) := by omega
      rw [decide_eq_false this, Bool.or_false]
      by_cases hw : wholeS (runS st0 (A.take k)) = true
      · rw [decide_eq_true ⟨by omega, by omega, hw⟩, decide_eq_true ⟨by omega, by omega, hw⟩]
      · rw [decide_eq_false (fun x => hw x.2.2), decide_eq_false (fun x => hw x.2.2)]
    · have e2 : (A ++ B).take k = A ++ B.take (k - A.length) := by rw [List.take_append, List.take_of_length_le (by omega)]
      rw [e2, runS_append, hrun, decide_eq_false (fun x => h1 (by omega)), Bool.false_or]
      by_cases h2 : k = A.length + B.length
      · subst h2
        rw [show A.length + B.length - A.length = B.length by omega, List.take_of_length_le (Nat.le_refl _), hall, decide_eq_true (by omega), decide_eq_true ⟨by omega, by omega, rfl⟩]
      · rw [decide_eq_false (by omega)]
        by_cases h3 : k < A.length + B.length
        · obtain ⟨m, lo, hi, hr, _⟩ := htk (k - A.length) (by omega) (by omega)
          rw [hr]
          rw [decide_eq_false (fun x => by simp [wholeS] at x)]
        · rw [decide_eq_false (fun x => by omega)]
  · have e1 : ¬ (j = ((A.length + B.length : Nat) : Int)) := by omega
    rw [decide_eq_false e1, decide_eq_false (fun x => h0 x.1), decide_eq_false (fun x => h0 x.1)]
    rfl
/-- What is left from a place on is UTF-8 just where the place is between runes. -/
theorem cut_drop (l : List Nat) (h : ∀ n ∈ l, IsRune n) (k : Nat) (hk : k ≤ (l.flatMap encL).length) : wholeS (runS st0 ((l.flatMap encL).drop k)) = wholeS (runS st0 ((l.flatMap encL).take k)) := by
  induction l generalizing k with
  | nil => simp [runS]
  | cons n t ih =>
    have hn := h n (by simp)
    have ht : ∀ m ∈ t, IsRune m := fun m hm => h m (by simp [hm])
    rw [List.flatMap_cons] at hk ⊢
    by_cases h0 : k = 0
    · subst h0
      rw [List.drop_zero, List.take_zero, runS_append, run_enc hn, run_encs t ht]
      rfl
    by_cases hlt : k < (encL n).length
    · rw [List.drop_append_of_le_length (by omega), run_enc_drop hn k (by omega) hlt, List.take_append_of_le_length (by omega)]
      obtain ⟨m, lo, hi, hr, _⟩ := run_enc_take hn k (by omega) hlt
      rw [hr]
      rfl
    · rw [List.drop_append, List.drop_of_length_le (by omega), List.nil_append, List.take_append, List.take_of_length_le (by omega), runS_append, run_enc hn]
      exact ih ht _ (by rw [List.length_append] at hk; omega)
theorem prefix_some (l : List Nat) (h : ∀ n ∈ l, IsRune n) (k : Nat) : runS st0 ((l.flatMap encL).take k) ≠ none := fun e => by
  have := run_none_of st0 _ k e
  rw [run_encs l h] at this
  cases this
end Go.Proofs.YtpmbpcinfakckaaDoor
