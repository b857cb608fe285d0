/-
  LISTS OF PARTS AS VALUES ([]any) that a call makes and grows; the machine of JinPure over the tokens, one by one.
-/
import Derived.Test.YtkfidnfnehnhoaaEvEq
import Derived.Test.YtkfidnfnehnhoaaRoom
import Derived.Test.YtkfidnfnehnhoaaLst
namespace Go.Proofs.Ytkfidnfnehnhoaa
open Go.RowKit
open Go.Lib
theorem info_any : (Try.prog.info? 20).map (fun i => (i.zero, i.size, i.bytes)) = some (some .nilIface, 1, 16) := by kernel_rfl
/-- A list of parts as values, of blocks that were not there. -/
structure Vls (w0 w : World) (v : Value) (L : List Ev) : Prop where
  win : Win w 20 1 v L.length (L.map valE)
  new : ∀ k ∈ Value.owner v, w0.heap.size ≤ k
theorem Vls.nil_ (w0 w : World) : Vls w0 w (.slice none 0 0) [] := ⟨Win.nil_ _ _ _, fun k hk => by simp [Value.owner] at hk⟩
theorem Vls.keep {w0 w w' : World} {v : Value} {L : List Ev} (h : Vls w0 w v L) (hk : ∀ k, k < w.heap.size → w0.heap.size ≤ k → w'.heap[k]? = w.heap[k]?) : Vls w0 w' v L :=
  ⟨h.win.keep fun k ho => hk k (h.win.lt k ho) (h.new k ho), h.new⟩
theorem Vls.go {w0 w w' : World} {v : Value} {L : List Ev} (h : Vls w0 w v L) (k : Below w.heap.size w w') : Vls w0 w' v L := h.keep fun i hi _ => k.block i hi
theorem Vls.sub {w0 w w' : World} {v : Value} {L : List Ev} {b o n : Nat} (h : Vls w0 w v L) (k : Sub b o n w w') (hb : b < w0.heap.size) : Vls w0 w' v L :=
  h.keep fun i hi h0 => k.step.block i hi (by simp only [List.mem_singleton]; omega)
theorem Vls.old {w0 w1 w : World} {v : Value} {L : List Ev} (h : Vls w0 w v L) (hs : w1.heap.size ≤ w0.heap.size) : Vls w1 w v L := ⟨h.win, fun k hk => Nat.le_trans hs (h.new k hk)⟩
theorem Vls.form {w0 w : World} {v : Value} {L : List Ev} (h : Vls w0 w v L) : ∃ a c, v = .slice a L.length c := by
  obtain ⟨a, c, h, _, _⟩ := h.win.slice_form
  exact ⟨a, c, h⟩
theorem vals_one (L : List Ev) : ∀ u ∈ L.map valE, u.oneCell' = true := by
  intro u hu
  obtain ⟨e, _, rfl⟩ := List.mem_map.1 hu
  unfold valE
  repeat' split
  all_goals rfl
/-- One more, or none. -/
theorem vls_more {w0 w w2 : World} {v v' : Value} {L K : List Ev} {n m : Nat} (h : Vls w0 w v L) (hn : L.length = n) (hm : K.length = m) (hs : w0.heap.size ≤ w.heap.size) (hW : Win w2 20 1 v' (n + m) (L.map valE ++ K.map valE))
    (hO : v'.ownBlock = v.ownBlock ∨ v'.ownBlock = some w.heap.size ∧ w.heap.size < w2.heap.size) : Vls w0 w2 v' (L ++ K) := by
  refine ⟨by rw [List.length_append, List.map_append, hn, hm]; exact hW, fun k hk => ?_⟩
  rcases hO with e | ⟨e, _⟩
  · exact h.new k ((ob_iff _ _).1 (e ▸ (ob_iff _ _).2 hk))
  · have := (ob_iff _ _).2 hk
    rw [e] at this
    cases this
    exact hs
end Go.Proofs.Ytkfidnfnehnhoaa
