/-
  GENERAL, NO PROGRAM NEEDED: A STRUCTURE WITHIN A BLOCK: its cells from an offset on; a step that turns those cells alone.
-/
import Derived.Test.YtkfidnfnehnhoaaWin
import Derived.Lib.OthersKept
namespace Go.Proofs.Ytkfidnfnehnhoaa
open Go.RowKit
open Go.Lib
/-- The cells of block b from o on hold vs, none is frozen. -/
def At (w : World) (b o : Nat) (vs : List Value) : Prop := ∀ j u, vs[j]? = some u → w.cell? ⟨b, o + j, none⟩ = some u ∧ w.frozen? ⟨b, o + j, none⟩ = false
/-- Of the blocks that there are b alone may have turned, and of it the n cells from o on. -/
structure Sub (b o n : Nat) (w w' : World) : Prop where
  step : Step [b] [b] w w'
  shape : ∀ (c : Array Value) (t : TypeId) (fr : Nat × Nat), w.heap[b]? = some (.cells c t fr) → ∃ c' : Array Value, w'.heap[b]? = some (.cells c' t fr) ∧ c'.size = c.size
  cell : ∀ k, (k < o ∨ o + n ≤ k) → w'.cell? ⟨b, k, none⟩ = w.cell? ⟨b, k, none⟩
theorem Sub.refl (b o n : Nat) (w : World) : Sub b o n w w := ⟨Step.refl _ _, fun c _ _ h => ⟨c, h, rfl⟩, fun _ _ => rfl⟩
theorem Sub.trans {b o n : Nat} {w w1 w2 : World} (h : Sub b o n w w1) (k : Sub b o n w1 w2) : Sub b o n w w2 :=
  ⟨h.step.trans k.step, fun c t fr hc => by
    obtain ⟨c1, h1, s1⟩ := h.shape c t fr hc
    obtain ⟨c2, h2, s2⟩ := k.shape c1 t fr h1
    exact ⟨c2, h2, s2.trans s1⟩, fun i hi => (k.cell i hi).trans (h.cell i hi)⟩
theorem Sub.widen {b o n o' n' : Nat} {w w' : World} (h : Sub b o n w w') (h1 : o' ≤ o) (h2 : o + n ≤ o' + n') : Sub b o' n' w w' :=
  ⟨h.step, h.shape, fun k hk => h.cell k (by omega)⟩
theorem Sub.drewN {b o n : Nat} {w w' : World} (h : Sub b o n w w') (q : Nat) : Sub b o n w (w'.drewN q) := ⟨h.step.drewN q, h.shape, h.cell⟩
theorem Sub.drew {b o n : Nat} {w w' : World} (h : Sub b o n w w') : Sub b o n w w'.drew := h.drewN 1
theorem sub_alloc (b o n : Nat) (w : World) (x : Obj) (hb : b < w.heap.size) : Sub b o n w (w.alloc x) := by
  have he : ∀ k, k < w.heap.size → (w.alloc x).heap[k]? = w.heap[k]? := fun k hk => Below.heap_alloc w x k hk
  refine ⟨⟨rfl, rfl, rfl, by simp, fun k hk _ => he k hk, fun _ h => .inl h⟩, fun c t fr hc => ⟨c, (he b hb).trans hc, rfl⟩, fun k _ => World.cell?_of_block (w := w) (he b hb)⟩
theorem Sub.alloc {b o n : Nat} {w w' : World} (h : Sub b o n w w') (x : Obj) (hb : b < w.heap.size) : Sub b o n w (w'.alloc x) :=
  h.trans (sub_alloc b o n w' x (Nat.lt_of_lt_of_le hb h.step.size))
theorem heap_setCell_at (w : World) (p : Addr) (v : Value) (c : Array Value) (t : TypeId) (fr : Nat × Nat) (hp : p.spot = none) (h : w.heap[p.block]? = some (.cells c t fr)) :
    (w.setCell p v).heap[p.block]? = some (.cells (c.setIfInBounds p.off v) t fr) := by
  unfold World.setCell
  simp [Array.getElem?_modify, h, hp]
theorem cell_setCell_ne (w : World) (b k j : Nat) (v : Value) (h : k ≠ j) : (w.setCell ⟨b, j, none⟩ v).cell? ⟨b, k, none⟩ = w.cell? ⟨b, k, none⟩ := by
  unfold World.cell?
  cases hb : w.heap[b]? with
  | none =>
    have : (w.setCell ⟨b, j, none⟩ v).heap[b]? = none := by
      unfold World.setCell
      simp [Array.getElem?_modify, hb]
    simp [this]
  | some x =>
    cases x with
    | cells c t fr =>
      have := heap_setCell_at w ⟨b, j, none⟩ v c t fr rfl hb
      simp only [] at this
      rw [this]
      simp [show j ≠ k from fun e => h e.symm]
    | _ =>
      unfold World.setCell
      simp [Array.getElem?_modify, hb]
theorem sub_setCell {b o n : Nat} (w : World) (k : Nat) (v : Value) (h : o ≤ k ∧ k < o + n) : Sub b o n w (w.setCell ⟨b, k, none⟩ v) :=
  ⟨step_setCell [b] w ⟨b, k, none⟩ v (by simp), fun c t fr hc => ⟨_, heap_setCell_at w ⟨b, k, none⟩ v c t fr rfl hc, by simp⟩, fun i hi => cell_setCell_ne w b i k v (by omega)⟩
theorem Sub.setCell {b o n : Nat} {w w' : World} (h : Sub b o n w w') (k : Nat) (v : Value) (hk : o ≤ k ∧ k < o + n) : Sub b o n w (w'.setCell ⟨b, k, none⟩ v) := h.trans (sub_setCell w' k v hk)
theorem Sub.frozen {b o n : Nat} {w w' : World} (h : Sub b o n w w') (c : Array Value) (t : TypeId) (fr : Nat × Nat) (hc : w.heap[b]? = some (.cells c t fr)) (k : Nat) : w'.frozen? ⟨b, k, none⟩ = w.frozen? ⟨b, k, none⟩ := by
  obtain ⟨c', h', _⟩ := h.shape c t fr hc
  unfold World.frozen?
  simp only [hc, h']
theorem Sub.below {b o n B : Nat} {w w' : World} (h : Sub b o n w w') (hB : B ≤ b) (hw : B ≤ w.heap.size) : Below B w w' := h.step.below (by simpa using hB) hw
theorem cell_block {w : World} {b k : Nat} {u : Value} (h : w.cell? ⟨b, k, none⟩ = some u) : ∃ c t fr, w.heap[b]? = some (.cells c t fr) ∧ c[k]? = some u := by
  unfold World.cell? at h
  cases hb : w.heap[b]? with
  | none => simp [hb] at h
  | some x =>
    cases x with
    | cells c t fr => exact ⟨c, t, fr, rfl, by simpa [hb] using h⟩
    | _ => simp [hb] at h
theorem At.block {w : World} {b o : Nat} {vs : List Value} (h : At w b o vs) (hv : vs ≠ []) : ∃ c t fr, w.heap[b]? = some (.cells c t fr) := by
  match vs, hv with
  | v :: _, _ =>
    obtain ⟨c, t, fr, hc, _⟩ := cell_block (h 0 v rfl).1
    exact ⟨c, t, fr, hc⟩
theorem At.lt {w : World} {b o : Nat} {vs : List Value} (h : At w b o vs) (hv : vs ≠ []) : b < w.heap.size := by
  obtain ⟨c, t, fr, hc⟩ := h.block hv
  exact (Array.getElem?_eq_some_iff.1 hc).1
theorem At.nil_ (w : World) (b o : Nat) : At w b o [] := fun j u h => by simp at h
/-- What lies beside the turned cells, in the same block. -/
theorem At.sub {w w' : World} {b o n o' : Nat} {vs : List Value} (h : At w b o' vs) (k : Sub b o n w w') (hd : o' + vs.length ≤ o ∨ o + n ≤ o') : At w' b o' vs := fun j u hj => by
  have hlt : j < vs.length := (List.getElem?_eq_some_iff.1 hj).1
  obtain ⟨h1, h2⟩ := h j u hj
  obtain ⟨c, t, fr, hc, _⟩ := cell_block h1
  exact ⟨(k.cell _ (by omega)).trans h1, (k.frozen c t fr hc _).trans h2⟩
theorem At.keep {w w' : World} {b o : Nat} {vs : List Value} (h : At w b o vs) (hk : w'.heap[b]? = w.heap[b]?) : At w' b o vs := fun j u hj => by
  obtain ⟨h1, h2⟩ := h j u hj
  exact ⟨(World.cell?_of_block (w := w) (a := ⟨b, o + j, none⟩) hk).trans h1, (World.frozen?_of_block (w := w) (a := ⟨b, o + j, none⟩) hk).trans h2⟩
theorem At.other {w w' : World} {b b' o n o' : Nat} {vs : List Value} (h : At w b' o' vs) (k : Sub b o n w w') (hne : b' ≠ b) (hv : vs ≠ []) : At w' b' o' vs :=
  h.keep (k.step.block b' (h.lt hv) (by simpa using hne))
theorem At.below {w w' : World} {b o B : Nat} {vs : List Value} (h : At w b o vs) (k : Below B w w') (hB : b < B) : At w' b o vs := h.keep (k.block b hB)
theorem At.alloc {w : World} {b o : Nat} {vs : List Value} (h : At w b o vs) (hv : vs ≠ []) (x : Obj) : At (w.alloc x) b o vs := h.keep (Below.heap_alloc w x b (h.lt hv))
theorem At.set {w : World} {b o : Nat} {vs : List Value} (h : At w b o vs) (k : Nat) (hk : k < vs.length) (v : Value) : At (w.setCell ⟨b, o + k, none⟩ v) b o (vs.set k v) := fun j u hj => by
  have hs := sub_setCell (b := b) (o := o + k) (n := 1) w (o + k) v (by omega)
  obtain ⟨h1, h2⟩ := h k vs[k] (List.getElem?_eq_getElem hk)
  obtain ⟨c, t, fr, hc, hcu⟩ := cell_block h1
  by_cases e : j = k
  · subst e
    have : u = v := by simpa [hk] using hj.symm
    subst this
    refine ⟨?_, (hs.frozen c t fr hc _).trans h2⟩
    have hh := heap_setCell_at w ⟨b, o + j, none⟩ u c t fr rfl hc
    have hlt : o + j < c.size := (Array.getElem?_eq_some_iff.1 hcu).1
    unfold World.cell?
    simp only [] at hh
    rw [hh]
    simp [hlt]
  · rw [List.getElem?_set_ne (fun h => e h.symm)] at hj
    obtain ⟨g1, g2⟩ := h j u hj
    exact ⟨(hs.cell _ (by omega)).trans g1, (hs.frozen c t fr hc _).trans g2⟩
theorem At.cons {w : World} {b o : Nat} {v : Value} {vs : List Value} (h : At w b o (v :: vs)) : (w.cell? ⟨b, o, none⟩ = some v ∧ w.frozen? ⟨b, o, none⟩ = false) ∧ At w b (o + 1) vs :=
  ⟨h 0 v rfl, fun j u hj => by
    have := h (j + 1) u (by simpa using hj)
    rw [show o + 1 + j = o + (j + 1) by omega]
    exact this⟩
theorem at_cons {w : World} {b o : Nat} {v : Value} {vs : List Value} (h : w.cell? ⟨b, o, none⟩ = some v ∧ w.frozen? ⟨b, o, none⟩ = false) (ht : At w b (o + 1) vs) : At w b o (v :: vs) := fun j u hj => by
  cases j with
  | zero =>
    have : u = v := by simpa using hj.symm
    subst this
    exact h
  | succ j =>
    have := ht j u (by simpa using hj)
    rw [show o + (j + 1) = o + 1 + j by omega]
    exact this
theorem At.left {w : World} {b o : Nat} {vs us : List Value} (h : At w b o (vs ++ us)) : At w b o vs := fun j u hj => h j u (by
  have := (List.getElem?_eq_some_iff.1 hj).1
  rw [List.getElem?_append_left this]
  exact hj)
theorem At.right {w : World} {b o : Nat} {vs us : List Value} (h : At w b o (vs ++ us)) : At w b (o + vs.length) us := fun j u hj => by
  have := h (vs.length + j) u (by
    rw [List.getElem?_append_right (by omega)]
    simpa using hj)
  rw [show o + vs.length + j = o + (vs.length + j) by omega]
  exact this
theorem At.append {w : World} {b o : Nat} {vs us : List Value} (h : At w b o vs) (k : At w b (o + vs.length) us) : At w b o (vs ++ us) := fun j u hj => by
  by_cases hlt : j < vs.length
  · rw [List.getElem?_append_left hlt] at hj
    exact h j u hj
  · rw [List.getElem?_append_right (by omega)] at hj
    have := k (j - vs.length) u hj
    rw [show o + vs.length + (j - vs.length) = o + j by omega] at this
    exact this
/-- A block of cells that is none of bytes stands where only bytes' rows and another block turned. -/
theorem At.kept {w w' : World} {e : TypeId} {a : Option Nat} {b o : Nat} {vs : List Value} (h : At w b o vs) (k : OthersKept e a w w') (ha : a ≠ some b) (ht : ∀ c t fr, w.heap[b]? = some (.cells c t fr) → t ≠ e) (hv : vs ≠ []) : At w' b o vs := by
  obtain ⟨c, t, fr, hc⟩ := h.block hv
  have := k b _ hc (fun e => ha e.symm) (fun c' fz he => ht c t fr hc (by injection he))
  exact h.keep (this.trans hc.symm)
end Go.Proofs.Ytkfidnfnehnhoaa
