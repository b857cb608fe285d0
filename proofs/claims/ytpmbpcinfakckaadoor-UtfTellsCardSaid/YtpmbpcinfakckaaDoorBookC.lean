/-
  THE HELPERS' BOOK OF LISTS OF INTS, PART 3: what putInts and growInts leave as it was: no walk in this text.
-/
import Derived.Test.YtpmbpcinfakckaaDoorBookA
namespace Go.Proofs.YtpmbpcinfakckaaDoor
open Go.RowKit
open Go.Lib
/-- Only the blocks of F, and new ones, have turned. -/
structure Fr (F : Nat → Prop) (w w' : World) : Prop where
  os : w'.os = w.os
  tape : w'.tape = w.tape
  output : w'.output = w.output
  size : w.heap.size ≤ w'.heap.size
  block : ∀ k, k < w.heap.size → ¬ F k → w'.heap[k]? = w.heap[k]?
theorem Fr.refl (F : Nat → Prop) (w : World) : Fr F w w := ⟨rfl, rfl, rfl, Nat.le_refl _, fun _ _ _ => rfl⟩
theorem Fr.trans {F G : Nat → Prop} {a b c : World} (h : Fr F a b) (k : Fr G b c) (hG : ∀ x, G x → F x ∨ a.heap.size ≤ x) : Fr F a c :=
  ⟨k.os.trans h.os, k.tape.trans h.tape, k.output.trans h.output, Nat.le_trans h.size k.size, fun x hx hF => (k.block x (Nat.lt_of_lt_of_le hx h.size) (fun g => by
    rcases hG x g with h1 | h1
    · exact hF h1
    · omega)).trans (h.block x hx hF)⟩
theorem Fr.drew {F : Nat → Prop} {a b : World} (h : Fr F a b) : Fr F a b.drew := ⟨h.os, h.tape, h.output, h.size, h.block⟩
theorem Fr.of_below {F : Nat → Prop} {a b : World} (h : Below a.heap.size a b) : Fr F a b := ⟨h.os, h.tape, h.output, h.size, fun k hk _ => h.block k hk⟩
theorem Fr.new {F : Nat → Prop} {a b c : World} (h : Fr F a b) (k : Below b.heap.size b c) : Fr F a c := h.trans (Fr.of_below (F := fun _ => False) k) (fun _ h => h.elim)
theorem Fr.below {F : Nat → Prop} {a b : World} {B : Nat} (h : Fr F a b) (hF : ∀ x, F x → B ≤ x) (hB : B ≤ a.heap.size) : Below B a b :=
  ⟨h.os, h.tape, h.output, h.size, fun k hk => h.block k (by omega) (fun f => by have := hF k f; omega)⟩
theorem Fr.setCell {F : Nat → Prop} {a b : World} (h : Fr F a b) (p : Addr) (u : Value) (hp : F p.block ∨ a.heap.size ≤ p.block) : Fr F a (b.setCell p u) :=
  h.trans (G := fun x => x = p.block) ⟨rfl, rfl, rfl, by simp [World.setCell], fun k _ hk => Below.heap_setCell b p u k hk⟩ (fun x hx => by subst hx; exact hp)
theorem Fr.grown {F : Nat → Prop} {a b c : World} {row : Option Nat} (h : Fr F a b) (hg : b.grownBy c row) (hr : ∀ k, row = some k → F k ∨ a.heap.size ≤ k) : Fr F a c :=
  h.trans (G := fun x => row = some x) ⟨hg.os, hg.tape, hg.output, hg.size, fun k hk hx => hg.block k hk (fun e => hx e.symm)⟩ hr
theorem Fr.win {F : Nat → Prop} {a b : World} {e : TypeId} {sz n : Nat} {v : Value} {xs : List Value} (h : Fr F a b) (hv : Win a e sz v n xs) (hF : ∀ x ∈ Value.owner v, ¬ F x) : Win b e sz v n xs := hv.keep fun k hk => h.block k (hv.lt k hk) (hF k hk)
/-- Each of these slices shows its list. -/
def FamF (w : World) (vs : List Value) (c : Nat → List Int) : Prop := ∀ (i : Nat) (v : Value), vs[i]? = some v → IWin w v (c i)
/-- No two of them share memory. -/
def Disj (vs : List Value) : Prop := ∀ (i j : Nat) (v u : Value), i ≠ j → vs[i]? = some v → vs[j]? = some u → ∀ k ∈ Value.owner v, k ∉ Value.owner u
def Owns (vs : List Value) (k : Nat) : Prop := ∃ (i : Nat) (v : Value), vs[i]? = some v ∧ k ∈ Value.owner v
theorem FamF.new {w w' : World} {vs : List Value} {c : Nat → List Int} (h : FamF w vs c) (hb : Below w.heap.size w w') : FamF w' vs c := fun i v hv => (h i v hv).new hb
/-- One of them is marked at one place. -/
theorem FamF.store {w : World} {vs : List Value} {c : Nat → List Int} (h : FamF w vs c) (hd : Disj vs) {k : Nat} {g off n cap : Nat} (hk : vs[k]? = some (.slice (some ⟨g, off, none⟩) n cap)) (hn : (c k).length = n) (j : Nat) (hj : j < n) (z : Int) :
    FamF (w.setCell ⟨g, off + j, none⟩ (.int .i64 z)) vs (fun i => if i = k then (c k).set j z else c i) := by
  intro i v hv
  by_cases hik : i = k
  · subst hik
    rw [hk] at hv
    injection hv with hv
    subst hv
    simp only [if_true]
    have h0 := h i _ hk
    unfold IWin at h0 ⊢
    rw [hn] at h0
    have := Win.store h0 j (by rw [zCells_length, hn]; exact hj) (.int .i64 z)
    rw [List.length_set, hn]
    rw [show zCells ((c i).set j z) = (zCells (c i)).set j (.int .i64 z) by simp [zCells, List.map_set]]
    exact this
  · simp only [if_neg hik]
    exact Win.setCell_far (h i v hv) (p := ⟨g, off + j, none⟩) (hd k i _ v (fun e => hik e.symm) hk hv g (by simp [Value.owner])) _
theorem FamF.far {w : World} {vs : List Value} {c : Nat → List Int} (h : FamF w vs c) {F : Nat → Prop} {w' : World} (hf : Fr F w w') (hF : ∀ (i : Nat) (v : Value), vs[i]? = some v → ∀ x ∈ Value.owner v, ¬ F x) : FamF w' vs c := fun i v hv => hf.win (h i v hv) (hF i v hv)
/-- l goes on where v lies, or lies elsewhere. -/
def Ext (v l : Value) : Prop := (∃ a n n' cap, v = .slice a n cap ∧ l = .slice a n' cap ∧ n ≤ n') ∨ ∀ k ∈ Value.owner v, k ∉ Value.owner l
theorem prefix_win {w : World} {a : Option Addr} {n n' cap : Nat} {ys : List Int} (h : IWin w (.slice a n' cap) ys) (hy : ys.length = n') (hn : n ≤ n') : IWin w (.slice a n cap) (ys.take n) := by
  have hl : (ys.take n).length = n := by rw [List.length_take]; omega
  unfold IWin at *
  rw [hl]
  rw [hy] at h
  refine ⟨by rw [zCells_length, hl]; omega, ?_⟩
  rcases h.2 with ⟨h0, h1⟩ | ⟨g, off, cap', cur, h0, h1, h2, h3, h4, h5⟩
  · injection h0 with h0 h6 h7
    subst h0; subst h7
    exact .inl ⟨by rw [show n = 0 by omega], by omega⟩
  · injection h0 with h0 _ h7
    subst h0; subst h7
    refine .inr ⟨g, off, cap, cur, rfl, h1, by omega, h3, h4, ?_⟩
    have e : zCells (ys.take n) = (zCells ys).take n := by simp [zCells, List.map_take]
    rw [e, ← h5, List.take_take]
    congr 1
    omega
theorem marks_take (i n m : Nat) (h : n ≤ m) : (marks i 0 m).take n = marks i 0 n := by
  obtain ⟨d, rfl⟩ : ∃ d, m = n + d := ⟨m - n, by omega⟩
  rw [← marks_more, List.take_left' (marks_length i 0 n)]
/-- THE LIST THAT GROWS, beside the one that it began as. -/
structure Grows (W0 wi : World) (v l : Value) (k n t : Nat) : Prop where
  own : IWin wi v (marks k 0 n)
  cur : IWin wi l (marks k 0 (n + t))
  ext : Ext v l
  frame : Fr (fun x => x ∈ Value.owner v) W0 wi
  foot : ∀ x ∈ Value.owner l, x ∈ Value.owner v ∨ W0.heap.size ≤ x
theorem Grows.start {w : World} {v : Value} {k n : Nat} (h : IWin w v (marks k 0 n)) : Grows w w v v k n 0 := by
  obtain ⟨a, c, e, _, _⟩ := Win.slice_form h
  exact ⟨h, h, .inl ⟨a, _, _, c, e, e, Nat.le_refl _⟩, Fr.refl _ _, fun x hx => .inl hx⟩
theorem Grows.new {W0 wi w1 : World} {v l : Value} {k n t : Nat} (h : Grows W0 wi v l k n t) (hb : Below wi.heap.size wi w1) : Grows W0 w1 v l k n t :=
  ⟨h.own.new hb, h.cur.new hb, h.ext, h.frame.new hb, h.foot⟩
theorem Grows.more {W0 w1 w2 : World} {v l l2 : Value} {k n t m : Nat} (h : Grows W0 w1 v l k n t) (hw : Win w2 3 1 l2 (n + t + m) (zCells (marks k 0 (n + t)) ++ zCells (marks k (n + t) m))) (hg : w1.grownBy w2 l.ownBlock)
    (ht : (∃ g off cap, l = .slice (some ⟨g, off, none⟩) (n + t) cap ∧ l2 = .slice (some ⟨g, off, none⟩) (n + t + m) cap) ∨ l2.ownBlock = some w1.heap.size ∧ w1.heap.size < w2.heap.size ∧ Below w1.heap.size w1 w2) : Grows W0 w2 v l2 k n (t + m) := by
  have hcur : IWin w2 l2 (marks k 0 (n + (t + m))) := by
    rw [← zCells_append, marks_more] at hw
    unfold IWin
    rw [marks_length, ← Nat.add_assoc]
    exact hw
  have hvl : ∀ x ∈ Value.owner v, x < w1.heap.size := Win.lt h.own
  rcases ht with ⟨g, off, cap, rfl, rfl⟩ | ⟨ho, hs, hb⟩
  · have hfr : Fr (fun x => x ∈ Value.owner v) W0 w2 := h.frame.grown hg (fun x hx => h.foot x ((ob_iff _ _).1 hx))
    refine ⟨?_, hcur, ?_, hfr, fun x hx => h.foot x (by simpa [Value.owner] using hx)⟩
    · rcases h.ext with ⟨a, n1, n2, cap', e1, e2, hn⟩ | hne
      · injection e2 with e3 e4 e5
        subst e3; subst e5
        have hn1 : n1 = n := by
          obtain ⟨a', c', e6, _, _⟩ := Win.slice_form h.own
          rw [e1, marks_length] at e6
          injection e6
        subst hn1
        rw [e1]
        have := prefix_win hcur (by rw [marks_length]; omega) (show n1 ≤ n1 + t + m by omega)
        rw [marks_take _ _ _ (by omega)] at this
        exact this
      · exact Win.keep h.own fun x hx => hg.block x (hvl x hx) (fun e => hne x hx ((ob_iff _ _).1 e.symm))
    · rcases h.ext with ⟨a, n1, n2, cap', e1, e2, hn⟩ | hne
      · injection e2 with e3 e4 e5
        subst e3; subst e5
        exact .inl ⟨_, n1, _, _, e1, rfl, by omega⟩
      · exact .inr fun x hx => by simpa [Value.owner] using hne x hx
  · refine ⟨h.own.new hb, hcur, .inr fun x hx hx2 => ?_, h.frame.new hb, fun x hx => ?_⟩
    · rw [← ob_iff, ho] at hx2
      injection hx2 with e
      have := hvl x hx
      omega
    · rw [← ob_iff, ho] at hx
      injection hx with e
      have := h.frame.size
      exact .inr (by omega)
end Go.Proofs.YtpmbpcinfakckaaDoor
