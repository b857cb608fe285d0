/-
  GENERAL: A WINDOW: a slice value that shows elements out of a block of its own, from whatever place of the block on (what is left behind 's = s[k:]'), and what index, store, slicing and append make of it. Nothing of one package's code.
-/
import Derived.Deep.AppendSrc
import Derived.Deep.Upon
import Derived.Below
import Derived.Lib.Hide
import Derived.Lib.SlBytesRow
import Derived.Laws.AppendOwn
namespace Go.Proofs.Ytkfidnfnehnhoaa
open Go.RowKit
open Go.Lib
theorem add_flat (b o j : Nat) : (⟨b, o, none⟩ : Addr).add j = ⟨b, o + j, none⟩ := by unfold Addr.add; split <;> simp_all
/-- THE WINDOW: v shows n elements of sz cells each, the cells xs; whatever lies beside them in its block is nobody else's. -/
def Win (w : World) (e : TypeId) (sz : Nat) (v : Value) (n : Nat) (xs : List Value) : Prop :=
  xs.length = n * sz ∧
  ((v = .slice none 0 0 ∧ n = 0) ∨
   ∃ g off cap cur, v = .slice (some ⟨g, off, none⟩) n cap ∧ w.heap[g]? = some (.cells cur e (0, 0)) ∧ n ≤ cap ∧ off + cap * sz ≤ cur.size ∧ cap ≤ maxLen ∧ (cur.toList.drop off).take (n * sz) = xs)
/-- Its block. -/
def Value.owner : Value → List Nat
  | .slice (some a) _ _ => [a.block]
  | _ => []
theorem owner_eq (v : Value) (k : Nat) : k ∈ Value.owner v ↔ v.ownBlock = some k := by
  cases v <;> simp [Value.owner, Value.ownBlock]
  rename_i a _ _
  cases a <;> simp [eq_comm]
section
variable {w w' : World} {e : TypeId} {sz : Nat} {v : Value} {n : Nat} {xs : List Value}
theorem Win.nil_ (w : World) (e : TypeId) (sz : Nat) : Win w e sz (.slice none 0 0) 0 [] := ⟨by simp, .inl ⟨rfl, rfl⟩⟩
theorem Win.lt (h : Win w e sz v n xs) : ∀ k ∈ Value.owner v, k < w.heap.size := by
  intro k hk
  rcases h.2 with ⟨rfl, _⟩ | ⟨g, off, cap, cur, rfl, hg, _⟩
  · simp [Value.owner] at hk
  · simp [Value.owner] at hk
    subst hk
    exact (Array.getElem?_eq_some_iff.1 hg).1
theorem Win.typed (h : Win w e sz v n xs) : ∀ k ∈ Value.owner v, ∃ cur, w.heap[k]? = some (.cells cur e (0, 0)) := by
  intro k hk
  rcases h.2 with ⟨rfl, _⟩ | ⟨g, off, cap, cur, rfl, hg, _⟩
  · simp [Value.owner] at hk
  · simp [Value.owner] at hk
    subst hk
    exact ⟨cur, hg⟩
theorem Win.keep (h : Win w e sz v n xs) (hk : ∀ k ∈ Value.owner v, w'.heap[k]? = w.heap[k]?) : Win w' e sz v n xs := by
  refine ⟨h.1, ?_⟩
  rcases h.2 with h0 | ⟨g, off, cap, cur, rfl, hg, r⟩
  · exact .inl h0
  · exact .inr ⟨g, off, cap, cur, rfl, by rw [hk g (by simp [Value.owner]), hg], r⟩
theorem Win.drewN (h : Win w e sz v n xs) (k : Nat) : Win (w.drewN k) e sz v n xs := h
theorem Win.alloc (h : Win w e sz v n xs) (o : Obj) : Win (w.alloc o) e sz v n xs := h.keep fun k hk => Below.heap_alloc w o k (h.lt k hk)
theorem Win.setCell_far (h : Win w e sz v n xs) {p : Addr} (hp : p.block ∉ Value.owner v) (u : Value) : Win (w.setCell p u) e sz v n xs :=
  h.keep fun k hk => Below.heap_setCell w p u k (fun e => hp (e ▸ hk))
theorem Win.form (h : Win w e sz v n xs) (hn : 0 < n) : ∃ g off cap, v = .slice (some ⟨g, off, none⟩) n cap ∧ n ≤ cap ∧ cap ≤ maxLen ∧ g < w.heap.size ∧ Value.owner v = [g] ∧ ∀ j u, xs[j]? = some u → w.cell? ⟨g, off + j, none⟩ = some u ∧ w.frozen? ⟨g, off + j, none⟩ = false := by
  rcases h.2 with ⟨_, h0⟩ | ⟨g, off, cap, cur, rfl, hg, hnc, hs, hm, ht⟩
  · omega
  · refine ⟨g, off, cap, rfl, hnc, hm, (Array.getElem?_eq_some_iff.1 hg).1, rfl, fun j u hu => ?_⟩
    have hj : j < n * sz := by have := (List.getElem?_eq_some_iff.1 hu).1; rw [h.1] at this; exact this
    rw [← ht, List.getElem?_take_of_lt hj, List.getElem?_drop] at hu
    constructor
    · simp only [World.cell?, hg]
      simpa using hu
    · simp [World.frozen?, hg]
theorem Win.slice_form (h : Win w e sz v n xs) : ∃ a cap, v = .slice a n cap ∧ n ≤ cap ∧ cap ≤ maxLen := by
  rcases h.2 with ⟨rfl, rfl⟩ | ⟨g, off, cap, cur, rfl, hg, hnc, hs, hm, ht⟩
  · exact ⟨none, 0, rfl, by omega, by unfold maxLen; omega⟩
  · exact ⟨_, cap, rfl, hnc, hm⟩
/-- A store into element cell j. -/
theorem Win.store {g off cap : Nat} (h : Win w e sz (.slice (some ⟨g, off, none⟩) n cap) n xs) (j : Nat) (hj : j < xs.length) (u : Value) : Win (w.setCell ⟨g, off + j, none⟩ u) e sz (.slice (some ⟨g, off, none⟩) n cap) n (xs.set j u) := by
  refine ⟨by rw [List.length_set]; exact h.1, .inr ?_⟩
  rcases h.2 with ⟨h0, _⟩ | ⟨g', off', cap', cur, hv, hg, hnc, hs, hm, ht⟩
  · simp at h0
  · injection hv with h1 h2 h3
    injection h1 with h1
    injection h1 with h4 h5 h6
    subst h3; subst h4; subst h5
    have hg' := heap_setCell_same w g (off + j) _ _ u hg
    refine ⟨g, off, cap, _, rfl, hg', hnc, by simpa using hs, hm, ?_⟩
    rw [h.1] at hj
    rw [← ht]
    apply List.ext_getElem?
    intro i
    simp only [Array.toList_setIfInBounds, List.getElem?_take, List.getElem?_drop, List.getElem?_set, List.length_take, List.length_drop, Array.length_toList]
    by_cases hi : i < n * sz
    · simp only [hi, if_true]
      by_cases hij : j = i
      · subst hij
        have hb : n * sz ≤ cap * sz := Nat.mul_le_mul_right _ hnc
        rw [if_pos rfl, if_pos rfl, if_pos (by omega), if_pos (by omega)]
      · rw [if_neg (by omega), if_neg hij]
    · simp only [hi, if_false]
      by_cases hij : j = i
      · subst hij; omega
      · rw [if_neg hij]
end
section
variable {P : Program} {w : World} {e t : TypeId} {sz : Nat} {v : Value} {n : Nat} {xs : List Value}
/-- 'v[k:]' -/
theorem Win.lo (h : Win w e sz v n xs) (ht : P.underlying t = some (.slice e)) (hz : ∀ w, (Go.sizeOf e).run P w = .ok sz w) (k : Nat) (hk : k ≤ n) :
    ∃ v', (∀ W, (Instr.slice t v (some (.int .i64 (k : Int))) none none).run P W = .ok v' W) ∧ Win w e sz v' (n - k) (xs.drop (k * sz)) ∧ Value.owner v' = Value.owner v := by
  have ht' : P.underlying t = some (.slice (P.elem t)) := by simp [Program.elem, ht]
  have he : P.elem t = e := by simp [Program.elem, ht]
  have hl : (xs.drop (k * sz)).length = (n - k) * sz := by rw [List.length_drop, h.1, Nat.sub_mul]
  rcases h.2 with ⟨rfl, rfl⟩ | ⟨g, off, cap, cur, rfl, hg, hnc, hs, hm, hx⟩
  · obtain rfl : k = 0 := by omega
    refine ⟨.slice none 0 0, fun W => ?_, ⟨hl, .inl ⟨rfl, rfl⟩⟩, rfl⟩
    rw [run_slice_l W t _ _ _ ht' .i64 _ (by omega) (by omega), he, hz]
    simp [Result.andThen, sliced]
  · by_cases hkc : cap = k
    · refine ⟨.slice (some ⟨g, off, none⟩) (n - k) (cap - k), fun W => ?_, ⟨hl, .inr ⟨g, off, cap - k, cur, rfl, hg, by omega, ?_, by omega, ?_⟩⟩, rfl⟩
      · rw [run_slice_l W t _ _ _ ht' .i64 _ (by omega) (by omega), he, hz]
        simp [Result.andThen, sliced, hkc]
      · subst hkc
        simp
        have := Nat.le_trans (Nat.le_add_right off _) hs
        exact this
      · obtain rfl : n = k := by omega
        have : xs.drop (n * sz) = [] := by rw [List.drop_of_length_le (by rw [h.1]; exact Nat.le_refl _)]
        simp [this]
    · refine ⟨.slice (some ⟨g, off + k * sz, none⟩) (n - k) (cap - k), fun W => ?_, ⟨hl, .inr ⟨g, off + k * sz, cap - k, cur, rfl, hg, by omega, ?_, by omega, ?_⟩⟩, rfl⟩
      · rw [run_slice_l W t _ _ _ ht' .i64 _ (by omega) (by omega), he, hz]
        simp [Result.andThen, sliced, hkc, add_flat]
      · have h1 : (cap - k) * sz = cap * sz - k * sz := Nat.sub_mul _ _ _
        have h2 : k * sz ≤ cap * sz := Nat.mul_le_mul_right _ (by omega)
        omega
      · rw [← hx, List.drop_take, List.drop_drop, Nat.sub_mul]
/-- 'v[:k]' -/
theorem Win.hi (h : Win w e sz v n xs) (ht : P.underlying t = some (.slice e)) (hz : ∀ w, (Go.sizeOf e).run P w = .ok sz w) (k : Nat) (hk : k ≤ n) :
    ∃ v', (∀ W, (Instr.slice t v none (some (.int .i64 (k : Int))) none).run P W = .ok v' W) ∧ Win w e sz v' k (xs.take (k * sz)) ∧ Value.owner v' = Value.owner v := by
  have ht' : P.underlying t = some (.slice (P.elem t)) := by simp [Program.elem, ht]
  have he : P.elem t = e := by simp [Program.elem, ht]
  have hkn : k * sz ≤ n * sz := Nat.mul_le_mul_right _ hk
  have hl : (xs.take (k * sz)).length = k * sz := by rw [List.length_take, h.1]; omega
  rcases h.2 with ⟨rfl, rfl⟩ | ⟨g, off, cap, cur, rfl, hg, hnc, hs, hm, hx⟩
  · obtain rfl : k = 0 := by omega
    refine ⟨.slice none 0 0, fun W => ?_, ⟨hl, .inl ⟨rfl, rfl⟩⟩, rfl⟩
    rw [run_slice_h W t _ _ _ ht' .i64 _ (by omega) (by omega), he, hz]
    simp [Result.andThen, sliced]
  · refine ⟨.slice (some ⟨g, off, none⟩) k cap, fun W => ?_, ⟨hl, .inr ⟨g, off, cap, cur, rfl, hg, by omega, hs, hm, ?_⟩⟩, rfl⟩
    · rw [run_slice_h W t _ _ _ ht' .i64 _ (by omega) (by omega), he, hz]
      by_cases h0 : cap = 0 <;> simp [Result.andThen, sliced, h0, add_flat]
    · rw [← hx, List.take_take, Nat.min_eq_left hkn]
/-- 'append(v, x..)' -/
theorem Win.append (h : Win w e sz v n xs) {tx ty : TypeId} {i : TypeInfo} {z : Value} {bytes : Nat} (ht : P.underlying t = some (.slice e)) (hi : P.info? e = some i) (hz : i.zero = some z) (hsize : i.size = sz) (hby : i.bytes = bytes) (hzs : z.cells.size = sz)
    (x : Value) (m : Nat) (news : List Value) (hs : Src P sz tx x m news w) (h63 : n + m ≤ maxLen) (hbytes : (n + m) * bytes ≤ 140737488355328) :
    ∃ v' w', (Builtin.append_ #[t, tx] ty #[v, x]).run P w = .ok v' w' ∧ Win w' e sz v' (n + m) (xs ++ news) ∧ w.grownBy w' v.ownBlock ∧ (v'.ownBlock = v.ownBlock ∨ v'.ownBlock = some w.heap.size ∧ w.heap.size < w'.heap.size) := by
  subst hsize
  subst hby
  have hnl := hs.newsLen
  have hl : (xs ++ news).length = (n + m) * i.size := by rw [List.length_append, h.1, hnl, Nat.add_mul]
  have hsmall : n + m ≤ 9223372036854775807 := by simp only [maxLen] at h63; omega
  have grown : ∀ (old : Nat) (hold : old < n + m) (row : Option Nat),
      Win (w.drew.alloc (.cells ((xs ++ news).toArray ++ Builtin.zeroCells z.cells (grownCap w (n + m) old e - (n + m))) e)) e i.size (.slice (some ⟨w.heap.size, 0, none⟩) (n + m) (grownCap w (n + m) old e)) (n + m) (xs ++ news) ∧
      w.grownBy (w.drew.alloc (.cells ((xs ++ news).toArray ++ Builtin.zeroCells z.cells (grownCap w (n + m) old e - (n + m))) e)) row := by
    intro old hold row
    have hge := grownCap_ge w (n + m) old e
    have hcm : grownCap w (n + m) old e ≤ maxLen := grownCap_le_maxLen w (n + m) old e h63
    refine ⟨⟨hl, .inr ⟨w.heap.size, 0, _, _, rfl, heap_alloc_new w.drew _, hge, ?_, hcm, ?_⟩⟩, ⟨rfl, rfl, rfl, by simp, fun k hk _ => Below.heap_alloc w.drew _ k hk⟩⟩
    · simp only [Array.size_append, List.size_toArray, size_zeroCells, hzs, hl, Nat.zero_add]
      rw [← Nat.add_mul]
      exact Nat.mul_le_mul_right _ (by omega)
    · simp only [Array.toList_append, List.drop_zero]
      rw [← hl]
      exact List.take_left
  rcases h.2 with ⟨rfl, rfl⟩ | ⟨g, off, cap, cur, rfl, hg, hnc, hsz, hm, hx⟩
  · have hx : xs = [] := List.eq_nil_of_length_eq_zero (by rw [h.1]; simp)
    subst hx
    by_cases hm0 : m = 0
    · subst hm0
      have hnn : news = [] := List.eq_nil_of_length_eq_zero (by rw [hnl]; simp)
      subst hnn
      exact ⟨_, w, run_append_nothing w t tx ty e i ht hi none 0 0 (Nat.le_refl _) x hs, ⟨by simp, .inl ⟨rfl, rfl⟩⟩, ⟨rfl, rfl, rfl, Nat.le_refl _, fun _ _ _ => rfl⟩, .inl rfl⟩
    · have hr := run_append_grow_src (P := P) w t tx ty e i z ht hi hz none 0 0 [] (run_firstCells_none w.drew i.size 0 0 0) x m news hs (by omega) (by omega) (growslice_fits (by omega) (by omega))
      have hgr := grown 0 (by omega) (Value.ownBlock (.slice none 0 0))
      simp only [List.nil_append] at hgr ⊢ hr
      exact ⟨_, _, hr, hgr.1, hgr.2, .inr ⟨rfl, by simp⟩⟩
  · by_cases hroom : n + m ≤ cap
    · have hb : (n + m) * i.size ≤ cap * i.size := Nat.mul_le_mul_right _ hroom
      rw [Nat.add_mul] at hb
      have hst := run_storeCells_at P g (off + n * i.size) e news 0 cur w hg (by rw [hnl]; omega) hs.one
      simp only [Nat.add_zero] at hst
      have hr : (Builtin.append_ #[t, tx] ty #[.slice (some ⟨g, off, none⟩) n cap, x]).run P w = .ok (.slice (some ⟨g, off, none⟩) (n + m) cap) (w.setRow g (cur.toList.take (off + n * i.size) ++ news ++ cur.toList.drop (off + n * i.size + news.length)).toArray) := by
        rcases hs.kind with ⟨e', hk⟩ | hk <;> simp [Builtin.append_, run_underlying ht, run_underlying hk, sizeOf, typeInfo, hi, hs.len, hroom, hs.cells, Addr.add_lit, hst]
      refine ⟨_, _, hr, ⟨hl, .inr ⟨g, off, cap, _, rfl, setRow_heap w g cur _ e _ hg, hroom, ?_, hm, ?_⟩⟩, ⟨rfl, rfl, rfl, by simp, fun k _ hk => setRow_other w g k _ (fun e => hk (by simp [Value.ownBlock, e]))⟩, .inl rfl⟩
      · simp only [List.size_toArray, List.length_append, List.length_take, List.length_drop, Array.length_toList]
        omega
      · have h1 : (cur.toList.take (off + n * i.size)).length = off + n * i.size := by rw [List.length_take, Array.length_toList]; omega
        rw [List.append_assoc, List.drop_append_of_le_length (by omega), List.drop_take, show off + n * i.size - off = n * i.size by omega, hx, ← List.append_assoc, ← hl]
        exact List.take_left
    · have holds : ∀ j u, xs[j]? = some u → w.drew.cell? ((⟨g, off, none⟩ : Addr).add j) = some u := by
        intro j u hu
        have hj : j < n * i.size := by have := (List.getElem?_eq_some_iff.1 hu).1; rw [h.1] at this; exact this
        rw [← hx, List.getElem?_take_of_lt hj, List.getElem?_drop] at hu
        rw [add_flat]
        show w.cell? _ = _
        simp only [World.cell?, hg]
        simpa using hu
      have hr := run_append_grow_src (P := P) w t tx ty e i z ht hi hz (some ⟨g, off, none⟩) n cap xs (run_firstCells_some w.drew i.size n _ n cap xs h.1 holds) x m news hs (by omega) (by omega) (growslice_fits (by omega) (by omega))
      have hgr := grown cap (by omega) (Value.ownBlock (.slice (some ⟨g, off, none⟩) n cap))
      exact ⟨_, _, hr, hgr.1, hgr.2, .inr ⟨rfl, by simp⟩⟩
/-- The operation, as the walk meets it. -/
theorem wpList_append_win {ops : Array Oper} {rest : List Oper} {o : Oper} {a : Act} {Q : Exit → Act → World → Prop} (hgd : o.guard = none) (sl x : Operand) (tx : TypeId)
    (ho : o.op = .call { callee := .builtin .append, args := #[sl, x], argTypes := #[t, tx] }) {z : Value} {bytes : Nat}
    (ht : P.underlying t = some (.slice e)) (hi : (P.info? e).map (fun i => (i.zero, i.size, i.bytes)) = some (some z, sz, bytes)) (hzs : z.cells.size = sz)
    (hs : a.eval sl = v) (h : Win w e sz v n xs) (X : Value) (hx : a.eval x = X) (m : Nat) (news : List Value) (hsrc : Src P sz tx X m news w) (h63 : n + m ≤ maxLen) (hbytes : (n + m) * bytes ≤ 140737488355328)
    (hk : ∀ v' w', Hid (Win w' e sz v' (n + m) (xs ++ news)) → Hid (w.grownBy w' v.ownBlock) → Hid (v'.ownBlock = v.ownBlock ∨ v'.ownBlock = some w.heap.size ∧ w.heap.size < w'.heap.size) → wpList P ops Q rest (a.put o.dst v') w') : wpList P ops Q (o :: rest) a w := by
  refine wpList_plain hgd fun K hK => ?_
  cases hq : P.info? e with
  | none => simp [hq] at hi
  | some i =>
    simp only [hq, Option.map_some, Option.some.injEq, Prod.mk.injEq] at hi
    obtain ⟨v', w', hr, h2, h3, h4⟩ := h.append (ty := o.type) ht hq hi.1 hi.2.1 hi.2.2 hzs X m news hsrc h63 hbytes
    unfold Oper.wp execOp
    simp only [ho, resolve, invoke, builtin, Sem.run_bind, Sem.run_pure, Result.andThen_ok, List.map_toArray, List.map_cons, List.map_nil, hs, hx, hr]
    exact hK _ _ (hk v' w' h2 h3 h4)
end
/-- A STEP: only the blocks F (and new ones) may have turned; behind it the structure's blocks are F'. -/
structure Step (F F' : List Nat) (w w' : World) : Prop where
  os : w'.os = w.os
  tape : w'.tape = w.tape
  output : w'.output = w.output
  size : w.heap.size ≤ w'.heap.size
  block : ∀ k, k < w.heap.size → k ∉ F → w'.heap[k]? = w.heap[k]?
  foot : ∀ k ∈ F', k ∈ F ∨ w.heap.size ≤ k
theorem Step.refl (F : List Nat) (w : World) : Step F F w w := ⟨rfl, rfl, rfl, Nat.le_refl _, fun _ _ _ => rfl, fun _ h => .inl h⟩
theorem Step.drewN {F F' : List Nat} {w w' : World} (h : Step F F' w w') (q : Nat) : Step F F' w (w'.drewN q) := ⟨h.os, h.tape, h.output, h.size, h.block, h.foot⟩
theorem Step.trans {F F' F'' : List Nat} {a b c : World} (h : Step F F' a b) (k : Step F' F'' b c) : Step F F'' a c :=
  ⟨k.os.trans h.os, k.tape.trans h.tape, k.output.trans h.output, Nat.le_trans h.size k.size, fun i hi hF => (k.block i (Nat.lt_of_lt_of_le hi h.size) (fun hF' => by
    rcases h.foot i hF' with h1 | h1
    · exact hF h1
    · omega)).trans (h.block i hi hF), fun i hi => by
    rcases k.foot i hi with h1 | h1
    · exact h.foot i h1
    · exact .inr (Nat.le_trans h.size h1)⟩
theorem Step.below {F F' : List Nat} {w w' : World} {B : Nat} (h : Step F F' w w') (hB : ∀ k ∈ F, B ≤ k) (hw : B ≤ w.heap.size) : Below B w w' :=
  ⟨h.os, h.tape, h.output, h.size, fun k hk => h.block k (by omega) (fun hF => by have := hB k hF; omega)⟩
theorem Step.low {F F' : List Nat} {w w' : World} {B : Nat} (h : Step F F' w w') (hB : ∀ k ∈ F, B ≤ k) (hw : B ≤ w.heap.size) : ∀ k ∈ F', B ≤ k := fun k hk => by
  rcases h.foot k hk with h1 | h1
  · exact hB k h1
  · omega
/-- What lies apart from F lies apart from F'. -/
theorem Step.apart {F F' G : List Nat} {w w' : World} (h : Step F F' w w') (hG : ∀ k ∈ G, k < w.heap.size) (hd : ∀ k ∈ G, k ∉ F) : ∀ k ∈ G, k ∉ F' := fun k hk hF => by
  rcases h.foot k hF with h1 | h1
  · exact hd k hk h1
  · have := hG k hk; omega
theorem src_one {P : Program} {tx e' : TypeId} (w : World) (hk : P.underlying tx = some (.slice e')) (v : Value) (e : TypeId) (g : Nat) (h1 : v.oneCell' = true) (hg : g = w.heap.size) :
    Src P 1 tx (.slice (some ⟨g, 0, none⟩) 1 1) 1 [v] (w.alloc (.cells #[v] e)) := by
  subst hg
  refine Src.ofSlice _ hk _ 1 1 [v] rfl (fun j u hu => ?_) (by simpa using h1)
  cases j with
  | zero =>
    simp at hu
    subst hu
    rw [add_flat]
    have hh := heap_alloc_new w (.cells #[v] e)
    simp only [World.cell?, Nat.add_zero]
    rw [hh]
    rfl
  | succ j => simp at hu
def bCells (l : List UInt8) : List Value := l.map fun b => Value.int .u8 (b.toNat : Int)
theorem bCells_length (l : List UInt8) : (bCells l).length = l.length := by simp [bCells]
def intCells (ns : List Nat) : List Value := ns.map fun (n : Nat) => Value.int .i64 (n : Int)
theorem intCells_length (ns : List Nat) : (intCells ns).length = ns.length := by simp [intCells]
theorem intCells_get (ns : List Nat) (j : Nat) : (intCells ns)[j]? = ns[j]?.map fun (n : Nat) => Value.int .i64 (n : Int) := by simp [intCells]
theorem Win.apart {w : World} {e : TypeId} {sz : Nat} {v : Value} {n : Nat} {xs : List Value} (h : Win w e sz v n xs) {b : Nat} {c : Array Value} {t : TypeId} {fr : Nat × Nat} (hb : w.heap[b]? = some (.cells c t fr)) (hne : e ≠ t) : b ∉ Value.owner v := by
  intro hk
  obtain ⟨cur, hc⟩ := h.typed b hk
  rw [hb] at hc
  injection hc with hc
  injection hc with _ h2
  exact hne h2.symm
theorem Win.apart2 {w : World} {e e' : TypeId} {sz sz' : Nat} {v v' : Value} {n n' : Nat} {xs xs' : List Value} (h : Win w e sz v n xs) (h' : Win w e' sz' v' n' xs') (hne : e ≠ e') : ∀ k ∈ Value.owner v', k ∉ Value.owner v := by
  intro k hk
  obtain ⟨cur, hc⟩ := h'.typed k hk
  exact h.apart hc hne
theorem step_setCell (F : List Nat) (w : World) (p : Addr) (u : Value) (hp : p.block ∈ F) : Step F F w (w.setCell p u) :=
  ⟨rfl, rfl, rfl, by simp [World.setCell], fun k _ hF => Below.heap_setCell w p u k (fun e => hF (e ▸ hp)), fun _ h => .inl h⟩
theorem step_grown {F : List Nat} {w w' : World} {row : Option Nat} (h : w.grownBy w' row) (hr : ∀ k, row = some k → k ∈ F) : Step F F w w' :=
  ⟨h.os, h.tape, h.output, h.size, fun k hk hF => h.block k hk (fun e => hF (hr k e.symm)), fun _ h => .inl h⟩
theorem Step.widen {F F' G : List Nat} {w w' : World} (h : Step F F' w w') (hG : ∀ k ∈ G, k ∈ F ∨ w.heap.size ≤ k) : Step F G w w' := ⟨h.os, h.tape, h.output, h.size, h.block, hG⟩
theorem ob_iff (v : Value) (k : Nat) : v.ownBlock = some k ↔ k ∈ Value.owner v := (owner_eq v k).symm
def sCells (l : List ByteArray) : List Value := l.map Value.string
theorem sCells_length (l : List ByteArray) : (sCells l).length = l.length := by simp [sCells]
/-- Blocks of other types than these stay. -/
def Off (ts : List Nat) (w w' : World) : Prop := ∀ (k : Nat) (c : Array Value) (t : TypeId) (fr : Nat × Nat), w.heap[k]? = some (.cells c t fr) → t ∉ ts → w'.heap[k]? = some (.cells c t fr)
theorem Off.refl (ts : List Nat) (w : World) : Off ts w w := fun _ _ _ _ h _ => h
theorem Off.trans {ts : List Nat} {a b c : World} (h : Off ts a b) (k : Off ts b c) : Off ts a c := fun i x t fr hi ht => k i x t fr (h i x t fr hi ht) ht
theorem Off.drewN {ts : List Nat} {a b : World} (h : Off ts a b) (q : Nat) : Off ts a (b.drewN q) := h
theorem Off.alloc {ts : List Nat} {a b : World} (h : Off ts a b) (o : Obj) : Off ts a (b.alloc o) := fun i x t fr hi ht => by
  have := h i x t fr hi ht
  rw [Below.heap_alloc b o i (Array.getElem?_eq_some_iff.1 this).1]
  exact this
theorem Off.setCell {ts : List Nat} {a b : World} (h : Off ts a b) {p : Addr} {c : Array Value} {t : TypeId} {fr : Nat × Nat} (hp : a.heap[p.block]? = some (.cells c t fr)) (ht : t ∈ ts) (u : Value) : Off ts a (b.setCell p u) := fun i x t' fr' hi ht' => by
  rw [Below.heap_setCell b p u i (fun e => ?_)]
  · exact h i x t' fr' hi ht'
  · subst e
    rw [hp] at hi
    injection hi with hi
    injection hi with _ h2 _
    exact ht' (h2 ▸ ht)
theorem off_grown {ts : List Nat} {w w' : World} {row : Option Nat} (h : w.grownBy w' row) (hr : ∀ k c t fr, row = some k → w.heap[k]? = some (.cells c t fr) → t ∈ ts) : Off ts w w' := fun i x t fr hi ht => by
  rw [h.block i (Array.getElem?_eq_some_iff.1 hi).1 (fun e => ht (hr i x t fr e.symm hi))]
  exact hi
theorem Win.src {P : Program} {w : World} {e tx e' : TypeId} {sz : Nat} {v : Value} {n : Nat} {xs : List Value} (h : Win w e sz v n xs) (hk : P.underlying tx = some (.slice e')) (h1 : ∀ u ∈ xs, u.oneCell' = true) : Src P sz tx v n xs w := by
  rcases h.2 with ⟨rfl, rfl⟩ | ⟨g, off, cap, cur, rfl, hg, hnc, hs, hm, hx⟩
  · have : xs = [] := List.eq_nil_of_length_eq_zero (by rw [h.1]; simp)
    subst this
    exact Src.ofNil w hk 0
  · refine Src.ofSlice w hk _ n cap xs h.1 (fun j u hu => ?_) h1
    have hj : j < n * sz := by have := (List.getElem?_eq_some_iff.1 hu).1; rw [h.1] at this; exact this
    rw [← hx, List.getElem?_take_of_lt hj, List.getElem?_drop] at hu
    rw [add_flat]
    simp only [World.cell?, hg]
    simpa using hu
theorem sCells_one (l : List ByteArray) : ∀ u ∈ sCells l, u.oneCell' = true := by
  intro u hu
  obtain ⟨x, _, rfl⟩ := List.mem_map.1 hu
  rfl
/-- Element k, as the walk meets it. -/
theorem Win.elem {w : World} {e : TypeId} {v : Value} {n : Nat} {xs : List Value} (h : Win w e 1 v n xs) (k : Nat) (u : Value) (hu : xs[k]? = some u) : ∃ g off cap, v = .slice (some ⟨g, off, none⟩) n cap ∧ w.cell? ⟨g, off + k, none⟩ = some u := by
  have hk : k < n := by have := (List.getElem?_eq_some_iff.1 hu).1; rw [h.1] at this; omega
  obtain ⟨g, off, cap, rfl, _, _, _, _, h2⟩ := h.form (by omega)
  exact ⟨g, off, cap, rfl, (h2 k u hu).1⟩
/-- append at a step of a region that draws its order. -/
theorem step_append_win {P : Program} {w : World} {e t : TypeId} {sz : Nat} {v : Value} {n : Nat} {xs : List Value} {ops : Array Oper} {o : Oper} {a : Act} {K : Act → World → Prop} {Q : Exit → Act → World → Prop} {E : Prop} (hgd : o.guard = none) (sl x : Operand) (tx : TypeId)
    (ho : o.op = .call { callee := .builtin .append, args := #[sl, x], argTypes := #[t, tx] }) {z : Value} {bytes : Nat}
    (ht : P.underlying t = some (.slice e)) (hi : (P.info? e).map (fun i => (i.zero, i.size, i.bytes)) = some (some z, sz, bytes)) (hzs : z.cells.size = sz)
    (hs : a.eval sl = v) (h : Win w e sz v n xs) (X : Value) (hx : a.eval x = X) (m : Nat) (news : List Value) (hsrc : Src P sz tx X m news w) (h63 : n + m ≤ maxLen) (hbytes : (n + m) * bytes ≤ 140737488355328)
    (hk : ∀ v' w', Hid (Win w' e sz v' (n + m) (xs ++ news)) → Hid (w.grownBy w' v.ownBlock) → Hid (v'.ownBlock = v.ownBlock ∨ v'.ownBlock = some w.heap.size ∧ w.heap.size < w'.heap.size) → K (a.put o.dst v') w') :
    if Region.wanted o (yielded ops a.tmps) = true then Oper.wp P o a w K Q else E := by
  have hw : Region.wanted o (yielded ops a.tmps) = true := by simp [Region.wanted, hgd]
  rw [if_pos hw]
  cases hq : P.info? e with
  | none => simp [hq] at hi
  | some i =>
    simp only [hq, Option.map_some, Option.some.injEq, Prod.mk.injEq] at hi
    obtain ⟨v', w', hr, h2, h3, h4⟩ := h.append (ty := o.type) ht hq hi.1 hi.2.1 hi.2.2 hzs X m news hsrc h63 hbytes
    unfold Oper.wp execOp
    simp only [ho, resolve, invoke, builtin, Sem.run_bind, Sem.run_pure, Result.andThen_ok, List.map_toArray, List.map_cons, List.map_nil, hs, hx, hr]
    exact hk v' w' h2 h3 h4
theorem Win.drew {w : World} {e : TypeId} {sz : Nat} {v : Value} {n : Nat} {xs : List Value} (h : Win w e sz v n xs) : Win w.drew e sz v n xs := h
theorem win_one (w : World) (v : Value) (e : TypeId) (g : Nat) (hg : g = w.heap.size) : Win (w.alloc (.cells #[v] e)) e 1 (.slice (some ⟨g, 0, none⟩) 1 1) 1 [v] := by
  subst hg
  exact ⟨rfl, .inr ⟨w.heap.size, 0, 1, _, rfl, heap_alloc_new w _, Nat.le_refl _, by simp, by unfold maxLen; omega, by simp⟩⟩
/-- All that is new since w0, told of a slice and a world. -/
def Fresh (w0 w : World) (v : Value) : Prop := Below w0.heap.size w0 w ∧ ∀ k ∈ Value.owner v, w0.heap.size ≤ k
end Go.Proofs.Ytkfidnfnehnhoaa
