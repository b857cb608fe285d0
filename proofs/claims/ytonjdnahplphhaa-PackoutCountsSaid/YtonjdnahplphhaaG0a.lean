/-
  GENERAL: A WINDOW: a slice value that shows elements out of a block of its own, from whatever place of the block on (what is left behind 's = s[k:]'), and what index, store, slicing and append make of it. Nothing of one package's code. NO PROGRAM NEEDED: numbers as bytes, the highest first; heads (a kind, a number), the shortest ones; their order. NO PROGRAM NEEDED: parts of documents; whether parts are one document (a machine over a stack of open containers); cuts, wraps, depths. GENERAL, NO PROGRAM NEEDED: UTF-8 AS STATES: which byte may follow, beside the shelf's 'validD' (no step of the model's decoder fails), the model's encoder, its decoder. NO PROGRAM NEEDED: CBOR read as parts, as a machine over bytes (on the machines of HeadPure and UtfPure); parts written as CBOR; what is written so is read as it was; what is read is one document, or the beginning of one. GENERAL, NO PROGRAM NEEDED: what the model's encoder makes of a rune, beside the states and the decoder. GENERAL, NO PROGRAM NEEDED: THE INSIDE OF A JSON STRING AS STATES: what a byte adds, which byte may follow; what the short forms are read as. NO PROGRAM NEEDED: the machine of decimal.Number over bytes; digits there and back; their order. NO PROGRAM NEEDED: JSON cut into tokens, as a machine over bytes (on the machines of EscPure and DecPure); strings that were written so, numbers, words, blanks. NO PROGRAM NEEDED: JSON read as parts, as a machine over the lexer's tokens; parts written as JSON; what is written s
-/
import Derived.Deep.AppendSrc
import Derived.Deep.Upon
import Derived.Below
import Derived.Lib.Hide
import Derived.Lib.SlBytesRow
import Derived.Laws.AppendOwn
import GoSem.Op.String
import Derived.Lib.ValidLaws
import Derived.Lib.RuneBytes
import Derived.Laws.Runes
import Derived.Lib.ItoaNum
/-
  GENERAL: A WINDOW: a slice value that shows elements out of a block of its own, from whatever place of the block on (what is left behind 's = s[k:]'), and what index, store, slicing and append make of it. Nothing of one package's code.
-/
namespace Go.Proofs.Ytonjdnahplphhaa
open Go.RowKit
open Go.Lib
theorem add_flat (b o j : Nat) : (⟨b, o, none⟩ : Addr).add j = ⟨b, o + j, none⟩ := by unfold Addr.add; split <;> simp_all
/-- THE WINDOW: v shows n elements of sz cells each, the cells xs; whatever lies beside them in its block is nobody else's. -/
def Win (w : World) (e : TypeId) (sz : Nat) (v : Value) (n : Nat) (xs : List Value) : Prop :=
  xs.length = n * sz ∧
  ((v = .slice none 0 0 ∧ n = 0) ∨
   ∃ g off cap cur, v = .slice (some ⟨g, off, none⟩) n cap ∧ w.heap[g]? = some (.cells cur e (0, 0)) ∧ n ≤ cap ∧ off + cap * sz ≤ cur.size ∧ cap ≤ maxLen ∧ (cur.toList.drop off).take (n * sz) = xs)
/-- Its block. -/
def Value.owner : Value → List Nat
  | .slice (some a) _ _ => [a.block]
  | _ => []
theorem owner_eq (v : Value) (k : Nat) : k ∈ Value.owner v ↔ v.ownBlock = some k := by
  cases v <;> simp [Value.owner, Value.ownBlock]
  rename_i a _ _
  cases a <;> simp [eq_comm]
section
variable {w w' : World} {e : TypeId} {sz : Nat} {v : Value} {n : Nat} {xs : List Value}
theorem Win.nil_ (w : World) (e : TypeId) (sz : Nat) : Win w e sz (.slice none 0 0) 0 [] := ⟨by simp, .inl ⟨rfl, rfl⟩⟩
theorem Win.lt (h : Win w e sz v n xs) : ∀ k ∈ Value.owner v, k < w.heap.size := by
  intro k hk
  rcases h.2 with ⟨rfl, _⟩ | ⟨g, off, cap, cur, rfl, hg, _⟩
  · simp [Value.owner] at hk
  · simp [Value.owner] at hk
    subst hk
    exact (Array.getElem?_eq_some_iff.1 hg).1
theorem Win.typed (h : Win w e sz v n xs) : ∀ k ∈ Value.owner v, ∃ cur, w.heap[k]? = some (.cells cur e (0, 0)) := by
  intro k hk
  rcases h.2 with ⟨rfl, _⟩ | ⟨g, off, cap, cur, rfl, hg, _⟩
  · simp [Value.owner] at hk
  · simp [Value.owner] at hk
    subst hk
    exact ⟨cur, hg⟩
theorem Win.keep (h : Win w e sz v n xs) (hk : ∀ k ∈ Value.owner v, w'.heap[k]? = w.heap[k]?) : Win w' e sz v n xs := by
  refine ⟨h.1, ?_⟩
  rcases h.2 with h0 | ⟨g, off, cap, cur, rfl, hg, r⟩
  · exact .inl h0
  · exact .inr ⟨g, off, cap, cur, rfl, by rw [hk g (by simp [Value.owner]), hg], r⟩
theorem Win.drewN (h : Win w e sz v n xs) (k : Nat) : Win (w.drewN k) e sz v n xs := h
theorem Win.alloc (h : Win w e sz v n xs) (o : Obj) : Win (w.alloc o) e sz v n xs := h.keep fun k hk => Below.heap_alloc w o k (h.lt k hk)
theorem Win.setCell_far (h : Win w e sz v n xs) {p : Addr} (hp : p.block ∉ Value.owner v) (u : Value) : Win (w.setCell p u) e sz v n xs :=
  h.keep fun k hk => Below.heap_setCell w p u k (fun e => hp (e ▸ hk))
theorem Win.form (h : Win w e sz v n xs) (hn : 0 < n) : ∃ g off cap, v = .slice (some ⟨g, off, none⟩) n cap ∧ n ≤ cap ∧ cap ≤ maxLen ∧ g < w.heap.size ∧ Value.owner v = [g] ∧ ∀ j u, xs[j]? = some u → w.cell? ⟨g, off + j, none⟩ = some u ∧ w.frozen? ⟨g, off + j, none⟩ = false := by
  rcases h.2 with ⟨_, h0⟩ | ⟨g, off, cap, cur, rfl, hg, hnc, hs, hm, ht⟩
  · omega
  · refine ⟨g, off, cap, rfl, hnc, hm, (Array.getElem?_eq_some_iff.1 hg).1, rfl, fun j u hu => ?_⟩
    have hj : j < n * sz := by have := (List.getElem?_eq_some_iff.1 hu).1; rw [h.1] at this; exact this
    rw [← ht, List.getElem?_take_of_lt hj, List.getElem?_drop] at hu
    constructor
    · simp only [World.cell?, hg]
      simpa using hu
    · simp [World.frozen?, hg]
theorem Win.slice_form (h : Win w e sz v n xs) : ∃ a cap, v = .slice a n cap ∧ n ≤ cap ∧ cap ≤ maxLen := by
  rcases h.2 with ⟨rfl, rfl⟩ | ⟨g, off, cap, cur, rfl, hg, hnc, hs, hm, ht⟩
  · exact ⟨none, 0, rfl, by omega, by unfold maxLen; omega⟩
  · exact ⟨_, cap, rfl, hnc, hm⟩
/-- A store into element cell j. -/
theorem Win.store {g off cap : Nat} (h : Win w e sz (.slice (some ⟨g, off, none⟩) n cap) n xs) (j : Nat) (hj : j < xs.length) (u : Value) : Win (w.setCell ⟨g, off + j, none⟩ u) e sz (.slice (some ⟨g, off, none⟩) n cap) n (xs.set j u) := by
  refine ⟨by rw [List.length_set]; exact h.1, .inr ?_⟩
  rcases h.2 with ⟨h0, _⟩ | ⟨g', off', cap', cur, hv, hg, hnc, hs, hm, ht⟩
  · simp at h0
  · injection hv with h1 h2 h3
    injection h1 with h1
    injection h1 with h4 h5 h6
    subst h3; subst h4; subst h5
    have hg' := heap_setCell_same w g (off + j) _ _ u hg
    refine ⟨g, off, cap, _, rfl, hg', hnc, by simpa using hs, hm, ?_⟩
    rw [h.1] at hj
    rw [← ht]
    apply List.ext_getElem?
    intro i
    simp only [Array.toList_setIfInBounds, List.getElem?_take, List.getElem?_drop, List.getElem?_set, List.length_take, List.length_drop, Array.length_toList]
    by_cases hi : i < n * sz
    · simp only [hi, if_true]
      by_cases hij : j = i
      · subst hij
        have hb : n * sz ≤ cap * sz := Nat.mul_le_mul_right _ hnc
        rw [if_pos rfl, if_pos rfl, if_pos (by omega), if_pos (by omega)]
      · rw [if_neg (by omega), if_neg hij]
    · simp only [hi, if_false]
      by_cases hij : j = i
      · subst hij; omega
      · rw [if_neg hij]
end
section
variable {P : Program} {w : World} {e t : TypeId} {sz : Nat} {v : Value} {n : Nat} {xs : List Value}
/-- 'v[k:]' -/
theorem Win.lo (h : Win w e sz v n xs) (ht : P.underlying t = some (.slice e)) (hz : ∀ w, (Go.sizeOf e).run P w = .ok sz w) (k : Nat) (hk : k ≤ n) :
    ∃ v', (∀ W, (Instr.slice t v (some (.int .i64 (k : Int))) none none).run P W = .ok v' W) ∧ Win w e sz v' (n - k) (xs.drop (k * sz)) ∧ Value.owner v' = Value.owner v := by
  have ht' : P.underlying t = some (.slice (P.elem t)) := by simp [Program.elem, ht]
  have he : P.elem t = e := by simp [Program.elem, ht]
  have hl : (xs.drop (k * sz)).length = (n - k) * sz := by rw [List.length_drop, h.1, Nat.sub_mul]
  rcases h.2 with ⟨rfl, rfl⟩ | ⟨g, off, cap, cur, rfl, hg, hnc, hs, hm, hx⟩
  · obtain rfl : k = 0 := by omega
    refine ⟨.slice none 0 0, fun W => ?_, ⟨hl, .inl ⟨rfl, rfl⟩⟩, rfl⟩
    rw [run_slice_l W t _ _ _ ht' .i64 _ (by omega) (by omega), he, hz]
    simp [Result.andThen, sliced]
  · by_cases hkc : cap = k
    · refine ⟨.slice (some ⟨g, off, none⟩) (n - k) (cap - k), fun W => ?_, ⟨hl, .inr ⟨g, off, cap - k, cur, rfl, hg, by omega, ?_, by omega, ?_⟩⟩, rfl⟩
      · rw [run_slice_l W t _ _ _ ht' .i64 _ (by omega) (by omega), he, hz]
        simp [Result.andThen, sliced, hkc]
      · subst hkc
        simp
        have := Nat.le_trans (Nat.le_add_right off _) hs
        exact this
      · obtain rfl : n = k := by omega
        have : xs.drop (n * sz) = [] := by rw [List.drop_of_length_le (by rw [h.1]; exact Nat.le_refl _)]
        simp [this]
    · refine ⟨.slice (some ⟨g, off + k * sz, none⟩) (n - k) (cap - k), fun W => ?_, ⟨hl, .inr ⟨g, off + k * sz, cap - k, cur, rfl, hg, by omega, ?_, by omega, ?_⟩⟩, rfl⟩
      · rw [run_slice_l W t _ _ _ ht' .i64 _ (by omega) (by omega), he, hz]
        simp [Result.andThen, sliced, hkc, add_flat]
      · have h1 : (cap - k) * sz = cap * sz - k * sz := Nat.sub_mul _ _ _
        have h2 : k * sz ≤ cap * sz := Nat.mul_le_mul_right _ (by omega)
        omega
      · rw [← hx, List.drop_take, List.drop_drop, Nat.sub_mul]
/-- 'v[:k]' -/
theorem Win.hi (h : Win w e sz v n xs) (ht : P.underlying t = some (.slice e)) (hz : ∀ w, (Go.sizeOf e).run P w = .ok sz w) (k : Nat) (hk : k ≤ n) :
    ∃ v', (∀ W, (Instr.slice t v none (some (.int .i64 (k : Int))) none).run P W = .ok v' W) ∧ Win w e sz v' k (xs.take (k * sz)) ∧ Value.owner v' = Value.owner v := by
  have ht' : P.underlying t = some (.slice (P.elem t)) := by simp [Program.elem, ht]
  have he : P.elem t = e := by simp [Program.elem, ht]
  have hkn : k * sz ≤ n * sz := Nat.mul_le_mul_right _ hk
  have hl : (xs.take (k * sz)).length = k * sz := by rw [List.length_take, h.1]; omega
  rcases h.2 with ⟨rfl, rfl⟩ | ⟨g, off, cap, cur, rfl, hg, hnc, hs, hm, hx⟩
  · obtain rfl : k = 0 := by omega
    refine ⟨.slice none 0 0, fun W => ?_, ⟨hl, .inl ⟨rfl, rfl⟩⟩, rfl⟩
    rw [run_slice_h W t _ _ _ ht' .i64 _ (by omega) (by omega), he, hz]
    simp [Result.andThen, sliced]
  · refine ⟨.slice (some ⟨g, off, none⟩) k cap, fun W => ?_, ⟨hl, .inr ⟨g, off, cap, cur, rfl, hg, by omega, hs, hm, ?_⟩⟩, rfl⟩
    · rw [run_slice_h W t _ _ _ ht' .i64 _ (by omega) (by omega), he, hz]
      by_cases h0 : cap = 0 <;> simp [Result.andThen, sliced, h0, add_flat]
    · rw [← hx, List.take_take, Nat.min_eq_left hkn]
/-- 'append(v, x..)' -/
theorem Win.append (h : Win w e sz v n xs) {tx ty : TypeId} {i : TypeInfo} {z : Value} {bytes : Nat} (ht : P.underlying t = some (.slice e)) (hi : P.info? e = some i) (hz : i.zero = some z) (hsize : i.size = sz) (hby : i.bytes = bytes) (hzs : z.cells.size = sz)
    (x : Value) (m : Nat) (news : List Value) (hs : Src P sz tx x m news w) (h63 : n + m ≤ maxLen) (hbytes : (n + m) * bytes ≤ 140737488355328) :
    ∃ v' w', (Builtin.append_ #[t, tx] ty #[v, x]).run P w = .ok v' w' ∧ Win w' e sz v' (n + m) (xs ++ news) ∧ w.grownBy w' v.ownBlock ∧ (v'.ownBlock = v.ownBlock ∨ v'.ownBlock = some w.heap.size ∧ w.heap.size < w'.heap.size) := by
  subst hsize
  subst hby
  have hnl := hs.newsLen
  have hl : (xs ++ news).length = (n + m) * i.size := by rw [List.length_append, h.1, hnl, Nat.add_mul]
  have hsmall : n + m ≤ 9223372036854775807 := by simp only [maxLen] at h63; omega
  have grown : ∀ (old : Nat) (hold : old < n + m) (row : Option Nat),
      Win (w.drew.alloc (.cells ((xs ++ news).toArray ++ Builtin.zeroCells z.cells (grownCap w (n + m) old e - (n + m))) e)) e i.size (.slice (some ⟨w.heap.size, 0, none⟩) (n + m) (grownCap w (n + m) old e)) (n + m) (xs ++ news) ∧
      w.grownBy (w.drew.alloc (.cells ((xs ++ news).toArray ++ Builtin.zeroCells z.cells (grownCap w (n + m) old e - (n + m))) e)) row := by
    intro old hold row
    have hge := grownCap_ge w (n + m) old e
    have hcm : grownCap w (n + m) old e ≤ maxLen := grownCap_le_maxLen w (n + m) old e h63
    refine ⟨⟨hl, .inr ⟨w.heap.size, 0, _, _, rfl, heap_alloc_new w.drew _, hge, ?_, hcm, ?_⟩⟩, ⟨rfl, rfl, rfl, by simp, fun k hk _ => Below.heap_alloc w.drew _ k hk⟩⟩
    · simp only [Array.size_append, List.size_toArray, size_zeroCells, hzs, hl, Nat.zero_add]
      rw [← Nat.add_mul]
      exact Nat.mul_le_mul_right _ (by omega)
    · simp only [Array.toList_append, List.drop_zero]
      rw [← hl]
      exact List.take_left
  rcases h.2 with ⟨rfl, rfl⟩ | ⟨g, off, cap, cur, rfl, hg, hnc, hsz, hm, hx⟩
  · have hx : xs = [] := List.eq_nil_of_length_eq_zero (by rw [h.1]; simp)
    subst hx
    by_cases hm0 : m = 0
    · subst hm0
      have hnn : news = [] := List.eq_nil_of_length_eq_zero (by rw [hnl]; simp)
      subst hnn
      exact ⟨_, w, run_append_nothing w t tx ty e i ht hi none 0 0 (Nat.le_refl _) x hs, ⟨by simp, .inl ⟨rfl, rfl⟩⟩, ⟨rfl, rfl, rfl, Nat.le_refl _, fun _ _ _ => rfl⟩, .inl rfl⟩
    · have hr := run_append_grow_src (P := P) w t tx ty e i z ht hi hz none 0 0 [] (run_firstCells_none w.drew i.size 0 0 0) x m news hs (by omega) (by omega) (growslice_fits (by omega) (by omega))
      have hgr := grown 0 (by omega) (Value.ownBlock (.slice none 0 0))
      simp only [List.nil_append] at hgr ⊢ hr
      exact ⟨_, _, hr, hgr.1, hgr.2, .inr ⟨rfl, by simp⟩⟩
  · by_cases hroom : n + m ≤ cap
    · have hb : (n + m) * i.size ≤ cap * i.size := Nat.mul_le_mul_right _ hroom
      rw [Nat.add_mul] at hb
      have hst := run_storeCells_at P g (off + n * i.size) e news 0 cur w hg (by rw [hnl]; omega) hs.one
      simp only [Nat.add_zero] at hst
      have hr : (Builtin.append_ #[t, tx] ty #[.slice (some ⟨g, off, none⟩) n cap, x]).run P w = .ok (.slice (some ⟨g, off, none⟩) (n + m) cap) (w.setRow g (cur.toList.take (off + n * i.size) ++ news ++ cur.toList.drop (off + n * i.size + news.length)).toArray) := by
        rcases hs.kind with ⟨e', hk⟩ | hk <;> simp [Builtin.append_, run_underlying ht, run_underlying hk, sizeOf, typeInfo, hi, hs.len, hroom, hs.cells, Addr.add_lit, hst]
      refine ⟨_, _, hr, ⟨hl, .inr ⟨g, off, cap, _, rfl, setRow_heap w g cur _ e _ hg, hroom, ?_, hm, ?_⟩⟩, ⟨rfl, rfl, rfl, by simp, fun k _ hk => setRow_other w g k _ (fun e => hk (by simp [Value.ownBlock, e]))⟩, .inl rfl⟩
      · simp only [List.size_toArray, List.length_append, List.length_take, List.length_drop, Array.length_toList]
        omega
      · have h1 : (cur.toList.take (off + n * i.size)).length = off + n * i.size := by rw [List.length_take, Array.length_toList]; omega
        rw [List.append_assoc, List.drop_append_of_le_length (by omega), List.drop_take, show off + n * i.size - off = n * i.size by omega, hx, ← List.append_assoc, ← hl]
        exact List.take_left
    · have holds : ∀ j u, xs[j]? = some u → w.drew.cell? ((⟨g, off, none⟩ : Addr).add j) = some u := by
        intro j u hu
        have hj : j < n * i.size := by have := (List.getElem?_eq_some_iff.1 hu).1; rw [h.1] at this; exact this
        rw [← hx, List.getElem?_take_of_lt hj, List.getElem?_drop] at hu
        rw [add_flat]
        show w.cell? _ = _
        simp only [World.cell?, hg]
        simpa using hu
      have hr := run_append_grow_src (P := P) w t tx ty e i z ht hi hz (some ⟨g, off, none⟩) n cap xs (run_firstCells_some w.drew i.size n _ n cap xs h.1 holds) x m news hs (by omega) (by omega) (growslice_fits (by omega) (by omega))
      have hgr := grown cap (by omega) (Value.ownBlock (.slice (some ⟨g, off, none⟩) n cap))
      exact ⟨_, _, hr, hgr.1, hgr.2, .inr ⟨rfl, by simp⟩⟩
/-- The operation, as the walk meets it. -/
theorem wpList_append_win {ops : Array Oper} {rest : List Oper} {o : Oper} {a : Act} {Q : Exit → Act → World → Prop} (hgd : o.guard = none) (sl x : Operand) (tx : TypeId)
    (ho : o.op = .call { callee := .builtin .append, args := #[sl, x], argTypes := #[t, tx] }) {z : Value} {bytes : Nat}
    (ht : P.underlying t = some (.slice e)) (hi : (P.info? e).map (fun i => (i.zero, i.size, i.bytes)) = some (some z, sz, bytes)) (hzs : z.cells.size = sz)
    (hs : a.eval sl = v) (h : Win w e sz v n xs) (X : Value) (hx : a.eval x = X) (m : Nat) (news : List Value) (hsrc : Src P sz tx X m news w) (h63 : n + m ≤ maxLen) (hbytes : (n + m) * bytes ≤ 140737488355328)
    (hk : ∀ v' w', Hid (Win w' e sz v' (n + m) (xs ++ news)) → Hid (w.grownBy w' v.ownBlock) → Hid (v'.ownBlock = v.ownBlock ∨ v'.ownBlock = some w.heap.size ∧ w.heap.size < w'.heap.size) → wpList P ops Q rest (a.put o.dst v') w') : wpList P ops Q (o :: rest) a w := by
  refine wpList_plain hgd fun K hK => ?_
  cases hq : P.info? e with
  | none => simp [hq] at hi
  | some i =>
    simp only [hq, Option.map_some, Option.some.injEq, Prod.mk.injEq] at hi
    obtain ⟨v', w', hr, h2, h3, h4⟩ := h.append (ty := o.type) ht hq hi.1 hi.2.1 hi.2.2 hzs X m news hsrc h63 hbytes
    unfold Oper.wp execOp
    simp only [ho, resolve, invoke, builtin, Sem.run_bind, Sem.run_pure, Result.andThen_ok, List.map_toArray, List.map_cons, List.map_nil, hs, hx, hr]
    exact hK _ _ (hk v' w' h2 h3 h4)
end
/-- A STEP: only the blocks F (and new ones) may have turned; behind it the structure's blocks are F'. -/
structure Step (F F' : List Nat) (w w' : World) : Prop where
  os : w'.os = w.os
  tape : w'.tape = w.tape
  output : w'.output = w.output
  size : w.heap.size ≤ w'.heap.size
  block : ∀ k, k < w.heap.size → k ∉ F → w'.heap[k]? = w.heap[k]?
  foot : ∀ k ∈ F', k ∈ F ∨ w.heap.size ≤ k
theorem Step.refl (F : List Nat) (w : World) : Step F F w w := ⟨rfl, rfl, rfl, Nat.le_refl _, fun _ _ _ => rfl, fun _ h => .inl h⟩
theorem Step.drewN {F F' : List Nat} {w w' : World} (h : Step F F' w w') (q : Nat) : Step F F' w (w'.drewN q) := ⟨h.os, h.tape, h.output, h.size, h.block, h.foot⟩
theorem Step.trans {F F' F'' : List Nat} {a b c : World} (h : Step F F' a b) (k : Step F' F'' b c) : Step F F'' a c :=
  ⟨k.os.trans h.os, k.tape.trans h.tape, k.output.trans h.output, Nat.le_trans h.size k.size, fun i hi hF => (k.block i (Nat.lt_of_lt_of_le hi h.size) (fun hF' => by
    rcases h.foot i hF' with h1 | h1
    · exact hF h1
    · omega)).trans (h.block i hi hF), fun i hi => by
    rcases k.foot i hi with h1 | h1
    · exact h.foot i h1
    · exact .inr (Nat.le_trans h.size h1)⟩
theorem Step.below {F F' : List Nat} {w w' : World} {B : Nat} (h : Step F F' w w') (hB : ∀ k ∈ F, B ≤ k) (hw : B ≤ w.heap.size) : Below B w w' :=
  ⟨h.os, h.tape, h.output, h.size, fun k hk => h.block k (by omega) (fun hF => by have := hB k hF; omega)⟩
theorem Step.low {F F' : List Nat} {w w' : World} {B : Nat} (h : Step F F' w w') (hB : ∀ k ∈ F, B ≤ k) (hw : B ≤ w.heap.size) : ∀ k ∈ F', B ≤ k := fun k hk => by
  rcases h.foot k hk with h1 | h1
  · exact hB k h1
  · omega
/-- What lies apart from F lies apart from F'. -/
theorem Step.apart {F F' G : List Nat} {w w' : World} (h : Step F F' w w') (hG : ∀ k ∈ G, k < w.heap.size) (hd : ∀ k ∈ G, k ∉ F) : ∀ k ∈ G, k ∉ F' := fun k hk hF => by
  rcases h.foot k hF with h1 | h1
  · exact hd k hk h1
  · have := hG k hk; omega
theorem src_one {P : Program} {tx e' : TypeId} (w : World) (hk : P.underlying tx = some (.slice e')) (v : Value) (e : TypeId) (g : Nat) (h1 : v.oneCell' = true) (hg : g = w.heap.size) :
    Src P 1 tx (.slice (some ⟨g, 0, none⟩) 1 1) 1 [v] (w.alloc (.cells #[v] e)) := by
  subst hg
  refine Src.ofSlice _ hk _ 1 1 [v] rfl (fun j u hu => ?_) (by simpa using h1)
  cases j with
  | zero =>
    simp at hu
    subst hu
    rw [add_flat]
    have hh := heap_alloc_new w (.cells #[v] e)
    simp only [World.cell?, Nat.add_zero]
    rw [hh]
    rfl
  | succ j => simp at hu
def bCells (l : List UInt8) : List Value := l.map fun b => Value.int .u8 (b.toNat : Int)
theorem bCells_length (l : List UInt8) : (bCells l).length = l.length := by simp [bCells]
def intCells (ns : List Nat) : List Value := ns.map fun (n : Nat) => Value.int .i64 (n : Int)
theorem intCells_length (ns : List Nat) : (intCells ns).length = ns.length := by simp [intCells]
theorem intCells_get (ns : List Nat) (j : Nat) : (intCells ns)[j]? = ns[j]?.map fun (n : Nat) => Value.int .i64 (n : Int) := by simp [intCells]
theorem Win.apart {w : World} {e : TypeId} {sz : Nat} {v : Value} {n : Nat} {xs : List Value} (h : Win w e sz v n xs) {b : Nat} {c : Array Value} {t : TypeId} {fr : Nat × Nat} (hb : w.heap[b]? = some (.cells c t fr)) (hne : e ≠ t) : b ∉ Value.owner v := by
  intro hk
  obtain ⟨cur, hc⟩ := h.typed b hk
  rw [hb] at hc
  injection hc with hc
  injection hc with _ h2
  exact hne h2.symm
theorem Win.apart2 {w : World} {e e' : TypeId} {sz sz' : Nat} {v v' : Value} {n n' : Nat} {xs xs' : List Value} (h : Win w e sz v n xs) (h' : Win w e' sz' v' n' xs') (hne : e ≠ e') : ∀ k ∈ Value.owner v', k ∉ Value.owner v := by
  intro k hk
  obtain ⟨cur, hc⟩ := h'.typed k hk
  exact h.apart hc hne
theorem step_setCell (F : List Nat) (w : World) (p : Addr) (u : Value) (hp : p.block ∈ F) : Step F F w (w.setCell p u) :=
  ⟨rfl, rfl, rfl, by simp [World.setCell], fun k _ hF => Below.heap_setCell w p u k (fun e => hF (e ▸ hp)), fun _ h => .inl h⟩
theorem step_grown {F : List Nat} {w w' : World} {row : Option Nat} (h : w.grownBy w' row) (hr : ∀ k, row = some k → k ∈ F) : Step F F w w' :=
  ⟨h.os, h.tape, h.output, h.size, fun k hk hF => h.block k hk (fun e => hF (hr k e.symm)), fun _ h => .inl h⟩
theorem Step.widen {F F' G : List Nat} {w w' : World} (h : Step F F' w w') (hG : ∀ k ∈ G, k ∈ F ∨ w.heap.size ≤ k) : Step F G w w' := ⟨h.os, h.tape, h.output, h.size, h.block, hG⟩
theorem ob_iff (v : Value) (k : Nat) : v.ownBlock = some k ↔ k ∈ Value.owner v := (owner_eq v k).symm
def sCells (l : List ByteArray) : List Value := l.map Value.string
theorem sCells_length (l : List ByteArray) : (sCells l).length = l.length := by simp [sCells]
/-- Blocks of other types than these stay. -/
def Off (ts : List Nat) (w w' : World) : Prop := ∀ (k : Nat) (c : Array Value) (t : TypeId) (fr : Nat × Nat), w.heap[k]? = some (.cells c t fr) → t ∉ ts → w'.heap[k]? = some (.cells c t fr)
theorem Off.refl (ts : List Nat) (w : World) : Off ts w w := fun _ _ _ _ h _ => h
theorem Off.trans {ts : List Nat} {a b c : World} (h : Off ts a b) (k : Off ts b c) : Off ts a c := fun i x t fr hi ht => k i x t fr (h i x t fr hi ht) ht
theorem Off.drewN {ts : List Nat} {a b : World} (h : Off ts a b) (q : Nat) : Off ts a (b.drewN q) := h
theorem Off.alloc {ts : List Nat} {a b : World} (h : Off ts a b) (o : Obj) : Off ts a (b.alloc o) := fun i x t fr hi ht => by
  have := h i x t fr hi ht
  rw [Below.heap_alloc b o i (Array.getElem?_eq_some_iff.1 this).1]
  exact this
theorem Off.setCell {ts : List Nat} {a b : World} (h : Off ts a b) {p : Addr} {c : Array Value} {t : TypeId} {fr : Nat × Nat} (hp : a.heap[p.block]? = some (.cells c t fr)) (ht : t ∈ ts) (u : Value) : Off ts a (b.setCell p u) := fun i x t' fr' hi ht' => by
  rw [Below.heap_setCell b p u i (fun e => ?_)]
  · exact h i x t' fr' hi ht'
  · subst e
    rw [hp] at hi
    injection hi with hi
    injection hi with _ h2 _
    exact ht' (h2 ▸ ht)
theorem off_grown {ts : List Nat} {w w' : World} {row : Option Nat} (h : w.grownBy w' row) (hr : ∀ k c t fr, row = some k → w.heap[k]? = some (.cells c t fr) → t ∈ ts) : Off ts w w' := fun i x t fr hi ht => by
  rw [h.block i (Array.getElem?_eq_some_iff.1 hi).1 (fun e => ht (hr i x t fr e.symm hi))]
  exact hi
theorem Win.src {P : Program} {w : World} {e tx e' : TypeId} {sz : Nat} {v : Value} {n : Nat} {xs : List Value} (h : Win w e sz v n xs) (hk : P.underlying tx = some (.slice e')) (h1 : ∀ u ∈ xs, u.oneCell' = true) : Src P sz tx v n xs w := by
  rcases h.2 with ⟨rfl, rfl⟩ | ⟨g, off, cap, cur, rfl, hg, hnc, hs, hm, hx⟩
  · have : xs = [] := List.eq_nil_of_length_eq_zero (by rw [h.1]; simp)
    subst this
    exact Src.ofNil w hk 0
  · refine Src.ofSlice w hk _ n cap xs h.1 (fun j u hu => ?_) h1
    have hj : j < n * sz := by have := (List.getElem?_eq_some_iff.1 hu).1; rw [h.1] at this; exact this
    rw [← hx, List.getElem?_take_of_lt hj, List.getElem?_drop] at hu
    rw [add_flat]
    simp only [World.cell?, hg]
    simpa using hu
theorem sCells_one (l : List ByteArray) : ∀ u ∈ sCells l, u.oneCell' = true := by
  intro u hu
  obtain ⟨x, _, rfl⟩ := List.mem_map.1 hu
  rfl
/-- Element k, as the walk meets it. -/
theorem Win.elem {w : World} {e : TypeId} {v : Value} {n : Nat} {xs : List Value} (h : Win w e 1 v n xs) (k : Nat) (u : Value) (hu : xs[k]? = some u) : ∃ g off cap, v = .slice (some ⟨g, off, none⟩) n cap ∧ w.cell? ⟨g, off + k, none⟩ = some u := by
  have hk : k < n := by have := (List.getElem?_eq_some_iff.1 hu).1; rw [h.1] at this; omega
  obtain ⟨g, off, cap, rfl, _, _, _, _, h2⟩ := h.form (by omega)
  exact ⟨g, off, cap, rfl, (h2 k u hu).1⟩
/-- append at a step of a region that draws its order. -/
theorem step_append_win {P : Program} {w : World} {e t : TypeId} {sz : Nat} {v : Value} {n : Nat} {xs : List Value} {ops : Array Oper} {o : Oper} {a : Act} {K : Act → World → Prop} {Q : Exit → Act → World → Prop} {E : Prop} (hgd : o.guard = none) (sl x : Operand) (tx : TypeId)
    (ho : o.op = .call { callee := .builtin .append, args := #[sl, x], argTypes := #[t, tx] }) {z : Value} {bytes : Nat}
    (ht : P.underlying t = some (.slice e)) (hi : (P.info? e).map (fun i => (i.zero, i.size, i.bytes)) = some (some z, sz, bytes)) (hzs : z.cells.size = sz)
    (hs : a.eval sl = v) (h : Win w e sz v n xs) (X : Value) (hx : a.eval x = X) (m : Nat) (news : List Value) (hsrc : Src P sz tx X m news w) (h63 : n + m ≤ maxLen) (hbytes : (n + m) * bytes ≤ 140737488355328)
    (hk : ∀ v' w', Hid (Win w' e sz v' (n + m) (xs ++ news)) → Hid (w.grownBy w' v.ownBlock) → Hid (v'.ownBlock = v.ownBlock ∨ v'.ownBlock = some w.heap.size ∧ w.heap.size < w'.heap.size) → K (a.put o.dst v') w') :
    if Region.wanted o (yielded ops a.tmps) = true then Oper.wp P o a w K Q else E := by
  have hw : Region.wanted o (yielded ops a.tmps) = true := by simp [Region.wanted, hgd]
  rw [if_pos hw]
  cases hq : P.info? e with
  | none => simp [hq] at hi
  | some i =>
    simp only [hq, Option.map_some, Option.some.injEq, Prod.mk.injEq] at hi
    obtain ⟨v', w', hr, h2, h3, h4⟩ := h.append (ty := o.type) ht hq hi.1 hi.2.1 hi.2.2 hzs X m news hsrc h63 hbytes
    unfold Oper.wp execOp
    simp only [ho, resolve, invoke, builtin, Sem.run_bind, Sem.run_pure, Result.andThen_ok, List.map_toArray, List.map_cons, List.map_nil, hs, hx, hr]
    exact hk v' w' h2 h3 h4
theorem Win.drew {w : World} {e : TypeId} {sz : Nat} {v : Value} {n : Nat} {xs : List Value} (h : Win w e sz v n xs) : Win w.drew e sz v n xs := h
theorem win_one (w : World) (v : Value) (e : TypeId) (g : Nat) (hg : g = w.heap.size) : Win (w.alloc (.cells #[v] e)) e 1 (.slice (some ⟨g, 0, none⟩) 1 1) 1 [v] := by
  subst hg
  exact ⟨rfl, .inr ⟨w.heap.size, 0, 1, _, rfl, heap_alloc_new w _, Nat.le_refl _, by simp, by unfold maxLen; omega, by simp⟩⟩
/-- All that is new since w0, told of a slice and a world. -/
def Fresh (w0 w : World) (v : Value) : Prop := Below w0.heap.size w0 w ∧ ∀ k ∈ Value.owner v, w0.heap.size ≤ k
end Go.Proofs.Ytonjdnahplphhaa
/-
  NO PROGRAM NEEDED: numbers as bytes, the highest first; heads (a kind, a number), the shortest ones; their order.
-/
namespace Go.Proofs.Ytonjdnahplphhaa
open Go.Lib
/-- The n last bytes of a number, the highest first. -/
def bigB : Nat → Nat → List UInt8
  | 0, _ => []
  | n + 1, v => UInt8.ofNat (v / 256 ^ n % 256) :: bigB n v
/-- The number that bytes are, behind another one. -/
def valB (a : Nat) : List UInt8 → Nat
  | [] => a
  | b :: t => valB (a * 256 + b.toNat) t
theorem bigB_length (n v : Nat) : (bigB n v).length = n := by
  induction n with
  | zero => rfl
  | succ n ih => simp [bigB, ih]
theorem byte_of (x : Nat) : (UInt8.ofNat (x % 256)).toNat = x % 256 := by simp
theorem byte_lt (b : UInt8) : b.toNat < 256 := b.toNat_lt
theorem valB_append (a : Nat) (l k : List UInt8) : valB a (l ++ k) = valB (valB a l) k := by
  induction l generalizing a with
  | nil => rfl
  | cons b t ih => simp [valB, ih]
theorem valB_eq (a : Nat) (l : List UInt8) : valB a l = a * 256 ^ l.length + valB 0 l := by
  induction l generalizing a with
  | nil => simp [valB]
  | cons b t ih =>
    simp only [valB, List.length_cons]
    rw [ih (a * 256 + b.toNat), ih (0 * 256 + b.toNat), Nat.pow_succ]
    have e1 : (a * 256 + b.toNat) * 256 ^ t.length = a * (256 ^ t.length * 256) + b.toNat * 256 ^ t.length := by
      rw [Nat.add_mul, Nat.mul_assoc, Nat.mul_comm 256]
    rw [e1]
    simp
    omega
theorem valB_lt (l : List UInt8) : valB 0 l < 256 ^ l.length := by
  induction l with
  | nil => simp [valB]
  | cons b t ih =>
    simp only [valB, List.length_cons]
    rw [valB_eq, Nat.pow_succ]
    have hb := byte_lt b
    have : (0 * 256 + b.toNat) * 256 ^ t.length ≤ 255 * 256 ^ t.length := Nat.mul_le_mul_right _ (by omega)
    omega
/-- Bytes of a number are its last ones. -/
theorem valB_big (n v : Nat) : valB 0 (bigB n v) = v % 256 ^ n := by
  induction n with
  | zero => simp [bigB, valB, Nat.mod_one]
  | succ n ih =>
    simp only [bigB, valB]
    rw [valB_eq, ih, bigB_length, byte_of, Nat.pow_succ]
    have h1 : v % (256 ^ n * 256) = v % 256 ^ n + 256 ^ n * (v / 256 ^ n % 256) := Nat.mod_mul
    rw [h1, Nat.mul_comm (256 ^ n)]
    simp
    omega
/-- Bytes that are a number of so many bytes are its bytes. -/
theorem big_valB (l : List UInt8) : bigB l.length (valB 0 l) = l := by
  suffices h : ∀ (l : List UInt8) (a : Nat), bigB l.length (valB a l) = l from h l 0
  intro l
  induction l with
  | nil => intro a; rfl
  | cons b t ih =>
    intro a
    simp only [List.length_cons, bigB, valB, ih]
    congr 1
    rw [valB_eq]
    have hp : 0 < 256 ^ t.length := Nat.pow_pos (by decide)
    have hl := valB_lt t
    rw [Nat.add_comm, Nat.add_mul_div_right _ _ hp, Nat.div_eq_of_lt hl]
    have hb := byte_lt b
    have : (0 + (a * 256 + b.toNat)) % 256 = b.toNat := by omega
    rw [this]
    simp
theorem bigB_add (n m v : Nat) : bigB n (v / 256 ^ m) ++ bigB m v = bigB (n + m) v := by
  induction n with
  | zero => simp [bigB]
  | succ n ih =>
    rw [show n + 1 + m = (n + m) + 1 by omega]
    simp only [bigB, List.cons_append, ih]
    congr 3
    rw [Nat.div_div_eq_div_mul, ← Nat.pow_add, Nat.add_comm m n]
theorem lessh_cons (a b : UInt8) (x y : List UInt8) : Op.bytesLess (a :: x) (b :: y) = true ↔ a.toNat < b.toNat ∨ (a = b ∧ Op.bytesLess x y = true) := by
  rw [Op.bytesLess]
  simp only [Bool.or_eq_true, Bool.and_eq_true, beq_iff_eq, decide_eq_true_eq]
  rfl
theorem lessh_irrefl (x : List UInt8) : ¬ Op.bytesLess x x = true := by
  induction x with
  | nil => simp [Op.bytesLess]
  | cons a t ih =>
    rw [lessh_cons]
    rintro (h | ⟨_, h⟩)
    · omega
    · exact ih h
/-- Bytes of one length go by the numbers that they are. -/
theorem less_val : ∀ x y : List UInt8, x.length = y.length → (Op.bytesLess x y = true ↔ valB 0 x < valB 0 y)
  | [], [], _ => by simp [Op.bytesLess, valB]
  | [], _ :: _, h => by simp at h
  | _ :: _, [], h => by simp at h
  | a :: x, b :: y, h => by
    have hl : x.length = y.length := by simpa using h
    have ih := less_val x y hl
    rw [lessh_cons, ih]
    simp only [valB]
    rw [valB_eq (0 * 256 + a.toNat) x, valB_eq (0 * 256 + b.toNat) y, hl]
    have h1 := valB_lt x
    have h2 := valB_lt y
    rw [hl] at h1
    generalize 256 ^ y.length = p at *
    generalize valB 0 x = u at *
    generalize valB 0 y = v at *
    simp only [Nat.zero_mul, Nat.zero_add]
    constructor
    · rintro (h | ⟨rfl, h⟩)
      · have : (a.toNat + 1) * p ≤ b.toNat * p := Nat.mul_le_mul_right _ h
        rw [Nat.add_mul] at this
        omega
      · omega
    · intro h
      by_cases hab : a.toNat < b.toNat
      · exact .inl hab
      · by_cases he : a.toNat = b.toNat
        · rw [he] at h
          exact .inr ⟨UInt8.toNat.inj he, by omega⟩
        · have : (b.toNat + 1) * p ≤ a.toNat * p := Nat.mul_le_mul_right _ (by omega)
          rw [Nat.add_mul] at this
          omega
/-- How many bytes follow the first one, and what its five lowest bits are. -/
def sizH (v : Nat) : Nat × Nat := if v < 24 then (0, v) else if v < 256 then (1, 24) else if v < 65536 then (2, 25) else if v < 4294967296 then (4, 26) else (8, 27)
/-- The shortest head of a number. -/
def headB (m v : Nat) : List UInt8 := UInt8.ofNat (m * 32 + (sizH v).2) :: bigB (sizH v).1 v
theorem sizH_cases (v : Nat) (hv : v < 18446744073709551616) : v < 24 ∧ sizH v = (0, v) ∨ (24 ≤ v ∧ v < 256) ∧ sizH v = (1, 24) ∨ (256 ≤ v ∧ v < 65536) ∧ sizH v = (2, 25) ∨ (65536 ≤ v ∧ v < 4294967296) ∧ sizH v = (4, 26) ∨ (4294967296 ≤ v ∧ v < 18446744073709551616) ∧ sizH v = (8, 27) := by
  unfold sizH
  by_cases h1 : v < 24
  · exact .inl ⟨h1, by rw [if_pos h1]⟩
  · by_cases h2 : v < 256
    · exact .inr (.inl ⟨by omega, by rw [if_neg h1, if_pos h2]⟩)
    · by_cases h3 : v < 65536
      · exact .inr (.inr (.inl ⟨by omega, by rw [if_neg h1, if_neg h2, if_pos h3]⟩))
      · by_cases h4 : v < 4294967296
        · exact .inr (.inr (.inr (.inl ⟨by omega, by rw [if_neg h1, if_neg h2, if_neg h3, if_pos h4]⟩)))
        · exact .inr (.inr (.inr (.inr ⟨by omega, by rw [if_neg h1, if_neg h2, if_neg h3, if_neg h4]⟩)))
theorem headB_length (m v : Nat) : (headB m v).length = 1 + (sizH v).1 := by
  unfold headB
  rw [List.length_cons, bigB_length]
  omega
theorem sizH_fits (v : Nat) (hv : v < 18446744073709551616) : 1 ≤ (sizH v).1 → v < 256 ^ (sizH v).1 := by
  rcases sizH_cases v hv with ⟨h, e⟩ | ⟨h, e⟩ | ⟨h, e⟩ | ⟨h, e⟩ | ⟨h, e⟩ <;> rw [e] <;> intro _ <;> simp only [] at * <;> omega
theorem sizH_low (v : Nat) (hv : v < 18446744073709551616) : (sizH v).2 < 28 := by
  rcases sizH_cases v hv with ⟨h, e⟩ | ⟨h, e⟩ | ⟨h, e⟩ | ⟨h, e⟩ | ⟨h, e⟩ <;> rw [e] <;> simp only [] <;> omega
/-- Heads of one kind go by their numbers. -/
theorem head_less (m a b : Nat) (hm : m < 8) (ha : a < 18446744073709551616) (hb : b < 18446744073709551616) : Op.bytesLess (headB m a) (headB m b) = true ↔ a < b := by
  have la := sizH_low a ha
  have lb := sizH_low b hb
  have fa := sizH_fits a ha
  have fb := sizH_fits b hb
  have ea : (UInt8.ofNat (m * 32 + (sizH a).2)).toNat = m * 32 + (sizH a).2 := by simp; omega
  have eb : (UInt8.ofNat (m * 32 + (sizH b).2)).toNat = m * 32 + (sizH b).2 := by simp; omega
  unfold headB
  rw [lessh_cons, ea, eb]
  have hbig : (sizH a).1 = (sizH b).1 → 1 ≤ (sizH a).1 → (Op.bytesLess (bigB (sizH a).1 a) (bigB (sizH b).1 b) = true ↔ a < b) := by
    intro h h1
    rw [less_val _ _ (by rw [bigB_length, bigB_length, h]), valB_big, valB_big, Nat.mod_eq_of_lt (fa h1), Nat.mod_eq_of_lt (fb (by omega))]
  have hz : (sizH a).1 = 0 → (sizH b).1 = 0 → ¬ Op.bytesLess (bigB (sizH a).1 a) (bigB (sizH b).1 b) = true := by
    intro h1 h2
    rw [h1, h2]
    simp [bigB, Op.bytesLess]
  have hiff : UInt8.ofNat (m * 32 + (sizH a).2) = UInt8.ofNat (m * 32 + (sizH b).2) ↔ (sizH a).2 = (sizH b).2 := by
    constructor
    · intro h
      have := congrArg UInt8.toNat h
      rw [ea, eb] at this
      omega
    · intro h; rw [h]
  rw [hiff]
  rcases sizH_cases a ha with ⟨h, e⟩ | ⟨h, e⟩ | ⟨h, e⟩ | ⟨h, e⟩ | ⟨h, e⟩ <;> rcases sizH_cases b hb with ⟨h', e'⟩ | ⟨h', e'⟩ | ⟨h', e'⟩ | ⟨h', e'⟩ | ⟨h', e'⟩ <;> rw [e, e'] at hbig hz ⊢
  all_goals first
    | (have hq := hbig rfl (by decide); dsimp only at hq ⊢; first | (rw [hq]; done) | (rw [hq]; omega) | (simp only [hq]; omega) | simp [hq])
    | (have hq := hz rfl rfl; simp only [] at hq ⊢; constructor; (rintro (h | ⟨_, h⟩); omega; exact absurd h hq); (intro h; exact .inl (by omega)))
    | (clear hbig hz; simp only []; constructor; (rintro (h | ⟨h, _⟩) <;> omega); (intro h; exact .inl (by omega)))
    | (clear hbig hz; simp only []; constructor; (rintro (h | ⟨h, _⟩) <;> omega); (intro h; omega))
/-- A Head: behind an error; new; with bytes to come; at its end (the last: open). -/
inductive Hd
  | bad (e : Nat)
  | new
  | mid (m n v : Nat)
  | fin (m v : Nat) (o : Bool)
def stepH : Hd → Nat → Hd
  | .bad e, _ => .bad e
  | .fin _ _ _, _ => .bad 14
  | .new, b => if b % 32 < 24 then .fin (b / 32) (b % 32) false else if b % 32 < 28 then .mid (b / 32) (2 ^ (b % 32 - 24)) 0 else if b % 32 = 31 then .fin (b / 32) 0 true else .bad 2
  | .mid m n v, b => if n = 1 then .fin m (v * 256 + b) false else .mid m (n - 1) (v * 256 + b)
def endH : Hd → Bool
  | .fin _ _ _ => true
  | _ => false
def errH : Hd → Nat
  | .bad e => e
  | _ => 0
def majH : Hd → Nat
  | .mid m _ _ => m
  | .fin m _ _ => m
  | _ => 0
def valH : Hd → Nat
  | .fin _ v _ => v
  | _ => 0
def opnH : Hd → Bool
  | .fin _ _ o => o
  | _ => false
def runH (s : Hd) (l : List UInt8) : Hd := l.foldl (fun s b => stepH s b.toNat) s
theorem runH_cons (s : Hd) (b : UInt8) (l : List UInt8) : runH s (b :: l) = runH (stepH s b.toNat) l := rfl
theorem runH_append (s : Hd) (l k : List UInt8) : runH s (l ++ k) = runH (runH s l) k := by unfold runH; rw [List.foldl_append]
theorem runH_mid (m : Nat) : ∀ (l : List UInt8) (a : Nat), l ≠ [] → runH (.mid m l.length a) l = .fin m (valB a l) false
  | [], _, h => absurd rfl h
  | [b], a, _ => by simp [runH, stepH, valB]
  | b :: c :: t, a, _ => by
    rw [runH_cons, show stepH (.mid m (b :: c :: t).length a) b.toNat = .mid m (c :: t).length (a * 256 + b.toNat) by simp [stepH], runH_mid m (c :: t) _ (by simp)]
    simp only [valB]
/-- On the way there is no end. -/
theorem runH_take (m : Nat) : ∀ (l : List UInt8) (a k : Nat), k < l.length → runH (.mid m l.length a) (l.take k) = .mid m (l.length - k) (valB a (l.take k))
  | [], _, _, h => by simp at h
  | b :: t, a, 0, _ => by simp [runH, valB]
  | b :: t, a, k + 1, h => by
    have ht : k < t.length := by simpa using h
    rw [List.take_succ_cons, runH_cons, show stepH (.mid m (b :: t).length a) b.toNat = .mid m t.length (a * 256 + b.toNat) by simp [stepH]; intro e; subst e; simp at ht, runH_take m t _ k ht]
    simp [valB]
theorem step_first (m l : Nat) (hm : m < 8) (hl : l < 32) : stepH .new (UInt8.ofNat (m * 32 + l)).toNat = if l < 24 then .fin m l false else if l < 28 then .mid m (2 ^ (l - 24)) 0 else if l = 31 then .fin m 0 true else .bad 2 := by
  have e : (UInt8.ofNat (m * 32 + l)).toNat = m * 32 + l := by simp; omega
  rw [e]
  simp only [stepH]
  rw [show (m * 32 + l) % 32 = l by omega, show (m * 32 + l) / 32 = m by omega]
/-- A number in 2 to the k bytes. -/
theorem run_long (m k v : Nat) (hm : m < 8) (hk : k < 4) (hv : v < 256 ^ 2 ^ k) : runH .new (UInt8.ofNat (m * 32 + (24 + k)) :: bigB (2 ^ k) v) = .fin m v false := by
  rw [runH_cons, step_first m (24 + k) hm (by omega), if_neg (by omega), if_pos (by omega), show 24 + k - 24 = k by omega]
  have hp : 0 < 2 ^ k := Nat.pow_pos (by decide)
  have := runH_mid m (bigB (2 ^ k) v) 0 (by intro h; have := congrArg List.length h; rw [bigB_length] at this; simp at this)
  rw [bigB_length] at this
  rw [this, valB_big, Nat.mod_eq_of_lt hv]
theorem run_head (m v : Nat) (hm : m < 8) (hv : v < 18446744073709551616) : runH .new (headB m v) = .fin m v false := by
  unfold headB
  rcases sizH_cases v hv with ⟨h, e⟩ | ⟨h, e⟩ | ⟨h, e⟩ | ⟨h, e⟩ | ⟨h, e⟩ <;> rw [e]
  · simp only [bigB]
    rw [runH_cons, step_first m v hm (by omega), if_pos h]
    rfl
  · exact run_long m 0 v hm (by decide) (by simp; omega)
  · exact run_long m 1 v hm (by decide) (by simp; omega)
  · exact run_long m 2 v hm (by decide) (by simp; omega)
  · exact run_long m 3 v hm (by decide) (by simp; omega)
end Go.Proofs.Ytonjdnahplphhaa
/-
  NO PROGRAM NEEDED: parts of documents; whether parts are one document (a machine over a stack of open containers); cuts, wraps, depths.
-/
namespace Go.Proofs.Ytonjdnahplphhaa
open Go.Lib
/-- A part. -/
structure Ev where
  k : Int
  y : Bool
  m : Nat
  t : ByteArray
  c : Int
/-- One that may be. -/
def mayE (e : Ev) : Prop := 0 ≤ e.k ∧ e.k ≤ 7 ∧ (e.k = 5 ∨ e.k = 6 → -1 ≤ e.c)
instance (e : Ev) : Decidable (mayE e) := by unfold mayE; infer_instance
/-- A part without what its kind has not. -/
def tidyE (e : Ev) : Ev := if e.k = 1 then ⟨1, e.y, 0, ⟨#[]⟩, 0⟩ else if e.k = 2 then ⟨2, e.y, e.m, ⟨#[]⟩, 0⟩ else if e.k = 3 ∨ e.k = 4 then ⟨e.k, false, 0, e.t, 0⟩ else if e.k = 5 ∨ e.k = 6 then ⟨e.k, false, 0, ⟨#[]⟩, e.c⟩ else ⟨e.k, false, 0, ⟨#[]⟩, 0⟩
/-- An open container: a map or not, its count, how many parts it has. -/
structure Bx where
  map : Bool
  c : Int
  have_ : Nat
deriving DecidableEq
/-- May it not be at its end? -/
def shutB (b : Bx) : Prop := (0 ≤ b.c ∧ (b.have_ : Int) ≠ (if b.map then 2 * b.c else b.c)) ∨ (b.map = true ∧ b.have_ % 2 = 1)
instance (b : Bx) : Decidable (shutB b) := by unfold shutB; infer_instance
/-- The parts so far: wrong; within open containers (the last opened first); one document. -/
inductive Ck
  | bad (e : Nat)
  | live (s : List Bx)
  | done
deriving DecidableEq
/-- A part within a container. -/
def incB : List Bx → List Bx
  | [] => []
  | b :: r => ⟨b.map, b.c, b.have_ + 1⟩ :: r
/-- Must a key come? -/
def keyB : List Bx → Bool
  | [] => false
  | b :: _ => b.map && b.have_ % 2 == 0
def stepC : Ck → Ev → Ck
  | .bad f, _ => .bad f
  | .done, _ => .bad 2
  | .live s, e =>
    if ¬ mayE e then .bad 2
    else if e.k = 7 then
      match s with
      | [] => .bad 2
      | b :: r => if shutB b then .bad 2 else if r = [] then .done else .live r
    else if keyB s = true ∧ e.k ≠ 3 then .bad 8
    else if e.k = 5 ∨ e.k = 6 then (if 16 ≤ s.length then .bad 4 else .live (⟨decide (e.k = 6), e.c, 0⟩ :: incB s))
    else if s = [] then .done else .live (incB s)
def runC (s : Ck) (l : List Ev) : Ck := l.foldl stepC s
/-- What Check answers. -/
def errC : Ck → Nat
  | .bad e => e
  | .live _ => 3
  | .done => 0
def checkE (l : List Ev) : Nat := errC (runC (.live []) l)
theorem runC_cons (s : Ck) (e : Ev) (l : List Ev) : runC s (e :: l) = runC (stepC s e) l := rfl
theorem runC_append (s : Ck) (l k : List Ev) : runC s (l ++ k) = runC (runC s l) k := by unfold runC; rw [List.foldl_append]
theorem runC_bad (f : Nat) (l : List Ev) : runC (.bad f) l = .bad f := by
  induction l with
  | nil => rfl
  | cons e l ih => exact ih
/-- The errors that there are. -/
def WfC : Ck → Prop
  | .bad e => e = 2 ∨ e = 4 ∨ e = 8
  | _ => True
theorem wf_stepC (s : Ck) (e : Ev) (h : WfC s) : WfC (stepC s e) := by
  cases s with
  | bad f => exact h
  | done => exact .inl rfl
  | live s =>
    simp only [stepC]
    split
    · exact .inl rfl
    · split
      · cases s with
        | nil => exact .inl rfl
        | cons b r =>
          simp only []
          split
          · exact .inl rfl
          · split <;> trivial
      · split
        · exact .inr (.inr rfl)
        · split
          · split
            · exact .inr (.inl rfl)
            · trivial
          · split <;> trivial
theorem wf_runC (l : List Ev) : ∀ s, WfC s → WfC (runC s l) := by
  induction l with
  | nil => exact fun s h => h
  | cons e l ih => exact fun s h => ih _ (wf_stepC s e h)
theorem errC_zero {s : Ck} (h : WfC s) (he : errC s = 0) : s = .done := by
  cases s with
  | bad e =>
    have : e = 0 := he
    rcases h with h | h | h <;> omega
  | live s => simp [errC] at he
  | done => rfl
theorem check_zero {l : List Ev} (h : checkE l = 0) : runC (.live []) l = .done := errC_zero (wf_runC l _ trivial) h
theorem runC_done {l : List Ev} (h : runC .done l = .done) : l = [] := by
  cases l with
  | nil => rfl
  | cons e l =>
    rw [runC_cons, show stepC .done e = .bad 2 from rfl, runC_bad] at h
    cases h
/-- The beginning of a document is not at its end. -/
theorem check_cut (l : List Ev) (h : checkE l = 0) (k : Nat) (hk : k < l.length) : checkE (l.take k) = 3 := by
  have h1 := check_zero h
  rw [← List.take_append_drop k l, runC_append] at h1
  unfold checkE
  cases hs : runC (.live []) (l.take k) with
  | bad f => rw [hs, runC_bad] at h1; cases h1
  | live s => rfl
  | done =>
    rw [hs] at h1
    have := congrArg List.length (runC_done h1)
    simp at this
    omega
/-- Behind a document nothing more may come. -/
theorem check_more (l : List Ev) (e : Ev) (h : checkE l = 0) : checkE (l ++ [e]) = 2 := by
  unfold checkE
  rw [runC_append, check_zero h]
  rfl
/-- How deep parts are in one another: now, and at most (as the statement reckons it). -/
def deepS (d : Int × Int) (e : Ev) : Int × Int := if e.k = 5 ∨ e.k = 6 then (d.1 + 1, max d.2 (d.1 + 1)) else if e.k = 7 then (d.1 - 1, d.2) else d
def deepR (d : Int × Int) (l : List Ev) : Int × Int := l.foldl deepS d
theorem deepR_cons (d : Int × Int) (e : Ev) (l : List Ev) : deepR d (e :: l) = deepR (deepS d e) l := rfl
theorem deepR_le (l : List Ev) : ∀ d : Int × Int, d.2 ≤ (deepR d l).2 := by
  induction l with
  | nil => exact fun d => Int.le_refl _
  | cons e l ih =>
    intro d
    rw [deepR_cons]
    refine Int.le_trans ?_ (ih _)
    unfold deepS
    split
    · exact Int.le_max_left _ _
    · split <;> exact Int.le_refl _
/-- The stack beneath which a box lies. -/
def onB (B : Bx) (s : List Bx) : List Bx := s ++ [B]
/-- A document within one more container: it goes its way there, unless it is too deep. -/
theorem goes_in (B : Bx) (hB : B.map = false) : ∀ (l : List Ev) (s : List Bx) (most : Int), s ≠ [] → most ≤ 15 → (s.length : Int) ≤ 15 → runC (.live s) l = .done →
    runC (.live (onB B s)) l = if 16 ≤ (deepR ((s.length : Int), most) l).2 then .bad 4 else .live [B]
  | [], s, most, hs, _, _, h => by simp [runC] at h
  | e :: l, s, most, hs, hm, hl, h => by
    rw [runC_cons] at h ⊢
    rw [deepR_cons]
    have hne : onB B s ≠ [] := by simp [onB]
    have hlen : (onB B s).length = s.length + 1 := by simp [onB]
    have hkey : keyB (onB B s) = keyB s := by
      cases s with
      | nil => exact absurd rfl hs
      | cons b r => rfl
    have hinc : incB (onB B s) = onB B (incB s) := by
      cases s with
      | nil => exact absurd rfl hs
      | cons b r => rfl
    have hincl : (incB s).length = s.length := by cases s <;> rfl
    have hincn : incB s ≠ [] := by
      cases s with
      | nil => exact absurd rfl hs
      | cons b r => simp [incB]
    by_cases hmay : mayE e
    · by_cases h7 : e.k = 7
      · have h56 : ¬ (e.k = 5 ∨ e.k = 6) := by omega
        have hd : deepS ((s.length : Int), most) e = ((s.length : Int) - 1, most) := by
          unfold deepS
          rw [if_neg h56, if_pos h7]
        cases s with
        | nil => exact absurd rfl hs
        | cons b r =>
          have e1 : stepC (.live (b :: r)) e = if shutB b then .bad 2 else if r = [] then .done else .live r := by
            simp only [stepC]
            rw [if_neg (by simpa using hmay), if_pos h7]
          have e2 : stepC (.live (onB B (b :: r))) e = if shutB b then .bad 2 else .live (onB B r) := by
            simp only [stepC, onB, List.cons_append]
            rw [if_neg (by simpa using hmay), if_pos h7]
            simp
          rw [e1] at h
          rw [e2, hd]
          by_cases hsb : shutB b
          · rw [if_pos hsb, runC_bad] at h
            cases h
          · rw [if_neg hsb] at h ⊢
            by_cases hr : r = []
            · rw [if_pos hr] at h
              have hl0 := runC_done h
              subst hl0 hr
              have : ¬ (16 : Int) ≤ (deepR (((([b] : List Bx).length : Nat) : Int) - 1, most) []).2 := by simp [deepR]; omega
              rw [if_neg this]
              rfl
            · rw [if_neg hr] at h
              have hl' : ((r.length : Nat) : Int) ≤ 15 := by simp at hl; omega
              have ih := goes_in B hB l r most hr hm hl' h
              have e3 : (((b :: r).length : Nat) : Int) - 1 = (r.length : Int) := by simp
              rw [e3]
              exact ih
      · by_cases hk : keyB s = true ∧ e.k ≠ 3
        · have e1 : stepC (.live s) e = .bad 8 := by
            simp only [stepC]
            rw [if_neg (by simpa using hmay), if_neg h7, if_pos hk]
          rw [e1, runC_bad] at h
          cases h
        · by_cases h56 : e.k = 5 ∨ e.k = 6
          · have hd : deepS ((s.length : Int), most) e = ((s.length : Int) + 1, max most ((s.length : Int) + 1)) := by
              unfold deepS
              rw [if_pos h56]
            have e1 : stepC (.live s) e = .live (⟨decide (e.k = 6), e.c, 0⟩ :: incB s) := by
              simp only [stepC]
              rw [if_neg (by simpa using hmay), if_neg h7, if_neg hk, if_pos h56, if_neg (by omega)]
            have e2 : stepC (.live (onB B s)) e = if 15 ≤ s.length then .bad 4 else .live (onB B (⟨decide (e.k = 6), e.c, 0⟩ :: incB s)) := by
              simp only [stepC, hkey, hlen, hinc]
              rw [if_neg (by simpa using hmay), if_neg h7, if_neg hk, if_pos h56]
              by_cases h15 : 15 ≤ s.length
              · rw [if_pos h15, if_pos (by omega)]
              · rw [if_neg h15, if_neg (by omega)]
                rfl
            rw [e1] at h
            rw [e2, hd]
            by_cases h15 : 15 ≤ s.length
            · rw [if_pos h15, runC_bad]
              have := deepR_le l ((s.length : Int) + 1, max most ((s.length : Int) + 1))
              simp only [] at this
              rw [if_pos (by omega)]
            · rw [if_neg h15]
              have ih := goes_in B hB l (⟨decide (e.k = 6), e.c, 0⟩ :: incB s) (max most ((s.length : Int) + 1)) (by simp) (by omega) (by rw [List.length_cons, hincl]; omega) h
              rw [List.length_cons, hincl] at ih
              exact ih
          · have hd : deepS ((s.length : Int), most) e = ((s.length : Int), most) := by
              unfold deepS
              rw [if_neg h56, if_neg h7]
            have e1 : stepC (.live s) e = .live (incB s) := by
              simp only [stepC]
              rw [if_neg (by simpa using hmay), if_neg h7, if_neg hk, if_neg h56, if_neg hs]
            have e2 : stepC (.live (onB B s)) e = .live (onB B (incB s)) := by
              simp only [stepC, hkey, hinc]
              rw [if_neg (by simpa using hmay), if_neg h7, if_neg hk, if_neg h56, if_neg hne]
            rw [e1] at h
            rw [e2, hd]
            have ih := goes_in B hB l (incB s) most hincn hm (by rw [hincl]; exact hl) h
            rw [hincl] at ih
            exact ih
    · have e1 : stepC (.live s) e = .bad 2 := by
        simp only [stepC]
        rw [if_pos (by simpa using hmay)]
      rw [e1, runC_bad] at h
      cases h
/-- A document, whole, within an array that has nothing else so far. -/
theorem run_whole (c : Int) (l : List Ev) (h : runC (.live []) l = .done) : runC (.live [⟨false, c, 0⟩]) l = if 16 ≤ (deepR (0, 0) l).2 then .bad 4 else .live [⟨false, c, 1⟩] := by
  cases l with
  | nil => simp [runC] at h
  | cons e l =>
    rw [runC_cons] at h ⊢
    rw [deepR_cons]
    by_cases hmay : mayE e
    · by_cases h7 : e.k = 7
      · have e1 : stepC (.live []) e = .bad 2 := by
          simp only [stepC]
          rw [if_neg (by simpa using hmay), if_pos h7]
        rw [e1, runC_bad] at h
        cases h
      · by_cases h56 : e.k = 5 ∨ e.k = 6
        · have hd : deepS (0, 0) e = (1, 1) := by
            unfold deepS
            rw [if_pos h56]
            rfl
          have e1 : stepC (.live []) e = .live [⟨decide (e.k = 6), e.c, 0⟩] := by
            simp only [stepC]
            rw [if_neg (by simpa using hmay), if_neg h7, if_neg (by simp [keyB]), if_pos h56]
            rfl
          have e2 : stepC (.live [⟨false, c, 0⟩]) e = .live (onB ⟨false, c, 1⟩ [⟨decide (e.k = 6), e.c, 0⟩]) := by
            simp only [stepC]
            rw [if_neg (by simpa using hmay), if_neg h7, if_neg (by simp [keyB]), if_pos h56]
            rfl
          rw [e1] at h
          rw [e2, hd]
          exact goes_in ⟨false, c, 1⟩ rfl l [⟨decide (e.k = 6), e.c, 0⟩] 1 (by simp) (by omega) (by simp) h
        · have hd : deepS (0, 0) e = (0, 0) := by
            unfold deepS
            rw [if_neg h56, if_neg h7]
          have e1 : stepC (.live []) e = .done := by
            simp only [stepC]
            rw [if_neg (by simpa using hmay), if_neg h7, if_neg (by simp [keyB]), if_neg h56]
            rfl
          have e2 : stepC (.live [⟨false, c, 0⟩]) e = .live [⟨false, c, 1⟩] := by
            simp only [stepC]
            rw [if_neg (by simpa using hmay), if_neg h7, if_neg (by simp [keyB]), if_neg h56]
            rfl
          rw [e1] at h
          have hl0 := runC_done h
          subst hl0
          rw [e2, hd]
          rfl
    · have e1 : stepC (.live []) e = .bad 2 := by
        simp only [stepC]
        rw [if_pos (by simpa using hmay)]
      rw [e1, runC_bad] at h
      cases h
/-- A document in an array of a count. -/
theorem check_wrap (c : Int) (a z : Ev) (ha : a.k = 5) (hc : a.c = c) (hz : z.k = 7) (l : List Ev) (h : checkE l = 0) :
    checkE (a :: (l ++ [z])) = if c < -1 then 2 else if 16 ≤ (deepR (0, 0) l).2 then 4 else if c ≠ 1 ∧ c ≠ -1 then 2 else 0 := by
  have h1 := check_zero h
  unfold checkE
  rw [runC_cons, runC_append]
  have hmz : mayE z := ⟨by omega, by omega, fun h => by omega⟩
  by_cases hc1 : c < -1
  · have e1 : stepC (.live []) a = .bad 2 := by
      simp only [stepC]
      rw [if_pos]
      intro hm
      have := hm.2.2 (.inl ha)
      omega
    rw [e1, runC_bad, runC_bad, if_pos hc1]
    rfl
  · have hma : mayE a := ⟨by omega, by omega, fun _ => by omega⟩
    have e1 : stepC (.live []) a = .live [⟨false, c, 0⟩] := by
      simp only [stepC]
      rw [if_neg (by simpa using hma), if_neg (by omega), if_neg (by simp [keyB]), if_pos (.inl ha), hc]
      simp [incB, ha]
    rw [e1, run_whole c l h1, if_neg hc1]
    by_cases hd : 16 ≤ (deepR (0, 0) l).2
    · rw [if_pos hd, if_pos hd, runC_bad]
      rfl
    · rw [if_neg hd, if_neg hd, runC_cons]
      have e2 : stepC (.live [⟨false, c, 1⟩]) z = if shutB ⟨false, c, 1⟩ then .bad 2 else .done := by
        simp only [stepC]
        rw [if_neg (by simpa using hmz), if_pos hz]
        simp
      rw [e2]
      by_cases hcc : c ≠ 1 ∧ c ≠ -1
      · rw [if_pos hcc, if_pos]
        · rfl
        · left
          simp only [Bool.false_eq_true, if_false]
          omega
      · rw [if_neg hcc, if_neg]
        · rfl
        · intro hs
          rcases hs with hs | hs
          · simp only [Bool.false_eq_true, if_false] at hs
            omega
          · cases hs.1
def evNull : Ev := ⟨0, false, 0, ⟨#[]⟩, 0⟩
def evEnd : Ev := ⟨7, false, 0, ⟨#[]⟩, 0⟩
/-- So many containers in one another. -/
def deepL (n : Nat) (maps : Bool) : List Ev :=
  (List.replicate n (if maps then [⟨6, false, 0, ⟨#[]⟩, 1⟩, ⟨3, false, 0, ⟨#[97]⟩, 0⟩] else [⟨5, false, 0, ⟨#[]⟩, -1⟩])).flatten ++ [evNull] ++ List.replicate n evEnd
theorem check_deep : ∀ n : Fin 31, ∀ maps : Bool, 1 ≤ n.val → checkE (deepL n.val maps) = if 16 < n.val then 4 else 0 := by decide +kernel
end Go.Proofs.Ytonjdnahplphhaa
/-
  GENERAL, NO PROGRAM NEEDED: UTF-8 AS STATES: which byte may follow, beside the shelf's 'validD' (no step of the model's decoder fails), the model's encoder, its decoder.
-/
namespace Go.Proofs.Ytonjdnahplphhaa
open Go.Lib
/-- none: a byte could not follow; (n, lo, hi): n bytes lack, the next of them between lo and hi. -/
def openS (b : Nat) : Option (Nat × Nat × Nat) :=
  if b < 128 then some (0, 0, 0) else if 194 ≤ b ∧ b ≤ 223 then some (1, 128, 191) else if b = 224 then some (2, 160, 191) else if b = 237 then some (2, 128, 159)
  else if 225 ≤ b ∧ b ≤ 239 then some (2, 128, 191) else if b = 240 then some (3, 144, 191) else if 241 ≤ b ∧ b ≤ 243 then some (3, 128, 191) else if b = 244 then some (3, 128, 143) else none
def st0 : Option (Nat × Nat × Nat) := some (0, 0, 0)
def stepS : Option (Nat × Nat × Nat) → UInt8 → Option (Nat × Nat × Nat)
  | none, _ => none
  | some (0, _, _), b => openS b.toNat
  | some (n + 1, lo, hi), b => if b.toNat < lo ∨ hi < b.toNat then none else if n = 0 then some (0, 0, 0) else some (n, 128, 191)
def runS (s : Option (Nat × Nat × Nat)) (l : List UInt8) : Option (Nat × Nat × Nat) := l.foldl stepS s
def wholeS : Option (Nat × Nat × Nat) → Bool
  | some (0, _, _) => true
  | _ => false
theorem runS_nil (s : Option (Nat × Nat × Nat)) : runS s [] = s := rfl
theorem runS_cons (s : Option (Nat × Nat × Nat)) (b : UInt8) (t : List UInt8) : runS s (b :: t) = runS (stepS s b) t := rfl
theorem runS_append (s : Option (Nat × Nat × Nat)) (a b : List UInt8) : runS s (a ++ b) = runS (runS s a) b := by simp [runS]
theorem runS_none (l : List UInt8) : runS none l = none := by
  induction l with
  | nil => rfl
  | cons b t ih => rw [runS_cons]; exact ih
theorem runS_snoc (s : Option (Nat × Nat × Nat)) (l : List UInt8) (i : Nat) (h : i < l.length) : runS s (l.take (i + 1)) = stepS (runS s (l.take i)) l[i] := by
  rw [List.take_add_one, List.getElem?_eq_getElem h, runS_append]
  rfl
def leadOk (b : Nat) : Bool := match openS b with
    | none => decide (firstT b % 8 = 1)
    | some (n, lo, hi) => decide (firstT b % 8 = n + 1 ∧ accLo (firstT b / 16) = lo ∧ accHi (firstT b / 16) = hi ∧ 1 ≤ n ∧ n ≤ 3)
set_option maxRecDepth 100000 in
theorem lead_ok : ∀ b : Fin 256, 128 ≤ b.val → leadOk b.val = true := by decide +kernel
theorem lead_none {b : Nat} (h0 : 128 ≤ b) (h1 : b < 256) (h : openS b = none) : firstT b % 8 = 1 := by
  have := lead_ok ⟨b, h1⟩ h0
  simpa [leadOk, h] using this
theorem lead_some {b n lo hi : Nat} (h0 : 128 ≤ b) (h1 : b < 256) (h : openS b = some (n, lo, hi)) : firstT b % 8 = n + 1 ∧ accLo (firstT b / 16) = lo ∧ accHi (firstT b / 16) = hi ∧ 1 ≤ n ∧ n ≤ 3 := by
  have := lead_ok ⟨b, h1⟩ h0
  simpa [leadOk, h] using this
theorem check2 (n b1 b2 b3 lo hi : Nat) : checkN n b1 b2 b3 2 lo hi = if n < 2 ∨ b1 < lo ∨ hi < b1 then none else some 2 := by simp [checkN]
theorem check3 (n b1 b2 b3 lo hi : Nat) : checkN n b1 b2 b3 3 lo hi = if n < 3 ∨ b1 < lo ∨ hi < b1 ∨ b2 < 128 ∨ 191 < b2 then none else some 3 := by simp [checkN]
theorem check4 (n b1 b2 b3 lo hi : Nat) : checkN n b1 b2 b3 4 lo hi = if n < 4 ∨ b1 < lo ∨ hi < b1 ∨ b2 < 128 ∨ 191 < b2 ∨ b3 < 128 ∨ 191 < b3 then none else some 4 := by simp [checkN]
theorem openS_pos (b n lo hi : Nat) (h : openS b = some (n, lo, hi)) (hb : 128 ≤ b) : (n = 1 ∨ n = 2 ∨ n = 3) ∧ 128 ≤ lo ∧ lo ≤ hi ∧ hi ≤ 191 := by
  unfold openS at h
  rw [if_neg (by omega)] at h
  repeat' split at h
  all_goals first | (simp only [Option.some.injEq, Prod.mk.injEq] at h; omega) | (cases h)
/-- THE STATES TELL WHAT 'validD' TELLS. -/
theorem valid_run (l : List UInt8) : validD l = wholeS (runS st0 l) := by
  generalize hn : l.length = m
  induction m using Nat.strongRecOn generalizing l with
  | ind m ih =>
    match l with
    | [] => rfl
    | b0 :: t =>
      have hlt := b0.toNat_lt
      by_cases hb : b0.toNat < 128
      · rw [validD_cons _ _ hb, runS_cons]
        have : stepS st0 b0 = st0 := by simp [stepS, st0, openS, hb]
        rw [this]
        exact ih t.length (by simp at hn; omega) t rfl
      · rw [validD_lead _ (by simp) (by simpa using hb), runS_cons]
        have hs : stepS st0 b0 = openS b0.toNat := rfl
        rw [hs]
        simp only [List.getD_cons_zero, List.length_cons]
        cases ho : openS b0.toNat with
        | none =>
          rw [lead_none (by omega) hlt ho, runS_none]
          simp [checkN, wholeS]
        | some p =>
          obtain ⟨n, lo, hi⟩ := p
          obtain ⟨h1, h2, h3, h4, h5⟩ := lead_some (by omega) hlt ho
          rw [h1, h2, h3]
          rcases (show n = 1 ∨ n = 2 ∨ n = 3 by omega) with rfl | rfl | rfl
          · rw [check2]
            match t with
            | [] => rw [if_pos (by simp)]; rfl
            | c1 :: t' =>
              have := ih t'.length (by simp at hn; omega) t' rfl
              simp only [runS_cons, stepS, List.getD_cons_succ, List.getD_cons_zero, List.length_cons]
              by_cases q1 : c1.toNat < lo ∨ hi < c1.toNat
              · rw [if_pos (by omega), if_pos q1, runS_none]; rfl
              · rw [if_neg (by omega), if_neg q1]; exact this
          · rw [check3]
            match t with
            | [] => rw [if_pos (by simp)]; rfl
            | [c1] => rw [if_pos (by simp)]; by_cases q1 : c1.toNat < lo ∨ hi < c1.toNat <;> simp [wholeS, runS, stepS, q1]
            | c1 :: c2 :: t' =>
              have := ih t'.length (by simp at hn; omega) t' rfl
              simp only [runS_cons, stepS, List.getD_cons_succ, List.getD_cons_zero, List.length_cons]
              by_cases q1 : c1.toNat < lo ∨ hi < c1.toNat
              · rw [if_pos (by omega), if_pos q1]; simp only []; rw [runS_none]; rfl
              · rw [if_neg q1, if_neg (show ¬ (1 = 0) by decide)]
                simp only []
                by_cases q2 : c2.toNat < 128 ∨ 191 < c2.toNat
                · rw [if_pos (by omega), if_pos q2, runS_none]; rfl
                · rw [if_neg (by omega), if_neg q2]; exact this
          · rw [check4]
            match t with
            | [] => rw [if_pos (by simp)]; rfl
            | [c1] => rw [if_pos (by simp)]; by_cases q1 : c1.toNat < lo ∨ hi < c1.toNat <;> simp [wholeS, runS, stepS, q1]
            | [c1, c2] => rw [if_pos (by simp)]; by_cases q1 : c1.toNat < lo ∨ hi < c1.toNat <;> by_cases q2 : c2.toNat < 128 ∨ 191 < c2.toNat <;> simp [wholeS, runS, stepS, q1, q2]
            | c1 :: c2 :: c3 :: t' =>
              have := ih t'.length (by simp at hn; omega) t' rfl
              simp only [runS_cons, stepS, List.getD_cons_succ, List.getD_cons_zero, List.length_cons]
              by_cases q1 : c1.toNat < lo ∨ hi < c1.toNat
              · rw [if_pos (by omega), if_pos q1]; simp only []; rw [runS_none]; rfl
              · rw [if_neg q1, if_neg (show ¬ (2 = 0) by decide)]
                simp only []
                by_cases q2 : c2.toNat < 128 ∨ 191 < c2.toNat
                · rw [if_pos (by omega), if_pos q2]; simp only []; rw [runS_none]; rfl
                · rw [if_neg q2, if_neg (show ¬ (1 = 0) by decide)]
                  simp only []
                  by_cases q3 : c3.toNat < 128 ∨ 191 < c3.toNat
                  · rw [if_pos (by omega), if_pos q3, runS_none]; rfl
                  · rw [if_neg (by omega), if_neg q3]; exact this
/-- How many bytes may be, from the front. -/
def goodN : Option (Nat × Nat × Nat) → List UInt8 → Nat
  | _, [] => 0
  | s, b :: t => match stepS s b with
    | none => 0
    | some p => goodN (some p) t + 1
theorem goodN_le (s : Option (Nat × Nat × Nat)) (l : List UInt8) : goodN s l ≤ l.length := by
  induction l generalizing s with
  | nil => simp [goodN]
  | cons b t ih =>
    unfold goodN
    cases h : stepS s b with
    | none => simp
    | some p => simpa using ih (some p)
theorem good_iff (s : Option (Nat × Nat × Nat)) (l : List UInt8) (i : Nat) (hi : i < l.length) : i < goodN s l ↔ runS s (l.take (i + 1)) ≠ none := by
  induction l generalizing s i with
  | nil => simp at hi
  | cons b t ih =>
    unfold goodN
    rw [List.take_succ_cons, runS_cons]
    cases h : stepS s b with
    | none => simp [runS_none]
    | some p =>
      cases i with
      | zero => simp [runS_nil]
      | succ i =>
        have := ih (some p) i (by simpa using hi)
        simp only [Nat.add_lt_add_iff_right]
        exact this
theorem good_all (s : Option (Nat × Nat × Nat)) (l : List UInt8) (h : runS s l ≠ none) : goodN s l = l.length := by
  by_cases h0 : l = []
  · subst h0; rfl
  · have hl : 0 < l.length := List.length_pos_iff.2 h0
    have := (good_iff s l (l.length - 1) (by omega)).2 (by rw [List.take_of_length_le (by omega)]; exact h)
    have := goodN_le s l
    omega
theorem good_at (s : Option (Nat × Nat × Nat)) (l : List UInt8) (i : Nat) (hi : i < l.length) (h : runS s (l.take i) ≠ none) (hb : stepS (runS s (l.take i)) l[i] = none) : goodN s l = i := by
  have h1 : ¬ i < goodN s l := by
    rw [good_iff s l i hi, runS_snoc s l i hi, hb]
    simp
  by_cases h0 : i = 0
  · omega
  · have h2 := (good_iff s l (i - 1) (by omega)).2 (by rw [show i - 1 + 1 = i by omega]; exact h)
    omega
theorem good_none (l : List UInt8) (h : runS st0 l = none) : goodN st0 l < l.length := by
  have := goodN_le st0 l
  by_cases he : goodN st0 l = l.length
  · by_cases h0 : l = []
    · subst h0; simp [runS, st0] at h
    · have hl : 0 < l.length := List.length_pos_iff.2 h0
      have := (good_iff st0 l (l.length - 1) (by omega)).1 (by omega)
      rw [List.take_of_length_le (by omega)] at this
      exact absurd h this
  · omega
end Go.Proofs.Ytonjdnahplphhaa
/-
  NO PROGRAM NEEDED: CBOR read as parts, as a machine over bytes (on the machines of HeadPure and UtfPure); parts written as CBOR; what is written so is read as it was; what is read is one document, or the beginning of one.
-/
namespace Go.Proofs.Ytonjdnahplphhaa
open Go.Lib
/-- A reader of CBOR: behind an error; between items (the open containers; at the end); within an item's head; within a text, or bytes, of a known length; between the chunks of an open one; within a chunk's head; within a chunk. -/
inductive Ci
  | bad (e : Nat)
  | item (s : List Bx) (dn : Bool)
  | head (s : List Bx) (h : Hd)
  | text (s : List Bx) (m : Bool) (n : Nat) (t : List UInt8) (u : Option (Nat × Nat × Nat))
  | open_ (s : List Bx) (m : Bool) (t : List UInt8)
  | chead (s : List Bx) (m : Bool) (t : List UInt8) (h : Hd)
  | ctext (s : List Bx) (m : Bool) (t : List UInt8) (n : Nat) (u : Option (Nat × Nat × Nat))
/-- All that was to come is there. -/
def fullB (b : Bx) : Bool := decide (0 ≤ b.c ∧ (b.have_ : Int) = if b.map = true then 2 * b.c else b.c)
def restC : List Bx → List Bx
  | [] => []
  | b :: r => if fullB b = true then restC r else b :: r
def numC : List Bx → Nat
  | [] => 0
  | b :: r => if fullB b = true then numC r + 1 else 0
def endsC (s : List Bx) : List Ev := List.replicate (numC s) evEnd
def atC (s : List Bx) : Ci := .item (restC s) (restC s).isEmpty
/-- An item that is no container. -/
def putC (s : List Bx) (e : Ev) : Ci × List Ev := (atC (incB s), e :: endsC (incB s))
def evBegC (m : Bool) (c : Int) : Ev := ⟨if m = true then 6 else 5, false, 0, ⟨#[]⟩, c⟩
def beginC (s : List Bx) (m : Bool) (c : Int) : Ci × List Ev := (atC (⟨m, c, 0⟩ :: incB s), evBegC m c :: endsC (⟨m, c, 0⟩ :: incB s))
def evTxC (m : Bool) (t : List UInt8) : Ev := ⟨if m = true then 3 else 4, false, 0, ⟨t.toArray⟩, 0⟩
def evIntC (m : Bool) (v : Nat) : Ev := ⟨2, m, v, ⟨#[]⟩, 0⟩
def evBoolC (y : Bool) : Ev := ⟨1, y, 0, ⟨#[]⟩, 0⟩
/-- Behind a byte of an item's head. -/
def headC (s : List Bx) : Hd → Ci × List Ev
  | .bad e => (.bad e, [])
  | .fin m v o =>
    if m < 2 then putC s (evIntC (decide (m = 1)) v)
    else if m < 4 then (if o = true then (.open_ s (decide (m = 3)) [], []) else if 200 < v then (.bad 5, []) else if v = 0 then putC s (evTxC (decide (m = 3)) []) else (.text s (decide (m = 3)) v [] st0, []))
    else if o = true then beginC s (decide (m = 5)) (-1) else if 1000000 < v then (.bad 7, []) else beginC s (decide (m = 5)) v
  | h => (.head s h, [])
/-- An item's first byte. -/
def firstC (D : Nat) (s : List Bx) (dn : Bool) (b : Nat) : Ci × List Ev :=
  if dn = true ∨ (28 ≤ b % 32 ∧ b % 32 ≤ 30) ∨ (b % 32 = 31 ∧ (b / 32 = 0 ∨ b / 32 = 1 ∨ b / 32 = 6)) then (.bad 2, [])
  else if b = 255 then
    match s with
    | [] => (.bad 2, [])
    | x :: r => if 0 ≤ x.c ∨ (x.map = true ∧ x.have_ % 2 = 1) then (.bad 2, []) else (atC r, evEnd :: endsC r)
  else if keyB s = true ∧ b / 32 ≠ 3 then (.bad 8, [])
  else if b / 32 = 6 then (.bad 8, [])
  else if b / 32 = 7 then (if b % 32 = 22 then putC s evNull else if b % 32 = 20 ∨ b % 32 = 21 then putC s (evBoolC (decide (b % 32 = 21))) else if 25 ≤ b % 32 ∧ b % 32 ≤ 27 then (.bad 6, []) else (.bad 8, []))
  else if (b / 32 = 4 ∨ b / 32 = 5) ∧ D ≤ s.length then (.bad 4, [])
  else headC s (stepH .new b)
/-- Behind a byte of a chunk's head. -/
def chunkC (s : List Bx) (m : Bool) (t : List UInt8) : Hd → Ci × List Ev
  | .bad e => (.bad e, [])
  | .fin _ v _ => if 200 < v + t.length then (.bad 5, []) else if v = 0 then (.open_ s m t, []) else (.ctext s m t v st0, [])
  | h => (.chead s m t h, [])
/-- A byte of a text, or of bytes: none, if it may not follow. -/
def nextU (m : Bool) (u : Option (Nat × Nat × Nat)) (b : UInt8) : Option (Nat × Nat × Nat) := if m = true then stepS u b else u
def stepCi (D : Nat) : Ci → UInt8 → Ci × List Ev
  | .bad e, _ => (.bad e, [])
  | .item s dn, b => firstC D s dn b.toNat
  | .head s h, b => headC s (stepH h b.toNat)
  | .text s m n t u, b =>
    if m = true ∧ nextU m u b = none then (.bad 9, [])
    else if n = 1 then (if m = true ∧ wholeS (nextU m u b) = false then (.bad 9, []) else putC s (evTxC m (t ++ [b]))) else (.text s m (n - 1) (t ++ [b]) (nextU m u b), [])
  | .open_ s m t, b => if b.toNat = 255 then putC s (evTxC m t) else if b.toNat / 32 ≠ (if m = true then 3 else 2) ∨ 28 ≤ b.toNat % 32 then (.bad 2, []) else chunkC s m t (stepH .new b.toNat)
  | .chead s m t h, b => chunkC s m t (stepH h b.toNat)
  | .ctext s m t n u, b =>
    if m = true ∧ nextU m u b = none then (.bad 9, [])
    else if n = 1 then (if m = true ∧ wholeS (nextU m u b) = false then (.bad 9, []) else (.open_ s m (t ++ [b]), [])) else (.ctext s m (t ++ [b]) (n - 1) (nextU m u b), [])
def runCi (D : Nat) : Ci → List UInt8 → Ci × List Ev
  | s, [] => (s, [])
  | s, b :: t => ((runCi D (stepCi D s b).1 t).1, (stepCi D s b).2 ++ (runCi D (stepCi D s b).1 t).2)
/-- At the end of all. -/
def endCi : Ci → Nat
  | .bad e => e
  | .item _ true => 0
  | _ => 3
def ci0 : Ci := .item [] false
def allCi (D : Nat) (b : List UInt8) : List Ev × Nat := ((runCi D ci0 b).2, endCi (runCi D ci0 b).1)
/-- What is held. -/
def heldCi : Ci → Nat
  | .bad _ => 0
  | .item s _ => s.length
  | .head s _ => s.length
  | .text s _ _ t _ => t.length + s.length
  | .open_ s _ t => t.length + s.length
  | .chead s _ t _ => t.length + s.length
  | .ctext s _ t _ _ => t.length + s.length
theorem runCi_append (D : Nat) (s : Ci) (a b : List UInt8) : runCi D s (a ++ b) = ((runCi D (runCi D s a).1 b).1, (runCi D s a).2 ++ (runCi D (runCi D s a).1 b).2) := by
  induction a generalizing s with
  | nil => simp [runCi]
  | cons x t ih => simp only [List.cons_append, runCi, ih, List.append_assoc]
theorem runCi_bad (D e : Nat) (l : List UInt8) : runCi D (.bad e) l = (.bad e, []) := by
  induction l with
  | nil => rfl
  | cons b t ih => simp only [runCi, stepCi, ih, List.append_nil]
theorem runCi_snoc (D : Nat) (s : Ci) (l : List UInt8) (i : Nat) (h : i < l.length) : runCi D s (l.take (i + 1)) = ((stepCi D (runCi D s (l.take i)).1 l[i]).1, (runCi D s (l.take i)).2 ++ (stepCi D (runCi D s (l.take i)).1 l[i]).2) := by
  rw [List.take_add_one, List.getElem?_eq_getElem h, runCi_append]
  simp [runCi]
/-! ### Containers that are at their end -/
theorem full_shut {b : Bx} (h : fullB b = true) : ¬ shutB b := by
  unfold fullB at h
  rw [decide_eq_true_eq] at h
  rintro (⟨_, h2⟩ | ⟨h1, h2⟩)
  · exact h2 h.2
  · have := h.2
    rw [if_pos h1] at this
    omega
theorem shut_full {b : Bx} (h : ¬ shutB b) (hc : 0 ≤ b.c) : fullB b = true := by
  unfold fullB
  rw [decide_eq_true_eq]
  refine ⟨hc, ?_⟩
  by_cases h2 : (b.have_ : Int) = if b.map = true then 2 * b.c else b.c
  · exact h2
  · exact absurd (.inl ⟨hc, h2⟩) h
/-- Behind an item. -/
def ckS (s : List Bx) : Ck := if s = [] then .done else .live s
theorem end_step {b : Bx} {r : List Bx} (h : ¬ shutB b) : stepC (.live (b :: r)) evEnd = ckS r := by
  have hm : mayE evEnd := by decide
  simp only [stepC]
  rw [if_neg (by simpa using hm), if_pos (by rfl), if_neg h]
  rfl
theorem ends_run : ∀ s : List Bx, runC (ckS s) (endsC s) = ckS (restC s)
  | [] => rfl
  | b :: r => by
    unfold endsC
    simp only [numC, restC]
    by_cases h : fullB b = true
    · rw [if_pos h, if_pos h, List.replicate_succ, runC_cons]
      have : ckS (b :: r) = .live (b :: r) := if_neg (by simp)
      rw [this, end_step (full_shut h)]
      exact ends_run r
    · rw [if_neg h, if_neg h]
      rfl
theorem rest_stop : ∀ s : List Bx, (∀ b r, restC s = b :: r → fullB b = false) ∧ restC (restC s) = restC s
  | [] => ⟨(fun b r h => by cases h), rfl⟩
  | b :: r => by
    simp only [restC]
    by_cases h : fullB b = true
    · rw [if_pos h]
      exact rest_stop r
    · rw [if_neg h]
      refine ⟨fun x q hx => ?_, (by simp only [restC]; rw [if_neg h])⟩
      simp only [List.cons.injEq] at hx
      rw [← hx.1]
      simpa using h
theorem rest_len : ∀ s : List Bx, (restC s).length ≤ s.length
  | [] => Nat.le_refl _
  | b :: r => by
    simp only [restC]
    split
    · have := rest_len r; simp only [List.length_cons]; omega
    · exact Nat.le_refl _
/-! ### What is read is one document, or the beginning of one -/
/-- Of the parts so far, by where the reader stands. -/
def InvC (c : Ck) : Ci → Prop
  | .bad e => ((∃ s, c = .live s) ∨ c = .done) ∧ e ≠ 0
  | .item s dn => if dn = true then c = .done ∧ s = [] else c = .live s
  | .head s h => c = .live s ∧ (keyB s = true → majH h = 3) ∧ (4 ≤ majH h → s.length < 16) ∧ majH h < 6 ∧ ∃ m n v, h = .mid m n v
  | .text s m _ _ _ => c = .live s ∧ (keyB s = true → m = true)
  | .open_ s m _ => c = .live s ∧ (keyB s = true → m = true)
  | .chead s m _ _ => c = .live s ∧ (keyB s = true → m = true)
  | .ctext s m _ _ _ => c = .live s ∧ (keyB s = true → m = true)
def GoesC (c : Ck) (r : Ci × List Ev) : Prop := InvC (runC c r.2) r.1
theorem inv_at (s : List Bx) : InvC (ckS (restC s)) (atC s) := by
  unfold atC ckS
  cases h : restC s with
  | nil => exact ⟨by simp, rfl⟩
  | cons b r => rw [if_neg (by simp)]; simp [InvC]
theorem goes_put {s : List Bx} {e : Ev} (hk : keyB s = true → e.k = 3) (he : e.k = 0 ∨ e.k = 1 ∨ e.k = 2 ∨ e.k = 3 ∨ e.k = 4) : GoesC (.live s) (putC s e) := by
  have hs : stepC (.live s) e = ckS (incB s) := by
    have hm : mayE e := ⟨by omega, by omega, fun h => by omega⟩
    simp only [stepC]
    rw [if_neg (by simpa using hm), if_neg (by omega), if_neg (fun h => h.2 (hk h.1)), if_neg (by omega)]
    unfold ckS
    cases s <;> rfl
  unfold GoesC putC
  simp only
  rw [runC_cons, hs, ends_run]
  exact inv_at _
theorem goes_begin_c {s : List Bx} {m : Bool} {c : Int} (hk : keyB s = false) (hc : -1 ≤ c) (hd : s.length < 16) : GoesC (.live s) (beginC s m c) := by
  have hs : stepC (.live s) (evBegC m c) = ckS (⟨m, c, 0⟩ :: incB s) := by
    have hm : mayE (evBegC m c) := by cases m <;> exact ⟨by simp [evBegC], by simp [evBegC], fun _ => hc⟩
    have hk5 : (evBegC m c).k = 5 ∨ (evBegC m c).k = 6 := by cases m <;> simp [evBegC]
    simp only [stepC]
    rw [if_neg (by simpa using hm), if_neg (by omega), if_neg (by simp [hk]), if_pos hk5, if_neg (by omega)]
    unfold ckS
    rw [if_neg (by simp)]
    cases m <;> rfl
  unfold GoesC beginC
  simp only
  rw [runC_cons, hs, ends_run]
  exact inv_at _
theorem goes_bad {s : List Bx} (e : Nat) (he : e ≠ 0) : GoesC (.live s) (.bad e, []) := ⟨.inl ⟨s, rfl⟩, he⟩
theorem goes_head {s : List Bx} {h : Hd} (hk : keyB s = true → majH h = 3) (hd : 4 ≤ majH h → s.length < 16) (hm : majH h < 6) (hn : h ≠ .new) (he : ∀ e, h = .bad e → e ≠ 0) : GoesC (.live s) (headC s h) := by
  cases h with
  | bad e => exact goes_bad e (he e rfl)
  | new => exact absurd rfl hn
  | mid m n v => exact ⟨rfl, hk, hd, hm, m, n, v, rfl⟩
  | fin m v o =>
    simp only [majH] at hk hd hm
    simp only [headC]
    split
    · exact goes_put (fun h => by have := hk h; omega) (.inr (.inr (.inl rfl)))
    split
    · have hk3 : keyB s = true → decide (m = 3) = true := fun h => by simpa using hk h
      split
      · exact ⟨rfl, hk3⟩
      split
      · exact goes_bad 5 (by decide)
      split
      · refine goes_put (fun h => by simp [evTxC, hk h]) ?_
        by_cases h3 : m = 3 <;> simp [evTxC, h3]
      · exact ⟨rfl, hk3⟩
    · have hkf : keyB s = false := by
        cases hq : keyB s with
        | false => rfl
        | true => have := hk hq; omega
      split
      · exact goes_begin_c hkf (by omega) (hd (by omega))
      split
      · exact goes_bad 7 (by decide)
      · exact goes_begin_c hkf (by omega) (hd (by omega))
theorem stepH_err {h : Hd} {b e : Nat} (hh : ∀ f, h = .bad f → f ≠ 0) (he : stepH h b = .bad e) : e ≠ 0 := by
  cases h with
  | bad f => simp only [stepH, Hd.bad.injEq] at he; subst he; exact hh _ rfl
  | fin m v o => simp only [stepH, Hd.bad.injEq] at he; omega
  | new =>
    simp only [stepH] at he
    repeat' split at he
    all_goals first | (simp only [Hd.bad.injEq] at he; omega) | cases he
  | mid m n v =>
    simp only [stepH] at he
    split at he <;> cases he
theorem stepH_new {h : Hd} {b : Nat} (hn : h = .new ∨ ∃ m n v, h = .mid m n v) : stepH h b ≠ .new := by
  rcases hn with rfl | ⟨m, n, v, rfl⟩
  · simp only [stepH]
    repeat' split
    all_goals simp
  · simp only [stepH]
    split <;> simp
theorem maj_new {b : Nat} (h : ¬ (28 ≤ b % 32 ∧ b % 32 ≤ 30)) : majH (stepH .new b) = b / 32 := by
  simp only [stepH]
  repeat' split
  all_goals first | rfl | omega
theorem goes_first (D : Nat) (hD : D ≤ 16) {s : List Bx} (b : Nat) (hb : b < 256) : GoesC (.live s) (firstC D s false b) := by
  unfold firstC
  split
  · exact goes_bad 2 (by decide)
  rename_i hform
  split
  · cases s with
    | nil => exact goes_bad 2 (by decide)
    | cons x r =>
      simp only
      split
      · exact goes_bad 2 (by decide)
      · rename_i hx
        have hns : ¬ shutB x := by
          rintro (⟨h1, _⟩ | ⟨h1, h2⟩)
          · exact hx (.inl h1)
          · exact hx (.inr ⟨h1, h2⟩)
        unfold GoesC
        simp only
        rw [runC_cons, end_step hns, ends_run]
        exact inv_at _
  split
  · exact goes_bad 8 (by decide)
  rename_i hkey
  split
  · exact goes_bad 8 (by decide)
  split
  · rename_i h7
    have hkf : keyB s = true → False := fun h => hkey ⟨h, by omega⟩
    split
    · exact goes_put (fun h => (hkf h).elim) (.inl rfl)
    split
    · exact goes_put (fun h => (hkf h).elim) (.inr (.inl rfl))
    split
    · exact goes_bad 6 (by decide)
    · exact goes_bad 8 (by decide)
  split
  · exact goes_bad 4 (by decide)
  · rename_i h6 h7 hd
    have hmj := maj_new (b := b) (fun h => hform (.inr (.inl h)))
    refine goes_head ?_ ?_ ?_ (stepH_new (.inl rfl)) (fun e he => stepH_err (fun f hf => by cases hf) he)
    · intro hk
      rw [hmj]
      by_cases h3 : b / 32 = 3
      · exact h3
      · exact absurd ⟨hk, h3⟩ hkey
    · intro h4
      rw [hmj] at h4
      by_cases hdd : D ≤ s.length
      · exact absurd ⟨by omega, hdd⟩ hd
      · omega
    · rw [hmj]
      omega
theorem goes_chunk {s : List Bx} {m : Bool} {t : List UInt8} {h : Hd} (hk : keyB s = true → m = true) (he : ∀ e, h = .bad e → e ≠ 0) : GoesC (.live s) (chunkC s m t h) := by
  cases h with
  | bad e => exact goes_bad e (he e rfl)
  | new => exact ⟨rfl, hk⟩
  | mid _ _ _ => exact ⟨rfl, hk⟩
  | fin a v o =>
    simp only [chunkC]
    split
    · exact goes_bad 5 (by decide)
    split
    · exact ⟨rfl, hk⟩
    · exact ⟨rfl, hk⟩
/-- No head stands new, and none is behind an error, where one is read. -/
def MidC : Ci → Prop
  | .chead _ _ _ h => ∃ m n v, h = .mid m n v
  | _ => True
theorem mid_at (s : List Bx) : MidC (atC s) := trivial
theorem mid_head (s : List Bx) (h : Hd) : MidC (headC s h).1 := by
  unfold headC
  repeat' split
  all_goals trivial
theorem mid_first (D : Nat) (s : List Bx) (dn : Bool) (b : Nat) : MidC (firstC D s dn b).1 := by
  unfold firstC
  repeat' split
  all_goals first | trivial | exact mid_head _ _
theorem mid_chunk (s : List Bx) (m : Bool) (t : List UInt8) (h : Hd) (hn : h ≠ .new) : MidC (chunkC s m t h).1 := by
  cases h with
  | new => exact absurd rfl hn
  | bad e => trivial
  | mid a n v => exact ⟨a, n, v, rfl⟩
  | fin a v o =>
    simp only [chunkC]
    repeat' split
    all_goals trivial
theorem mid_step (D : Nat) (s : Ci) (b : UInt8) (h : MidC s) : MidC (stepCi D s b).1 := by
  cases s with
  | bad e => trivial
  | item s dn => exact mid_first D s dn b.toNat
  | head s h => exact mid_head s _
  | text s m n t u =>
    simp only [stepCi]
    repeat' split
    all_goals trivial
  | open_ s m t =>
    by_cases hf : b.toNat = 255
    · simp only [stepCi]
      rw [if_pos hf]
      trivial
    · by_cases hc : b.toNat / 32 ≠ (if m = true then 3 else 2) ∨ 28 ≤ b.toNat % 32
      · simp only [stepCi]
        rw [if_neg hf, if_pos hc]
        trivial
      · simp only [stepCi]
        rw [if_neg hf, if_neg hc]
        exact mid_chunk s m t _ (stepH_new (.inl rfl))
  | chead s m t h' => exact mid_chunk s m t _ (stepH_new (.inr h))
  | ctext s m t n u =>
    simp only [stepCi]
    repeat' split
    all_goals trivial
theorem goes_step (D : Nat) (hD : D ≤ 16) (c : Ck) (s : Ci) (b : UInt8) (h : InvC c s) (hm : MidC s) : GoesC c (stepCi D s b) := by
  have hb := b.toNat_lt
  cases s with
  | bad e => exact h
  | item s dn =>
    cases dn with
    | true =>
      obtain ⟨hc, hs⟩ : c = .done ∧ s = [] := by simpa [InvC] using h
      have : stepCi D (.item s true) b = (.bad 2, []) := by
        simp only [stepCi, firstC]
        simp
      rw [this, hc]
      exact ⟨.inr rfl, by decide⟩
    | false =>
      obtain rfl : c = .live s := by simpa [InvC] using h
      exact goes_first D hD b.toNat hb
  | head s hh =>
    obtain ⟨rfl, h1, h2, h3, m, n, v, rfl⟩ := h
    have hmj : majH (stepH (.mid m n v) b.toNat) = m := by
      simp only [stepH]
      split <;> rfl
    exact goes_head (by rw [hmj]; exact h1) (by rw [hmj]; exact h2) (by rw [hmj]; exact h3) (stepH_new (.inr ⟨m, n, v, rfl⟩)) (fun e he => stepH_err (fun f hf => by cases hf) he)
  | text s m n t u =>
    obtain ⟨rfl, hk⟩ := h
    simp only [stepCi]
    split
    · exact goes_bad 9 (by decide)
    split
    · split
      · exact goes_bad 9 (by decide)
      · refine goes_put (fun h => by simp [evTxC, hk h]) ?_
        cases m <;> simp [evTxC]
    · exact ⟨rfl, hk⟩
  | open_ s m t =>
    obtain ⟨rfl, hk⟩ := h
    by_cases hf : b.toNat = 255
    · simp only [stepCi]
      rw [if_pos hf]
      refine goes_put (fun h => by simp [evTxC, hk h]) ?_
      cases m <;> simp [evTxC]
    · by_cases hc : b.toNat / 32 ≠ (if m = true then 3 else 2) ∨ 28 ≤ b.toNat % 32
      · simp only [stepCi]
        rw [if_neg hf, if_pos hc]
        exact goes_bad 2 (by decide)
      · simp only [stepCi]
        rw [if_neg hf, if_neg hc]
        exact goes_chunk hk (fun e he => stepH_err (fun f hf => by cases hf) he)
  | chead s m t hh =>
    obtain ⟨rfl, hk⟩ := h
    obtain ⟨a, n, v, rfl⟩ := hm
    exact goes_chunk hk (fun e he => stepH_err (fun f hf => by cases hf) he)
  | ctext s m t n u =>
    obtain ⟨rfl, hk⟩ := h
    simp only [stepCi]
    split
    · exact goes_bad 9 (by decide)
    split
    · split
      · exact goes_bad 9 (by decide)
      · exact ⟨rfl, hk⟩
    · exact ⟨rfl, hk⟩
theorem goes_all (D : Nat) (hD : D ≤ 16) : ∀ (l : List UInt8) (c : Ck) (s : Ci), InvC c s → MidC s → InvC (runC c (runCi D s l).2) (runCi D s l).1
  | [], c, s, h, _ => h
  | b :: l, c, s, h, hm => by
    have h1 := goes_step D hD c s b h hm
    have h2 := goes_all D hD l _ _ h1 (mid_step D s b hm)
    simp only [runCi, runC_append]
    exact h2
theorem inv_part {c : Ck} {s : Ci} (h : InvC c s) : (∃ s, c = .live s) ∨ c = .done := by
  cases s with
  | bad e => exact h.1
  | item s dn =>
    cases dn with
    | true => exact .inr (by simpa [InvC] using h : c = .done ∧ s = []).1
    | false => exact .inl ⟨s, by simpa [InvC] using h⟩
  | head s _ => exact .inl ⟨s, h.1⟩
  | text s _ _ _ _ => exact .inl ⟨s, h.1⟩
  | open_ s _ _ => exact .inl ⟨s, h.1⟩
  | chead s _ _ _ => exact .inl ⟨s, h.1⟩
  | ctext s _ _ _ _ => exact .inl ⟨s, h.1⟩
/-- WHAT IS READ WITHOUT AN ERROR IS ONE DOCUMENT; with one, the beginning of one, or one. -/
theorem all_checkC (D : Nat) (hD : D ≤ 16) (b : List UInt8) : ((allCi D b).2 = 0 → checkE (allCi D b).1 = 0) ∧ (checkE (allCi D b).1 = 0 ∨ checkE (allCi D b).1 = 3) := by
  have h := goes_all D hD b (.live []) ci0 (by simp [InvC, ci0]) trivial
  unfold allCi
  generalize runCi D ci0 b = r at h ⊢
  obtain ⟨s, l⟩ := r
  simp only at h ⊢
  refine ⟨fun he => ?_, ?_⟩
  · cases s with
    | bad e => exact absurd he h.2
    | item s dn =>
      cases dn with
      | true =>
        have : runC (.live []) l = .done := (by simpa [InvC] using h : runC (.live []) l = .done ∧ s = []).1
        unfold checkE
        rw [this]
        rfl
      | false => cases he
    | head _ _ => cases he
    | text _ _ _ _ _ => cases he
    | open_ _ _ _ => cases he
    | chead _ _ _ _ => cases he
    | ctext _ _ _ _ _ => cases he
  · unfold checkE
    rcases inv_part h with ⟨s', h⟩ | h
    · rw [h]; exact .inr rfl
    · rw [h]; exact .inl rfl
end Go.Proofs.Ytonjdnahplphhaa
/-
  GENERAL, NO PROGRAM NEEDED: what the model's encoder makes of a rune, beside the states and the decoder.
-/
namespace Go.Proofs.Ytonjdnahplphhaa
open Go.Lib
def bytesL (x : ByteArray) : List UInt8 := x.data.toList
theorem bytesL_of {x : ByteArray} {l : List UInt8} (h : x = ⟨l.toArray⟩) : bytesL x = l := by subst h; rfl
def encL (n : Nat) : List UInt8 := bytesL (Utf8.encode (n : Int))
theorem bytesL_back (x : ByteArray) : (⟨(bytesL x).toArray⟩ : ByteArray) = x := by cases x; simp [bytesL]
theorem enc_list (n : Nat) : (⟨(encL n).toArray⟩ : ByteArray) = Utf8.encode (n : Int) := bytesL_back _
def IsRune (n : Nat) : Prop := n < 55296 ∨ (57343 < n ∧ n ≤ 1114111)
theorem valid_is {n : Nat} (h : IsRune n) : Utf8.valid (n : Int) = true := by
  rw [validRune_eq]
  unfold validRune IsRune at *
  simp only [decide_eq_true_eq]
  omega
theorem toNat_ofNat (x : Nat) (h : x < 256) : (UInt8.ofNat x).toNat = x := by simp; omega
theorem enc_c {n : Nat} (hr : IsRune n) : Utf8.encode (n : Int) = (if n < 128 then ⟨#[UInt8.ofNat n]⟩ else if n < 2048 then ⟨#[UInt8.ofNat (192 + n / 64), UInt8.ofNat (128 + n % 64)]⟩
    else if n < 65536 then ⟨#[UInt8.ofNat (224 + n / 4096), UInt8.ofNat (128 + n / 64 % 64), UInt8.ofNat (128 + n % 64)]⟩
    else ⟨#[UInt8.ofNat (240 + n / 262144), UInt8.ofNat (128 + n / 4096 % 64), UInt8.ofNat (128 + n / 64 % 64), UInt8.ofNat (128 + n % 64)]⟩) := by
  have e : (if Utf8.valid (n : Int) = true then (n : Int).toNat else Utf8.runeError) = n := by rw [if_pos (valid_is hr)]; exact Int.toNat_natCast n
  unfold Utf8.encode
  rw [e]
theorem enc1 {n : Nat} (h : n < 128) : encL n = [UInt8.ofNat n] := by
  have e := enc_c (n := n) (.inl (by omega))
  rw [if_pos h] at e
  exact bytesL_of e
theorem enc2 {n : Nat} (h0 : 128 ≤ n) (h : n < 2048) : encL n = [UInt8.ofNat (192 + n / 64), UInt8.ofNat (128 + n % 64)] := by
  have e := enc_c (n := n) (.inl (by omega))
  rw [if_neg (by omega), if_pos h] at e
  exact bytesL_of e
theorem enc3 {n : Nat} (hr : IsRune n) (h0 : 2048 ≤ n) (h : n < 65536) : encL n = [UInt8.ofNat (224 + n / 4096), UInt8.ofNat (128 + n / 64 % 64), UInt8.ofNat (128 + n % 64)] := by
  have e := enc_c hr
  rw [if_neg (by omega), if_neg (by omega), if_pos h] at e
  exact bytesL_of e
theorem enc4 {n : Nat} (h0 : 65536 ≤ n) (h : n ≤ 1114111) : encL n = [UInt8.ofNat (240 + n / 262144), UInt8.ofNat (128 + n / 4096 % 64), UInt8.ofNat (128 + n / 64 % 64), UInt8.ofNat (128 + n % 64)] := by
  have e := enc_c (n := n) (.inr (by omega))
  rw [if_neg (by omega), if_neg (by omega), if_neg (by omega)] at e
  exact bytesL_of e
/-- A rune's bytes, in one form: one below 128; or one that opens a state, and as many as it lacks behind it. -/
theorem enc_form {n : Nat} (hr : IsRune n) : ∃ a rest, encL n = a :: rest ∧ (rest = [] ∧ a.toNat = n ∧ n < 128 ∨
    128 ≤ n ∧ ∃ lo hi, 1 ≤ rest.length ∧ rest.length ≤ 3 ∧ openS a.toNat = some (rest.length, lo, hi) ∧ 128 ≤ lo ∧ 194 ≤ a.toNat ∧ (∀ b, rest[0]? = some b → lo ≤ b.toNat ∧ b.toNat ≤ hi) ∧ ∀ b ∈ rest, 128 ≤ b.toNat ∧ b.toNat ≤ 191) := by
  by_cases h1 : n < 128
  · exact ⟨_, _, enc1 h1, .inl ⟨rfl, toNat_ofNat n (by omega), h1⟩⟩
  by_cases h2 : n < 2048
  · refine ⟨_, _, enc2 (by omega) h2, .inr ⟨by omega, 128, 191, by simp, by simp, ?_, by omega, ?_, ?_, ?_⟩⟩
    · rw [toNat_ofNat _ (by omega)]
      simp only [List.length_singleton]
      unfold openS
      rw [if_neg (by omega), if_pos (by omega)]
    · rw [toNat_ofNat _ (by omega)]; omega
    · intro b hb
      simp only [List.getElem?_cons_zero, Option.some.injEq] at hb
      subst hb
      rw [toNat_ofNat _ (by omega)]
      omega
    · intro b hb
      simp only [List.mem_singleton] at hb
      subst hb
      rw [toNat_ofNat _ (by omega)]
      omega
  by_cases h3 : n < 65536
  · have hb1 : (UInt8.ofNat (128 + n / 64 % 64)).toNat = 128 + n / 64 % 64 := toNat_ofNat _ (by omega)
    have hb2 : (UInt8.ofNat (128 + n % 64)).toNat = 128 + n % 64 := toNat_ofNat _ (by omega)
    have ha : (UInt8.ofNat (224 + n / 4096)).toNat = 224 + n / 4096 := toNat_ofNat _ (by omega)
    have key : ∃ lo hi, openS (224 + n / 4096) = some (2, lo, hi) ∧ 128 ≤ lo ∧ lo ≤ 128 + n / 64 % 64 ∧ 128 + n / 64 % 64 ≤ hi := by
      unfold IsRune at hr
      unfold openS
      rw [if_neg (by omega), if_neg (by omega)]
      by_cases c1 : 224 + n / 4096 = 224
      · exact ⟨160, 191, by rw [if_pos c1], by omega, by omega, by omega⟩
      rw [if_neg c1]
      by_cases c2 : 224 + n / 4096 = 237
      · exact ⟨128, 159, by rw [if_pos c2], by omega, by omega, by omega⟩
      rw [if_neg c2, if_pos (by omega)]
      exact ⟨128, 191, rfl, by omega, by omega, by omega⟩
    obtain ⟨lo, hi, ho, hlo, k1, k2⟩ := key
    refine ⟨_, _, enc3 hr (by omega) h3, .inr ⟨by omega, lo, hi, by simp, by simp, by rw [ha]; exact ho, hlo, by omega, ?_, ?_⟩⟩
    · intro b hb
      simp only [List.getElem?_cons_zero, Option.some.injEq] at hb
      subst hb
      rw [hb1]
      exact ⟨k1, k2⟩
    · intro b hb
      simp only [List.mem_cons, List.not_mem_nil, or_false] at hb
      rcases hb with rfl | rfl <;> omega
  · unfold IsRune at hr
    have hb1 : (UInt8.ofNat (128 + n / 4096 % 64)).toNat = 128 + n / 4096 % 64 := toNat_ofNat _ (by omega)
    have hb2 : (UInt8.ofNat (128 + n / 64 % 64)).toNat = 128 + n / 64 % 64 := toNat_ofNat _ (by omega)
    have hb3 : (UInt8.ofNat (128 + n % 64)).toNat = 128 + n % 64 := toNat_ofNat _ (by omega)
    have ha : (UInt8.ofNat (240 + n / 262144)).toNat = 240 + n / 262144 := toNat_ofNat _ (by omega)
    have key : ∃ lo hi, openS (240 + n / 262144) = some (3, lo, hi) ∧ 128 ≤ lo ∧ lo ≤ 128 + n / 4096 % 64 ∧ 128 + n / 4096 % 64 ≤ hi := by
      unfold openS
      rw [if_neg (by omega), if_neg (by omega), if_neg (by omega), if_neg (by omega), if_neg (by omega)]
      by_cases c1 : 240 + n / 262144 = 240
      · exact ⟨144, 191, by rw [if_pos c1], by omega, by omega, by omega⟩
      rw [if_neg c1]
      by_cases c2 : 240 + n / 262144 = 244
      · exact ⟨128, 143, by rw [if_neg (by omega), if_pos c2], by omega, by omega, by omega⟩
      rw [if_pos (by omega)]
      exact ⟨128, 191, rfl, by omega, by omega, by omega⟩
    obtain ⟨lo, hi, ho, hlo, k1, k2⟩ := key
    refine ⟨_, _, enc4 (by omega) (by omega), .inr ⟨by omega, lo, hi, by simp, by simp, by rw [ha]; exact ho, hlo, by omega, ?_, ?_⟩⟩
    · intro b hb
      simp only [List.getElem?_cons_zero, Option.some.injEq] at hb
      subst hb
      rw [hb1]
      exact ⟨k1, k2⟩
    · intro b hb
      simp only [List.mem_cons, List.not_mem_nil, or_false] at hb
      rcases hb with rfl | rfl | rfl <;> omega
theorem enc_len {n : Nat} (hr : IsRune n) : 1 ≤ (encL n).length ∧ (encL n).length ≤ 4 := by
  obtain ⟨a, rest, h, hc⟩ := enc_form hr
  rw [h, List.length_cons]
  rcases hc with ⟨rfl, _⟩ | ⟨_, _, _, h1, h2, _⟩
  · simp
  · omega
def stN (m : Nat) : Nat × Nat × Nat := if m = 0 then (0, 0, 0) else (m, 128, 191)
theorem step_in (m lo hi : Nat) (b : UInt8) (h : lo ≤ b.toNat ∧ b.toNat ≤ hi) : stepS (some (m + 1, lo, hi)) b = some (stN m) := by
  simp only [stepS, stN]
  rw [if_neg (by omega)]
  split <;> rfl
theorem cont_run (rest : List UInt8) (h : ∀ b ∈ rest, 128 ≤ b.toNat ∧ b.toNat ≤ 191) (k : Nat) : runS (some (stN (rest.length + k))) rest = some (stN k) := by
  induction rest with
  | nil => simp [runS]
  | cons b t ih =>
    rw [runS_cons, List.length_cons]
    have e : stN (t.length + 1 + k) = (t.length + k + 1, 128, 191) := by
      unfold stN
      rw [if_neg (by omega)]
      congr 1
      omega
    rw [e, step_in _ _ _ _ (h b (by simp))]
    exact ih (fun c hc => h c (by simp [hc]))
/-- Where a rune stands behind j of its bytes. -/
theorem run_enc_take {n : Nat} (hr : IsRune n) (j : Nat) (h0 : 0 < j) (h1 : j < (encL n).length) : ∃ m lo hi, runS st0 ((encL n).take j) = some (m + 1, lo, hi) ∧ 128 ≤ lo := by
  obtain ⟨a, rest, h, hc⟩ := enc_form hr
  rw [h] at h1 ⊢
  obtain ⟨j, rfl⟩ : ∃ i, j = i + 1 := ⟨j - 1, by omega⟩
  rw [List.take_succ_cons, runS_cons]
  rcases hc with ⟨rfl, _⟩ | ⟨_, lo, hi, g1, g2, ho, hlo, ha, hb0, hb⟩
  · simp at h1
  · have hs : stepS st0 a = openS a.toNat := rfl
    rw [hs, ho]
    cases rest with
    | nil => simp at g1
    | cons b t =>
      cases j with
      | zero => exact ⟨t.length, lo, hi, by simp [runS_nil], hlo⟩
      | succ j =>
        simp only [List.length_cons, Nat.add_lt_add_iff_right] at h1
        rw [List.take_succ_cons, runS_cons, List.length_cons, step_in _ _ _ _ (hb0 b (by simp))]
        have hl : (t.take j).length = j := by rw [List.length_take]; omega
        have := cont_run (t.take j) (fun c hc => hb c (by simp [List.mem_of_mem_take hc])) (t.length - j)
        rw [hl, show j + (t.length - j) = t.length by omega] at this
        rw [this]
        exact ⟨t.length - j - 1, 128, 191, by unfold stN; rw [if_neg (by omega), show t.length - j - 1 + 1 = t.length - j by omega], by omega⟩
theorem run_enc {n : Nat} (hr : IsRune n) : runS st0 (encL n) = st0 := by
  obtain ⟨a, rest, h, hc⟩ := enc_form hr
  rw [h, runS_cons]
  have hs : stepS st0 a = openS a.toNat := rfl
  rw [hs]
  rcases hc with ⟨rfl, ha, hn⟩ | ⟨_, lo, hi, g1, g2, ho, hlo, ha, hb0, hb⟩
  · unfold openS
    rw [if_pos (by omega)]
    rfl
  · rw [ho]
    cases rest with
    | nil => simp at g1
    | cons b t =>
      rw [runS_cons, List.length_cons, step_in _ _ _ _ (hb0 b (by simp))]
      exact cont_run t (fun c hc => hb c (by simp [hc])) 0
theorem cont_none (b : UInt8) (h : 128 ≤ b.toNat ∧ b.toNat ≤ 191) : stepS st0 b = none := by
  have hs : stepS st0 b = openS b.toNat := rfl
  rw [hs]
  unfold openS
  rw [if_neg (by omega), if_neg (by omega), if_neg (by omega), if_neg (by omega), if_neg (by omega), if_neg (by omega), if_neg (by omega), if_neg (by omega)]
/-- From within a rune on nothing is UTF-8. -/
theorem run_enc_drop {n : Nat} (hr : IsRune n) (j : Nat) (h0 : 0 < j) (h1 : j < (encL n).length) (t : List UInt8) : runS st0 ((encL n).drop j ++ t) = none := by
  obtain ⟨a, rest, h, hc⟩ := enc_form hr
  rw [h] at h1 ⊢
  obtain ⟨j, rfl⟩ : ∃ i, j = i + 1 := ⟨j - 1, by omega⟩
  rw [List.drop_succ_cons]
  rcases hc with ⟨rfl, _⟩ | ⟨_, lo, hi, g1, g2, ho, hlo, ha, hb0, hb⟩
  · simp at h1
  · have hj : j < rest.length := by simpa using h1
    rw [List.drop_eq_getElem_cons hj, List.cons_append, runS_cons, cont_none _ (hb _ (by simp)), runS_none]
theorem run_encs (l : List Nat) (h : ∀ n ∈ l, IsRune n) : runS st0 (l.flatMap encL) = st0 := by
  induction l with
  | nil => rfl
  | cons n t ih =>
    rw [List.flatMap_cons, runS_append, run_enc (h n (by simp))]
    exact ih (fun m hm => h m (by simp [hm]))
theorem valid_encs (l : List Nat) (h : ∀ n ∈ l, IsRune n) : validD (l.flatMap encL) = true := by rw [valid_run, run_encs l h]; rfl
/-! ### the decoder -/
set_option maxRecDepth 100000 in
set_option maxHeartbeats 4000000 in
theorem dec1 {n : Nat} (h : n < 128) (k b1 b2 b3 : Nat) : decodeN k n b1 b2 b3 = (n, 1) := by simp [decodeN, h]
set_option maxRecDepth 100000 in
set_option maxHeartbeats 4000000 in
theorem dec2 {n : Nat} (h0 : 128 ≤ n) (h : n < 2048) (k b2 b3 : Nat) (hk : 2 ≤ k) : decodeN k (192 + n / 64) (128 + n % 64) b2 b3 = (n, 2) := by
  unfold decodeN
  rw [if_neg (by omega), if_pos ⟨by omega, by omega, by omega⟩, if_pos (by omega)]
  congr 1
  omega
set_option maxRecDepth 100000 in
set_option maxHeartbeats 4000000 in
theorem dec3 {n : Nat} (hr : IsRune n) (h0 : 2048 ≤ n) (h : n < 65536) (k b3 : Nat) (hk : 3 ≤ k) : decodeN k (224 + n / 4096) (128 + n / 64 % 64) (128 + n % 64) b3 = (n, 3) := by
  unfold IsRune at hr
  have e : (224 + n / 4096) % 16 * 4096 + (128 + n / 64 % 64) % 64 * 64 + (128 + n % 64) % 64 = n := by omega
  unfold decodeN
  rw [if_neg (by omega), if_neg (by omega), if_pos ⟨by omega, ⟨by omega, by omega⟩, by omega, by omega⟩, e, if_pos (by omega)]
set_option maxRecDepth 100000 in
set_option maxHeartbeats 4000000 in
theorem dec4 {n : Nat} (h0 : 65536 ≤ n) (h : n ≤ 1114111) (k : Nat) (hk : 4 ≤ k) : decodeN k (240 + n / 262144) (128 + n / 4096 % 64) (128 + n / 64 % 64) (128 + n % 64) = (n, 4) := by
  have e : (240 + n / 262144) % 8 * 262144 + (128 + n / 4096 % 64) % 64 * 4096 + (128 + n / 64 % 64) % 64 * 64 + (128 + n % 64) % 64 = n := by omega
  unfold decodeN
  rw [if_neg (by omega), if_neg (by omega), if_neg (by omega), if_pos ⟨by omega, ⟨by omega, by omega⟩, ⟨by omega, by omega⟩, by omega, by omega⟩, e, if_pos (by omega)]
theorem dec_enc {n : Nat} (hr : IsRune n) (t : List UInt8) : decodeL (encL n ++ t) = (n, (encL n).length) := by
  rw [decodeL_N]
  by_cases h1 : n < 128
  · rw [enc1 h1]
    simp only [List.singleton_append, List.getD_cons_zero, toNat_ofNat n (by omega), List.length_singleton]
    exact dec1 h1 _ _ _ _
  by_cases h2 : n < 2048
  · rw [enc2 (by omega) h2]
    simp only [List.cons_append, List.nil_append, List.getD_cons_zero, List.getD_cons_succ, toNat_ofNat (192 + n / 64) (by omega), toNat_ofNat (128 + n % 64) (by omega), List.length_cons, List.length_nil]
    exact dec2 (by omega) h2 _ _ _ (by omega)
  by_cases h3 : n < 65536
  · rw [enc3 hr (by omega) h3]
    simp only [List.cons_append, List.nil_append, List.getD_cons_zero, List.getD_cons_succ, toNat_ofNat (224 + n / 4096) (by omega), toNat_ofNat (128 + n / 64 % 64) (by omega), toNat_ofNat (128 + n % 64) (by omega), List.length_cons, List.length_nil]
    exact dec3 hr (by omega) h3 _ _ (by omega)
  · have h4 : n ≤ 1114111 := by unfold IsRune at hr; omega
    rw [enc4 (by omega) h4]
    simp only [List.cons_append, List.nil_append, List.getD_cons_zero, List.getD_cons_succ, toNat_ofNat (240 + n / 262144) (by omega), toNat_ofNat (128 + n / 4096 % 64) (by omega), toNat_ofNat (128 + n / 64 % 64) (by omega), toNat_ofNat (128 + n % 64) (by omega), List.length_cons, List.length_nil]
    exact dec4 (by omega) h4 _ (by omega)
theorem ofNat_eq (b : UInt8) (x : Nat) (h : x = b.toNat) : UInt8.ofNat x = b := by subst h; simp
theorem four_a (x y z u : Nat) (_ : x < 8) (hy : y < 64) (hz : z < 64) (hu : u < 64) : (x * 262144 + y * 4096 + z * 64 + u) / 262144 = x ∧ (x * 262144 + y * 4096 + z * 64 + u) / 4096 % 64 = y ∧ (x * 262144 + y * 4096 + z * 64 + u) / 64 % 64 = z ∧ (x * 262144 + y * 4096 + z * 64 + u) % 64 = u := by
  refine ⟨by omega, by omega, by omega, by omega⟩
theorem three_a (y z u : Nat) (_ : y < 16) (hz : z < 64) (hu : u < 64) : (y * 4096 + z * 64 + u) / 4096 = y ∧ (y * 4096 + z * 64 + u) / 64 % 64 = z ∧ (y * 4096 + z * 64 + u) % 64 = u := by
  refine ⟨by omega, by omega, by omega⟩
theorem two_a (z u : Nat) (hu : u < 64) : (z * 64 + u) / 64 = z ∧ (z * 64 + u) % 64 = u := by
  refine ⟨by omega, by omega⟩
theorem lead_a (b k m : Nat) (h : b / k = m) : b = m * k + b % k := by have := Nat.div_add_mod b k; rw [h] at this; rw [Nat.mul_comm] at this; exact this.symm
theorem dec_cases (k b0 b1 b2 b3 : Nat) : decodeN k b0 b1 b2 b3 = (65533, 1) ∨ (b0 < 128 ∧ decodeN k b0 b1 b2 b3 = (b0, 1)) ∨
    (2 ≤ k ∧ ∃ c, decodeN k b0 b1 b2 b3 = (c, 2) ∧ 128 ≤ c ∧ c < 2048 ∧ 192 + c / 64 = b0 ∧ 128 + c % 64 = b1) ∨
    (3 ≤ k ∧ ∃ c, decodeN k b0 b1 b2 b3 = (c, 3) ∧ IsRune c ∧ 2048 ≤ c ∧ c < 65536 ∧ 224 + c / 4096 = b0 ∧ 128 + c / 64 % 64 = b1 ∧ 128 + c % 64 = b2) ∨
    (4 ≤ k ∧ ∃ c, decodeN k b0 b1 b2 b3 = (c, 4) ∧ 65536 ≤ c ∧ c ≤ 1114111 ∧ 240 + c / 262144 = b0 ∧ 128 + c / 4096 % 64 = b1 ∧ 128 + c / 64 % 64 = b2 ∧ 128 + c % 64 = b3) := by
  unfold decodeN
  by_cases h1 : b0 < 128
  · rw [if_pos h1]; exact .inr (.inl ⟨h1, rfl⟩)
  rw [if_neg h1]
  by_cases h2 : b0 / 32 = 6 ∧ (1 < k ∧ b1 / 64 = 2)
  · rw [if_pos h2]
    have e0 := lead_a _ _ _ h2.1
    have e1 := lead_a _ _ _ h2.2.2
    have l0 : b0 % 32 < 32 := Nat.mod_lt _ (by decide)
    have l1 : b1 % 64 < 64 := Nat.mod_lt _ (by decide)
    have t := two_a (b0 % 32) (b1 % 64) l1
    generalize b0 % 32 = x at *
    generalize b1 % 64 = y at *
    by_cases c : x * 64 + y ≥ 128
    · rw [if_pos c]
      exact .inr (.inr (.inl ⟨h2.2.1, _, rfl, c, by omega, by rw [t.1, e0], by rw [t.2, e1]⟩))
    · rw [if_neg c]; exact .inl rfl
  rw [if_neg h2]
  by_cases h3 : b0 / 16 = 14 ∧ (1 < k ∧ b1 / 64 = 2) ∧ (2 < k ∧ b2 / 64 = 2)
  · rw [if_pos h3]
    have e0 := lead_a _ _ _ h3.1
    have e1 := lead_a _ _ _ h3.2.1.2
    have e2 := lead_a _ _ _ h3.2.2.2
    have l0 : b0 % 16 < 16 := Nat.mod_lt _ (by decide)
    have l1 : b1 % 64 < 64 := Nat.mod_lt _ (by decide)
    have l2 : b2 % 64 < 64 := Nat.mod_lt _ (by decide)
    have t := three_a (b0 % 16) (b1 % 64) (b2 % 64) l0 l1 l2
    generalize b0 % 16 = x at *
    generalize b1 % 64 = y at *
    generalize b2 % 64 = z at *
    have hk := h3.2.2.1
    clear h1 h2 h3
    by_cases c : x * 4096 + y * 64 + z ≥ 2048 ∧ (x * 4096 + y * 64 + z < 55296 ∨ (57344 ≤ x * 4096 + y * 64 + z ∧ x * 4096 + y * 64 + z ≤ 1114111))
    · rw [if_pos c]
      exact .inr (.inr (.inr (.inl ⟨hk, _, rfl, by unfold IsRune; omega, c.1, by omega, by rw [t.1, e0], by rw [t.2.1, e1], by rw [t.2.2, e2]⟩)))
    · rw [if_neg c]; exact .inl rfl
  rw [if_neg h3]
  by_cases h4 : b0 / 8 = 30 ∧ (1 < k ∧ b1 / 64 = 2) ∧ (2 < k ∧ b2 / 64 = 2) ∧ (3 < k ∧ b3 / 64 = 2)
  · rw [if_pos h4]
    have e0 := lead_a _ _ _ h4.1
    have e1 := lead_a _ _ _ h4.2.1.2
    have e2 := lead_a _ _ _ h4.2.2.1.2
    have e3 := lead_a _ _ _ h4.2.2.2.2
    have l0 : b0 % 8 < 8 := Nat.mod_lt _ (by decide)
    have l1 : b1 % 64 < 64 := Nat.mod_lt _ (by decide)
    have l2 : b2 % 64 < 64 := Nat.mod_lt _ (by decide)
    have l3 : b3 % 64 < 64 := Nat.mod_lt _ (by decide)
    have t := four_a (b0 % 8) (b1 % 64) (b2 % 64) (b3 % 64) l0 l1 l2 l3
    generalize b0 % 8 = x at *
    generalize b1 % 64 = y at *
    generalize b2 % 64 = z at *
    generalize b3 % 64 = u at *
    have hk := h4.2.2.2.1
    clear h1 h2 h3 h4
    by_cases c : x * 262144 + y * 4096 + z * 64 + u ≥ 65536 ∧ (x * 262144 + y * 4096 + z * 64 + u < 55296 ∨ (57344 ≤ x * 262144 + y * 4096 + z * 64 + u ∧ x * 262144 + y * 4096 + z * 64 + u ≤ 1114111))
    · rw [if_pos c]
      exact .inr (.inr (.inr (.inr ⟨hk, _, rfl, c.1, by omega, by rw [t.1, e0], by rw [t.2.1, e1], by rw [t.2.2.1, e2], by rw [t.2.2.2, e3]⟩)))
    · rw [if_neg c]; exact .inl rfl
  rw [if_neg h4]; exact .inl rfl
theorem enc_dec (l : List UInt8) (hne : l ≠ []) (hg : ¬ ((decodeL l).1 = 65533 ∧ (decodeL l).2 = 1)) : IsRune (decodeL l).1 ∧ encL (decodeL l).1 = l.take (decodeL l).2 ∧ (decodeL l).2 ≤ l.length := by
  rw [decodeL_N] at hg ⊢
  match l, hne with
  | b0 :: t, _ =>
    simp only [List.getD_cons_zero, List.getD_cons_succ, List.length_cons] at hg ⊢
    rcases dec_cases (t.length + 1) b0.toNat (t.getD 0 0).toNat (t.getD 1 0).toNat (t.getD 2 0).toNat with e | ⟨h1, e⟩ | ⟨hk, c, e, h1, h2, e0, e1⟩ | ⟨hk, c, e, hr, h1, h2, e0, e1, e2⟩ | ⟨hk, c, e, h1, h2, e0, e1, e2, e3⟩
    · rw [e] at hg
      exact absurd ⟨rfl, rfl⟩ hg
    · rw [e]
      clear hg e
      exact ⟨.inl (by show b0.toNat < 55296; omega), by show encL b0.toNat = _; rw [enc1 h1, ofNat_eq b0 _ rfl]; rfl, by show 1 ≤ _; omega⟩
    · rw [e]
      clear hg e
      match t with
      | [] => simp at hk
      | b1 :: t' =>
        simp only [List.getD_cons_zero, List.length_cons] at e1 ⊢
        refine ⟨.inl (by show c < 55296; omega), ?_, by show 2 ≤ _; omega⟩
        show encL c = [b0, b1]
        rw [enc2 h1 h2, ofNat_eq b0 _ e0, ofNat_eq b1 _ e1]
    · rw [e]
      clear hg e
      match t with
      | [] => simp at hk
      | [b1] => simp at hk
      | b1 :: b2 :: t' =>
        simp only [List.getD_cons_zero, List.getD_cons_succ, List.length_cons] at e1 e2 ⊢
        refine ⟨hr, ?_, by show 3 ≤ _; omega⟩
        show encL c = [b0, b1, b2]
        rw [enc3 hr h1 h2, ofNat_eq b0 _ e0, ofNat_eq b1 _ e1, ofNat_eq b2 _ e2]
    · rw [e]
      clear hg e
      match t with
      | [] => simp at hk
      | [b1] => simp at hk
      | [b1, b2] => simp at hk
      | b1 :: b2 :: b3 :: t' =>
        simp only [List.getD_cons_zero, List.getD_cons_succ, List.length_cons] at e1 e2 e3 ⊢
        refine ⟨.inr (by show 57343 < c ∧ c ≤ 1114111; omega), ?_, by show 4 ≤ _; omega⟩
        show encL c = [b0, b1, b2, b3]
        rw [enc4 h1 h2, ofNat_eq b0 _ e0, ofNat_eq b1 _ e1, ofNat_eq b2 _ e2, ofNat_eq b3 _ e3]
/-- A text's runes. -/
def runesD : Nat → List UInt8 → List Nat
  | 0, _ => []
  | f + 1, l => if l = [] then [] else (decodeL l).1 :: runesD f (l.drop (decodeL l).2)
theorem runesD_nil (f : Nat) : runesD f [] = [] := by cases f <;> simp [runesD]
theorem runes_encs (l : List Nat) (h : ∀ n ∈ l, IsRune n) (f : Nat) (hf : l.length ≤ f) : runesD f (l.flatMap encL) = l := by
  induction l generalizing f with
  | nil => exact runesD_nil f
  | cons n t ih =>
    obtain ⟨f, rfl⟩ : ∃ g, f = g + 1 := ⟨f - 1, by simp at hf; omega⟩
    have hn := h n (by simp)
    have hl := enc_len hn
    rw [List.flatMap_cons]
    unfold runesD
    rw [if_neg (by intro e; have := congrArg List.length e; rw [List.length_append] at this; simp at this; rw [this.1] at hl; simp at hl), dec_enc hn]
    simp only [List.drop_left]
    rw [ih (fun m hm => h m (by simp [hm])) f (by simpa using hf)]
theorem encs_runes (f : Nat) (l : List UInt8) (hf : l.length ≤ f) (hv : validD l = true) : (runesD f l).flatMap encL = l ∧ ∀ n ∈ runesD f l, IsRune n := by
  induction f generalizing l with
  | zero =>
    have : l = [] := List.eq_nil_of_length_eq_zero (by omega)
    subst this
    simp [runesD]
  | succ f ih =>
    unfold runesD
    by_cases h0 : l = []
    · subst h0; simp
    · rw [if_neg h0]
      rw [validD_step l h0] at hv
      split at hv
      · cases hv
      · rename_i hg
        obtain ⟨h1, h2, h3⟩ := enc_dec l h0 hg
        have hw := decodeL_width l
        obtain ⟨i1, i2⟩ := ih (l.drop (decodeL l).2) (by rw [List.length_drop]; omega) hv
        constructor
        · rw [List.flatMap_cons, i1, h2, List.take_append_drop]
        · intro n hn
          rcases List.mem_cons.1 hn with rfl | hn
          · exact h1
          · exact i2 n hn
theorem runesD_length (f : Nat) (l : List UInt8) : (runesD f l).length ≤ l.length := by
  induction f generalizing l with
  | zero => simp [runesD]
  | succ f ih =>
    unfold runesD
    by_cases h0 : l = []
    · subst h0; simp
    · rw [if_neg h0, List.length_cons]
      have hw := decodeL_width l
      have hl : 0 < l.length := List.length_pos_iff.2 h0
      have := ih (l.drop (decodeL l).2)
      rw [List.length_drop] at this
      omega
theorem runesD_fuel (f g : Nat) (l : List UInt8) (hf : l.length ≤ f) (hg : l.length ≤ g) : runesD f l = runesD g l := by
  induction f generalizing l g with
  | zero =>
    have : l = [] := List.eq_nil_of_length_eq_zero (by omega)
    subst this
    rw [runesD_nil, runesD_nil]
  | succ f ih =>
    by_cases h0 : l = []
    · subst h0; rw [runesD_nil, runesD_nil]
    · have hl : 0 < l.length := List.length_pos_iff.2 h0
      have hw := decodeL_width l
      obtain ⟨g, rfl⟩ : ∃ k, g = k + 1 := ⟨g - 1, by omega⟩
      unfold runesD
      rw [if_neg h0, if_neg h0, ih g _ (by rw [List.length_drop]; omega) (by rw [List.length_drop]; omega)]
end Go.Proofs.Ytonjdnahplphhaa
/-
  GENERAL, NO PROGRAM NEEDED: THE INSIDE OF A JSON STRING AS STATES: what a byte adds, which byte may follow; what the short forms are read as.
-/
namespace Go.Proofs.Ytonjdnahplphhaa
open Go.Lib
def hexV (b : Nat) : Option Nat := if 48 ≤ b ∧ b ≤ 57 then some (b - 48) else if 97 ≤ b ∧ b ≤ 102 then some (b - 87) else if 65 ≤ b ∧ b ≤ 70 then some (b - 55) else none
/-- text n lo hi: n bytes of a rune lack; back: behind a backslash; hex k v: k digits, their value; high h k w: behind the high surrogate h, k of a low one's six signs; bad u: an error (true: of UTF-8). -/
inductive Ins where
  | text (n lo hi : Nat)
  | back
  | hex (k v : Nat)
  | high (h k w : Nat)
  | bad (utf : Bool)
  deriving DecidableEq
def insT : Ins := .text 0 0 0
def insS : Option (Nat × Nat × Nat) → Ins
  | some (n, lo, hi) => .text n lo hi
  | none => .bad true
def lowOk (k b : Nat) : Bool := match k with
  | 0 => b == 92
  | 1 => b == 117
  | 2 => b == 100 || b == 68
  | 3 => match hexV b with
    | some d => decide (12 ≤ d)
    | none => false
  | _ => (hexV b).isSome
def lowW (k w b : Nat) : Nat := if k < 2 then 0 else w * 16 + (hexV b).getD 0
def shortOf (b : Nat) : Option Nat := if b = 34 ∨ b = 92 ∨ b = 47 then some b else if b = 98 then some 8 else if b = 102 then some 12 else if b = 110 then some 10 else if b = 114 then some 13 else if b = 116 then some 9 else none
/-- The rune of a pair. -/
def pairN (h w : Nat) : Nat := 65536 + (h - 55296) * 1024 + w - 56320
def stepI : Ins → UInt8 → Ins × List UInt8
  | .bad u, _ => (.bad u, [])
  | .text n lo hi, b => if b.toNat = 34 ∨ b.toNat < 32 then (.bad false, []) else if n = 0 ∧ b.toNat = 92 then (.back, []) else match stepS (some (n, lo, hi)) b with
    | none => (.bad true, [])
    | some (m, lo', hi') => (.text m lo' hi', [b])
  | .back, b => match shortOf b.toNat with
    | some c => (insT, [UInt8.ofNat c])
    | none => if b.toNat = 117 then (.hex 0 0, []) else (.bad (openS b.toNat).isNone, [])
  | .hex k v, b => match hexV b.toNat with
    | none => (.bad (openS b.toNat).isNone, [])
    | some d => if k < 3 then (.hex (k + 1) (v * 16 + d), []) else if 56320 ≤ v * 16 + d ∧ v * 16 + d ≤ 57343 then (.bad true, []) else if 55296 ≤ v * 16 + d ∧ v * 16 + d ≤ 56319 then (.high (v * 16 + d) 0 0, []) else (insT, encL (v * 16 + d))
  | .high h k w, b => if lowOk k b.toNat = true then (if k < 5 then (.high h (k + 1) (lowW k w b.toNat), []) else (insT, encL (pairN h (lowW k w b.toNat)))) else (.bad true, [])
def runI : Ins → List UInt8 → Ins × List UInt8
  | s, [] => (s, [])
  | s, b :: t => ((runI (stepI s b).1 t).1, (stepI s b).2 ++ (runI (stepI s b).1 t).2)
def wholeI : Ins → Bool
  | .text 0 _ _ => true
  | _ => false
/-- 0: none, 1: of form, 2: of UTF-8. -/
def badI : Ins → Option Bool
  | .bad u => some u
  | _ => none
theorem runI_nil (s : Ins) : runI s [] = (s, []) := rfl
theorem runI_cons (s : Ins) (b : UInt8) (t : List UInt8) : runI s (b :: t) = ((runI (stepI s b).1 t).1, (stepI s b).2 ++ (runI (stepI s b).1 t).2) := rfl
theorem runI_append (s : Ins) (a b : List UInt8) : runI s (a ++ b) = ((runI (runI s a).1 b).1, (runI s a).2 ++ (runI (runI s a).1 b).2) := by
  induction a generalizing s with
  | nil => simp [runI]
  | cons x t ih => simp only [List.cons_append, runI_cons, ih, List.append_assoc]
theorem runI_one (s : Ins) (b : UInt8) : runI s [b] = stepI s b := by simp [runI]
theorem runI_snoc (s : Ins) (l : List UInt8) (i : Nat) (h : i < l.length) : runI s (l.take (i + 1)) = ((stepI (runI s (l.take i)).1 l[i]).1, (runI s (l.take i)).2 ++ (stepI (runI s (l.take i)).1 l[i]).2) := by
  rw [List.take_add_one, List.getElem?_eq_getElem h, runI_append]
  simp only [Option.toList_some, runI_one]
theorem runI_bad (u : Bool) (l : List UInt8) : runI (.bad u) l = (.bad u, []) := by
  induction l with
  | nil => rfl
  | cons b t ih => rw [runI_cons]; simp only [stepI, ih, List.append_nil]
/-- A text state that lacks nothing is the first one. -/
def Goods : Ins → Prop
  | .text 0 lo hi => lo = 0 ∧ hi = 0
  | _ => True
theorem openS_zero (b n lo hi : Nat) (h : openS b = some (n, lo, hi)) (h0 : n = 0) : lo = 0 ∧ hi = 0 := by
  unfold openS at h
  repeat' split at h
  all_goals first | (simp only [Option.some.injEq, Prod.mk.injEq] at h; omega) | (cases h)
theorem goods_step (s : Ins) (b : UInt8) (hs : Goods s) : Goods (stepI s b).1 := by
  cases s with
  | bad u => trivial
  | back =>
    simp only [stepI]
    split
    · exact ⟨rfl, rfl⟩
    · split <;> trivial
  | hex k v =>
    simp only [stepI]
    repeat' split
    all_goals first | trivial | exact ⟨rfl, rfl⟩
  | high h k w =>
    simp only [stepI]
    repeat' split
    all_goals first | trivial | exact ⟨rfl, rfl⟩
  | text n lo hi =>
    simp only [stepI]
    split
    · trivial
    · split
      · trivial
      · cases h : stepS (some (n, lo, hi)) b with
        | none => trivial
        | some p =>
          obtain ⟨m, lo', hi'⟩ := p
          cases m with
          | succ m => trivial
          | zero =>
            show lo' = 0 ∧ hi' = 0
            cases n with
            | zero => exact openS_zero _ _ _ _ h rfl
            | succ n =>
              simp only [stepS] at h
              repeat' split at h
              all_goals first | (simp only [Option.some.injEq, Prod.mk.injEq] at h; omega) | (cases h)
theorem goods_run (s : Ins) (l : List UInt8) (hs : Goods s) : Goods (runI s l).1 := by
  induction l generalizing s with
  | nil => exact hs
  | cons b t ih => rw [runI_cons]; exact ih _ (goods_step s b hs)
theorem whole_is (l : List UInt8) (h : wholeI (runI insT l).1 = true) : (runI insT l).1 = insT := by
  have := goods_run insT l ⟨rfl, rfl⟩
  generalize (runI insT l).1 = s at *
  match s with
  | .text 0 lo hi => obtain ⟨rfl, rfl⟩ := this; rfl
  | .text (n + 1) _ _ => cases h
  | .back => cases h
  | .hex _ _ => cases h
  | .high _ _ _ => cases h
  | .bad _ => cases h
/-- The insides of two texts, one behind the other. -/
theorem runI_join (a b : List UInt8) (ha : wholeI (runI insT a).1 = true) : runI insT (a ++ b) = ((runI insT b).1, (runI insT a).2 ++ (runI insT b).2) := by
  rw [runI_append, whole_is a ha]
/-- What is written for a byte. -/
def hexD (n : Nat) : UInt8 := if n < 10 then UInt8.ofNat (48 + n) else UInt8.ofNat (87 + n)
def escB (b : UInt8) : List UInt8 :=
  if b.toNat = 34 ∨ b.toNat = 92 then [92, b] else if b.toNat = 8 then [92, 98] else if b.toNat = 12 then [92, 102] else if b.toNat = 10 then [92, 110] else if b.toNat = 13 then [92, 114] else if b.toNat = 9 then [92, 116]
  else if b.toNat < 32 then [92, 117, 48, 48, hexD (b.toNat / 16), hexD (b.toNat % 16)] else [b]
def escW (l : List UInt8) : List UInt8 := l.flatMap escB
theorem escW_append (a b : List UInt8) : escW (a ++ b) = escW a ++ escW b := by simp [escW]
theorem escW_cons (b : UInt8) (t : List UInt8) : escW (b :: t) = escB b ++ escW t := by simp [escW]
set_option maxRecDepth 100000 in
theorem esc_low : ∀ b : Fin 128, runI insT (escB (UInt8.ofNat b.val)) = (insT, [UInt8.ofNat b.val]) := by decide +kernel
theorem esc_high {b : UInt8} (h : 128 ≤ b.toNat) : escB b = [b] := by
  unfold escB
  rw [if_neg (by omega), if_neg (by omega), if_neg (by omega), if_neg (by omega), if_neg (by omega), if_neg (by omega), if_neg (by omega)]
theorem step_high {n lo hi : Nat} {b : UInt8} (h : 128 ≤ b.toNat) {m lo' hi' : Nat} (hs : stepS (some (n, lo, hi)) b = some (m, lo', hi')) : stepI (.text n lo hi) b = (.text m lo' hi', [b]) := by
  simp only [stepI]
  rw [if_neg (by omega), if_neg (by omega), hs]
/-- States of UTF-8 whose further bytes are none of ASCII. -/
def Conts : Option (Nat × Nat × Nat) → Prop
  | some (0, lo, hi) => lo = 0 ∧ hi = 0
  | some (_ + 1, lo, hi) => 128 ≤ lo ∧ hi ≤ 191
  | none => True
theorem conts_step (s : Option (Nat × Nat × Nat)) (b : UInt8) (h : Conts s) : Conts (stepS s b) := by
  match s with
  | none => exact h
  | some (0, lo, hi) =>
    show Conts (openS b.toNat)
    cases ho : openS b.toNat with
    | none => trivial
    | some p =>
      obtain ⟨n, lo', hi'⟩ := p
      cases n with
      | zero => exact openS_zero _ _ _ _ ho rfl
      | succ n =>
        by_cases hb : 128 ≤ b.toNat
        · have := openS_pos _ _ _ _ ho hb
          exact ⟨this.2.1, this.2.2.2⟩
        · simp [openS, show b.toNat < 128 by omega] at ho
  | some (n + 1, lo, hi) =>
    simp only [stepS]
    split
    · trivial
    · split
      · exact ⟨rfl, rfl⟩
      · cases n with
        | zero => contradiction
        | succ n => exact ⟨Nat.le_refl _, Nat.le_refl _⟩
/-- WHAT IS WRITTEN IS READ: of every bytes that may be the beginning of UTF-8. -/
theorem run_esc (l : List UInt8) (n lo hi : Nat) (hc : Conts (some (n, lo, hi))) (m lo' hi' : Nat) (h : runS (some (n, lo, hi)) l = some (m, lo', hi')) : runI (.text n lo hi) (escW l) = (.text m lo' hi', l) := by
  induction l generalizing n lo hi with
  | nil =>
    simp only [runS_nil, Option.some.injEq, Prod.mk.injEq] at h
    obtain ⟨rfl, rfl, rfl⟩ := h
    rfl
  | cons b t ih =>
    rw [runS_cons] at h
    have hcs := conts_step _ b hc
    cases hs : stepS (some (n, lo, hi)) b with
    | none => rw [hs, runS_none] at h; cases h
    | some p =>
      obtain ⟨q, qlo, qhi⟩ := p
      rw [hs] at h hcs
      have ht := ih q qlo qhi hcs h
      rw [escW_cons, runI_append]
      by_cases hb : 128 ≤ b.toNat
      · rw [esc_high hb, runI_one, step_high hb hs]
        simp only [ht, List.singleton_append]
      · have hl := esc_low ⟨b.toNat, by omega⟩
        simp only [UInt8.ofNat_toNat] at hl
        cases n with
        | zero =>
          obtain ⟨rfl, rfl⟩ := hc
          have : stepS (some (0, 0, 0)) b = some (0, 0, 0) := by simp [stepS, openS, show b.toNat < 128 by omega]
          rw [this] at hs
          simp only [Option.some.injEq, Prod.mk.injEq] at hs
          obtain ⟨rfl, rfl, rfl⟩ := hs
          have hl' : runI (.text 0 0 0) (escB b) = (.text 0 0 0, [b]) := hl
          rw [hl']
          simp only [ht, List.singleton_append]
        | succ n =>
          obtain ⟨h1, _⟩ := hc
          simp only [stepS] at hs
          rw [if_pos (by omega)] at hs
          cases hs
theorem read_write (l : List UInt8) (h : validD l = true) : runI insT (escW l) = (insT, l) := by
  rw [valid_run] at h
  cases hr : runS st0 l with
  | none => rw [hr] at h; cases h
  | some p =>
    obtain ⟨m, lo, hi⟩ := p
    have hx := run_esc l 0 0 0 ⟨rfl, rfl⟩ m lo hi hr
    have hg : Goods (runI insT (escW l)).1 := goods_run insT _ ⟨rfl, rfl⟩
    rw [hr] at h
    cases m with
    | succ m => cases h
    | zero =>
      have hx' : runI insT (escW l) = (.text 0 lo hi, l) := hx
      rw [hx'] at hg ⊢
      obtain ⟨rfl, rfl⟩ := hg
      rfl
/-- Four digits, of whichever case. -/
def hexU (n : Nat) : UInt8 := if n < 10 then UInt8.ofNat (48 + n) else UInt8.ofNat (55 + n)
theorem hexD_v : ∀ n : Fin 16, hexV (hexD n.val).toNat = some n.val := by decide +kernel
theorem hexU_v : ∀ n : Fin 16, hexV (hexU n.val).toNat = some n.val := by decide +kernel
def uL (f : Nat → UInt8) (v : Nat) : List UInt8 := [92, 117, f (v / 4096 % 16), f (v / 256 % 16), f (v / 16 % 16), f (v % 16)]
theorem hex_sum (v : Nat) (h : v < 65536) : ((v / 4096 % 16 * 16 + v / 256 % 16) * 16 + v / 16 % 16) * 16 + v % 16 = v := by omega
theorem run_u (f : Nat → UInt8) (hf : ∀ n, n < 16 → hexV (f n).toNat = some n) (v : Nat) (h : v < 65536) :
    runI insT (uL f v) = if 56320 ≤ v ∧ v ≤ 57343 then (.bad true, []) else if 55296 ≤ v ∧ v ≤ 56319 then (.high v 0 0, []) else (insT, encL v) := by
  have d1 := hf (v / 4096 % 16) (by omega)
  have d2 := hf (v / 256 % 16) (by omega)
  have d3 := hf (v / 16 % 16) (by omega)
  have d4 := hf (v % 16) (by omega)
  have e1 : stepI insT 92 = (.back, []) := by decide
  have e2 : stepI .back 117 = (.hex 0 0, []) := by decide
  have hsum := hex_sum v h
  have e3 : stepI (.hex 0 0) (f (v / 4096 % 16)) = (.hex 1 (v / 4096 % 16), []) := by simp [stepI, d1]
  have e4 : stepI (.hex 1 (v / 4096 % 16)) (f (v / 256 % 16)) = (.hex 2 (v / 4096 % 16 * 16 + v / 256 % 16), []) := by simp [stepI, d2]
  have e5 : stepI (.hex 2 (v / 4096 % 16 * 16 + v / 256 % 16)) (f (v / 16 % 16)) = (.hex 3 ((v / 4096 % 16 * 16 + v / 256 % 16) * 16 + v / 16 % 16), []) := by simp [stepI, d3]
  have e6 : stepI (.hex 3 ((v / 4096 % 16 * 16 + v / 256 % 16) * 16 + v / 16 % 16)) (f (v % 16)) = if 56320 ≤ v ∧ v ≤ 57343 then (.bad true, []) else if 55296 ≤ v ∧ v ≤ 56319 then (.high v 0 0, []) else (insT, encL v) := by
    simp only [stepI, d4, hsum]
    rw [if_neg (by omega)]
  unfold uL
  rw [runI_cons, e1, runI_cons, e2, runI_cons, e3, runI_cons, e4, runI_cons, e5, runI_one, e6]
  simp
theorem lowOk3 {b d : Nat} (h : hexV b = some d) : lowOk 3 b = decide (12 ≤ d) := by simp [lowOk, h]
theorem step_lt {h k w : Nat} {b : UInt8} (hl : lowOk k b.toNat = true) (hk : k < 5) {w' : Nat} (hw : lowW k w b.toNat = w') : stepI (.high h k w) b = (.high h (k + 1) w', []) := by
  subst hw
  simp only [stepI]
  rw [if_pos hl, if_pos hk]
theorem step_end {h w : Nat} {b : UInt8} (hl : lowOk 5 b.toNat = true) {w' : Nat} (hw : lowW 5 w b.toNat = w') : stepI (.high h 5 w) b = (insT, encL (pairN h w')) := by
  subst hw
  simp only [stepI]
  rw [if_pos hl, if_neg (Nat.lt_irrefl 5)]
theorem lowW_d {k w b d : Nat} (hk : 2 ≤ k) (h : hexV b = some d) : lowW k w b = w * 16 + d := by
  unfold lowW
  rw [if_neg (by omega), h]
  rfl
theorem lowOk_d {k b d : Nat} (h : hexV b = some d) : lowOk (k + 4) b = true := by simp [lowOk, h]
theorem run_six {s0 s1 s2 s3 s4 s5 : Ins} {r : Ins × List UInt8} {a b c d e f : UInt8} (h1 : stepI s0 a = (s1, [])) (h2 : stepI s1 b = (s2, [])) (h3 : stepI s2 c = (s3, [])) (h4 : stepI s3 d = (s4, [])) (h5 : stepI s4 e = (s5, [])) (h6 : stepI s5 f = r) : runI s0 [a, b, c, d, e, f] = r := by
  simp only [runI_cons, h1, h2, h3, h4, h5, h6, runI_nil, List.nil_append, List.append_nil]
theorem low_nibs (v : Nat) (hv : 56320 ≤ v ∧ v ≤ 57343) : v / 4096 % 16 = 13 ∧ 12 ≤ v / 256 % 16 := by omega
theorem low_big (v : Nat) (hv : 56320 ≤ v ∧ v ≤ 57343) : v < 65536 := by omega
theorem run_low (f : Nat → UInt8) (hf : ∀ n, n < 16 → hexV (f n).toNat = some n) (hd : (f 13).toNat = 100 ∨ (f 13).toNat = 68) (h v : Nat) (hv : 56320 ≤ v ∧ v ≤ 57343) :
    runI (.high h 0 0) (uL f v) = (insT, encL (pairN h v)) := by
  have d1 := hf (v / 4096 % 16) (Nat.mod_lt _ (by decide))
  have d2 := hf (v / 256 % 16) (Nat.mod_lt _ (by decide))
  have d3 := hf (v / 16 % 16) (Nat.mod_lt _ (by decide))
  have d4 := hf (v % 16) (Nat.mod_lt _ (by decide))
  obtain ⟨h13, h12⟩ := low_nibs v hv
  have hsum := hex_sum v (low_big v hv)
  unfold uL
  have o3 : lowOk 2 (f (v / 4096 % 16)).toNat = true := by rw [h13]; simp only [lowOk]; rcases hd with e | e <;> rw [e] <;> decide
  have o4 : lowOk 3 (f (v / 256 % 16)).toNat = true := by rw [lowOk3 d2]; exact decide_eq_true h12
  generalize v / 4096 % 16 = a at *
  generalize v / 256 % 16 = b at *
  generalize v / 16 % 16 = c at *
  generalize v % 16 = d at *
  clear hv h12 h13 hf hd
  have e1 : stepI (.high h 0 0) 92 = (.high h 1 0, []) := step_lt (by decide) (by decide) (by decide)
  have e2 : stepI (.high h 1 0) 117 = (.high h 2 0, []) := step_lt (by decide) (by decide) (by decide)
  have e3 : stepI (.high h 2 0) (f a) = (.high h 3 a, []) := step_lt o3 (by decide) (by rw [lowW_d (by decide) d1]; omega)
  have e4 : stepI (.high h 3 a) (f b) = (.high h 4 (a * 16 + b), []) := step_lt o4 (by decide) (lowW_d (by decide) d2)
  have e5 : stepI (.high h 4 (a * 16 + b)) (f c) = (.high h 5 ((a * 16 + b) * 16 + c), []) := step_lt (lowOk_d (k := 0) d3) (by decide) (lowW_d (by decide) d3)
  have e6 : stepI (.high h 5 ((a * 16 + b) * 16 + c)) (f d) = (insT, encL (pairN h v)) := step_end (lowOk_d (k := 1) d4) ((lowW_d (by decide) d4).trans hsum)
  exact run_six e1 e2 e3 e4 e5 e6
/-- A surrogate, and a letter behind it. -/
theorem run_sur (f : Nat → UInt8) (hf : ∀ n, n < 16 → hexV (f n).toNat = some n) (v : Nat) (h : 55296 ≤ v ∧ v ≤ 57343) : runI insT (uL f v ++ [120]) = (.bad true, []) := by
  rw [runI_append, run_u f hf v (by omega)]
  by_cases h1 : 56320 ≤ v
  · rw [if_pos (by omega)]; rfl
  · rw [if_neg (by omega), if_pos (by omega)]; rfl
theorem pair_is (r a b : Nat) (ha : a = 55296 + (r - 65536) / 1024) (hb : b = 56320 + (r - 65536) % 1024) (h0 : 65536 ≤ r) : pairN a b = r := by
  unfold pairN
  omega
theorem run_pair (f : Nat → UInt8) (hf : ∀ n, n < 16 → hexV (f n).toNat = some n) (hd : (f 13).toNat = 100 ∨ (f 13).toNat = 68) (r a b : Nat) (ha : 55296 ≤ a ∧ a ≤ 56319) (hb : 56320 ≤ b ∧ b ≤ 57343) (hp : pairN a b = r) :
    runI insT (uL f a ++ uL f b) = (insT, encL r) := by
  rw [runI_append, run_u f hf a (by omega), if_neg (by omega), if_pos ha]
  simp only [List.nil_append]
  rw [run_low f hf hd a b hb, hp]
/-- The signs: how long, and what is behind a backslash. -/
theorem esc_len : ∀ b : Fin 128, (escB (UInt8.ofNat b.val)).length = if b.val = 34 ∨ b.val = 92 ∨ 8 ≤ b.val ∧ b.val ≤ 10 ∨ b.val = 12 ∨ b.val = 13 then 2 else if b.val < 32 then 6 else 1 := by decide +kernel
theorem run_back (c : UInt8) : runI insT [92, c] = stepI .back c := by rw [runI_cons, show stepI insT 92 = (.back, []) by decide]; simp [runI_one]
/-- No byte below 32, and no quote but behind a backslash. -/
theorem escB_inside (b x : UInt8) (h : x ∈ escB b) : 32 ≤ x.toNat := by
  have hD : ∀ n : Fin 16, 32 ≤ (hexD n.val).toNat := by decide +kernel
  have hb := b.toNat_lt
  have q1 := hD ⟨b.toNat / 16 % 16, by omega⟩
  have q2 := hD ⟨b.toNat % 16, by omega⟩
  unfold escB at h
  by_cases c1 : b.toNat = 34 ∨ b.toNat = 92
  · rw [if_pos c1] at h
    simp only [List.mem_cons, List.not_mem_nil, or_false] at h
    rcases h with rfl | rfl
    · decide
    · omega
  · rw [if_neg c1] at h
    by_cases c2 : b.toNat < 32
    · rw [if_pos c2] at h
      have e : b.toNat / 16 % 16 = b.toNat / 16 := by omega
      simp only [e] at q1
      revert h
      repeat' split
      all_goals intro h
      all_goals simp only [List.mem_cons, List.not_mem_nil, or_false] at h
      all_goals first | (rcases h with rfl | rfl <;> decide) | (rcases h with rfl | rfl | rfl | rfl | rfl | rfl <;> first | assumption | decide)
    · rw [if_neg (by omega), if_neg (by omega), if_neg (by omega), if_neg (by omega), if_neg (by omega), if_neg c2] at h
      simp only [List.mem_cons, List.not_mem_nil, or_false] at h
      subst h
      omega
theorem escW_inside (l : List UInt8) (x : UInt8) (h : x ∈ escW l) : 32 ≤ x.toNat := by
  unfold escW at h
  obtain ⟨b, _, hb⟩ := List.mem_flatMap.1 h
  exact escB_inside b x hb
theorem escB_len (b : UInt8) : (escB b).length ≤ 6 := by
  unfold escB
  repeat' split
  all_goals simp
theorem escW_len (l : List UInt8) : (escW l).length ≤ 6 * l.length := by
  induction l with
  | nil => simp [escW]
  | cons b t ih =>
    rw [escW_cons, List.length_append, List.length_cons]
    have := escB_len b
    omega
end Go.Proofs.Ytonjdnahplphhaa
/-
  NO PROGRAM NEEDED: the machine of decimal.Number over bytes; digits there and back; their order.
-/
namespace Go.Proofs.Ytonjdnahplphhaa
open Go.Lib
/-- A Number: behind an error (true: a float; false: no form), or at a place (0 the beginning, 1 behind a minus, 2 behind a first 0, 3 behind another digit), with its minus and the number that its digits say. -/
inductive Dec
  | bad (f : Bool)
  | num (p : Nat) (m : Bool) (v : Nat)
/-- What a byte does, and whether it is taken. -/
def stepD : Dec → Nat → Dec × Bool
  | .bad f, _ => (.bad f, false)
  | .num p m v, b =>
    if b = 45 ∧ p = 0 then (.num 1 true v, true)
    else if (48 ≤ b ∧ b ≤ 57) ∧ p ≠ 2 then (if b = 48 ∧ p < 2 then (.num 2 m v, true) else (.num 3 m (v * 10 + (b - 48)), true))
    else if (48 ≤ b ∧ b ≤ 57) ∨ p < 2 then (.bad false, false)
    else if b = 46 ∨ b = 101 ∨ b = 69 then (.bad true, false)
    else (.num p m v, false)
def errD : Dec → Nat
  | .bad true => 6
  | .bad false => 2
  | .num _ _ _ => 0
def WfD : Dec → Prop
  | .bad _ => True
  | .num p m v => p ≤ 3 ∧ (p ≤ 2 → v = 0) ∧ (p = 3 → 1 ≤ v) ∧ (p = 0 → m = false) ∧ (p = 1 → m = true)
theorem wf_stepD (s : Dec) (b : Nat) (h : WfD s) : WfD (stepD s b).1 := by
  cases s with
  | bad f => trivial
  | num p m v =>
    obtain ⟨h1, h2, h3, h4, h5⟩ := h
    simp only [stepD]
    split
    · exact ⟨by omega, fun _ => h2 (by omega), by omega, by omega, fun _ => rfl⟩
    · split
      · split
        · exact ⟨by omega, fun _ => h2 (by omega), by omega, by omega, by omega⟩
        · rename_i q1 q2 q3
          refine ⟨by omega, by omega, fun _ => ?_, by omega, by omega⟩
          by_cases h : p = 3
          · have := h3 h; omega
          · have := h2 (by omega); omega
      · split
        · trivial
        · split
          · trivial
          · exact ⟨h1, h2, h3, h4, h5⟩
/-- The end: whether below 0, the rest; the error. -/
def endD : Dec → (Bool × Nat) × Nat
  | .bad f => ((false, 0), errD (.bad f))
  | .num p m v =>
    if p < 2 then ((false, 0), 2)
    else if m = true ∧ p ≠ 2 then (if v ≤ 18446744073709551616 then ((true, v - 1), 0) else ((false, 0), 7))
    else if v < 18446744073709551616 then ((false, v), 0) else ((false, 0), 7)
/-- All of a text. -/
def parseD : Dec → List UInt8 → (Bool × Nat) × Nat
  | s, [] => endD s
  | s, b :: t =>
    if errD (stepD s b.toNat).1 = 0 then (if (stepD s b.toNat).2 then parseD (stepD s b.toNat).1 t else ((false, 0), 2))
    else ((false, 0), errD (stepD s b.toNat).1)
def d0 : Dec := .num 0 false 0
def printD (p : Bool × Nat) : List UInt8 := if p.1 then 45 :: decDigits (p.2 + 1) else decDigits p.2
theorem parse_taken {s s' : Dec} {b : UInt8} {t : List UInt8} (h : stepD s b.toNat = (s', true)) (he : errD s' = 0) : parseD s (b :: t) = parseD s' t := by
  rw [parseD, h]
  simp [he]
theorem parse_err {s : Dec} {b : UInt8} {t : List UInt8} {e : Nat} (he : errD (stepD s b.toNat).1 = e) (h : e ≠ 0) : parseD s (b :: t) = ((false, 0), e) := by
  rw [parseD, he, if_neg h]
/-- Digits. -/
theorem dig_toNat (d : Nat) (h : d < 10) : (UInt8.ofNat (48 + d)).toNat = 48 + d := by simp; omega
theorem dec_big {u : Nat} (h : 10 ≤ u) : decDigits u = decDigits (u / 10) ++ [UInt8.ofNat (48 + u % 10)] := by rw [decDigits, dif_neg (by omega)]
theorem dec_ne (u : Nat) : decDigits u ≠ [] := by
  intro h
  have := decDigits_length u
  have := nDigits_pos u
  rw [h] at *
  simp at *
  omega
theorem step_dig3 (m : Bool) (v d : Nat) (h : d < 10) : stepD (.num 3 m v) (UInt8.ofNat (48 + d)).toNat = (.num 3 m (v * 10 + d), true) := by
  rw [dig_toNat d h]
  simp only [stepD]
  rw [if_neg (by omega), if_pos ⟨by omega, by omega⟩, if_neg (by omega), show 48 + d - 48 = d by omega]
theorem step_dig1 (p : Nat) (m : Bool) (d : Nat) (h : d < 10) (hd : 1 ≤ d) (hp : p < 2) : stepD (.num p m 0) (UInt8.ofNat (48 + d)).toNat = (.num 3 m d, true) := by
  rw [dig_toNat d h]
  simp only [stepD]
  rw [if_neg (by omega), if_pos ⟨by omega, by omega⟩, if_neg (by omega), show 0 * 10 + (48 + d - 48) = d by omega]
theorem step_zero (p : Nat) (m : Bool) (hp : p < 2) : stepD (.num p m 0) 48 = (.num 2 m 0, true) := by
  simp only [stepD]
  rw [if_neg (by omega), if_pos ⟨by omega, by omega⟩, if_pos ⟨by trivial, hp⟩]
/-- All of whose bytes are taken. -/
inductive Runs : Dec → List UInt8 → Dec → Prop
  | nil (s : Dec) : Runs s [] s
  | cons {s s' r : Dec} {b : UInt8} {t : List UInt8} (h : stepD s b.toNat = (s', true)) (he : errD s' = 0) (k : Runs s' t r) : Runs s (b :: t) r
theorem Runs.append {s r q : Dec} {l k : List UInt8} (h : Runs s l r) (g : Runs r k q) : Runs s (l ++ k) q := by
  induction h with
  | nil s => exact g
  | cons h he _ ih => exact .cons h he (ih g)
theorem Runs.parse {s r : Dec} {l : List UInt8} (h : Runs s l r) (t : List UInt8) : parseD s (l ++ t) = parseD r t := by
  induction h with
  | nil s => rfl
  | cons h he _ ih => rw [List.cons_append, parse_taken h he, ih]
theorem Runs.all {s r : Dec} {l : List UInt8} (h : Runs s l r) : parseD s l = endD r := by
  have := h.parse []
  rw [List.append_nil] at this
  rw [this]
  rfl
theorem runs_one {s s' : Dec} {b : UInt8} (h : stepD s b.toNat = (s', true)) (he : errD s' = 0) : Runs s [b] s' := .cons h he (.nil _)
theorem runs_digits (p : Nat) (m : Bool) (hp : p < 2) : ∀ u : Nat, 1 ≤ u → Runs (.num p m 0) (decDigits u) (.num 3 m u) := by
  intro u
  induction u using Nat.strongRecOn with
  | _ u ih =>
    intro hu
    by_cases h : u < 10
    · rw [decDigits_one h]
      exact runs_one (step_dig1 p m u h hu hp) rfl
    · rw [dec_big (by omega)]
      refine (ih (u / 10) (by omega) (by omega)).append (runs_one ?_ rfl)
      rw [step_dig3 m _ _ (by omega)]
      congr 2
      omega
theorem runs_zero (p : Nat) (m : Bool) (hp : p < 2) : Runs (.num p m 0) (decDigits 0) (.num 2 m 0) := by
  rw [decDigits_one (by omega)]
  exact runs_one (step_zero p m hp) rfl
/-- The state behind a number's digits. -/
def atD (_p : Nat) (m : Bool) (u : Nat) : Dec := if u = 0 then .num 2 m 0 else .num 3 m u
theorem runs_dec (p : Nat) (m : Bool) (hp : p < 2) (u : Nat) : Runs (.num p m 0) (decDigits u) (atD p m u) := by
  unfold atD
  split
  · rename_i h; subst h; exact runs_zero p m hp
  · exact runs_digits p m hp u (by omega)
theorem runs_minus : Runs d0 [45] (.num 1 true 0) := runs_one rfl rfl
theorem runs_neg (u : Nat) : Runs d0 (45 :: decDigits u) (atD 1 true u) := runs_minus.append (runs_dec 1 true (by omega) u)
/-- What a number that is printed leaves. -/
def prD (w : Bool × Nat) : Dec := if w.1 then .num 3 true (w.2 + 1) else atD 0 false w.2
theorem runs_print (w : Bool × Nat) : Runs d0 (printD w) (prD w) := by
  obtain ⟨m, v⟩ := w
  unfold printD prD
  cases m with
  | true =>
    have := runs_neg (v + 1)
    unfold atD at this
    rw [if_neg (by omega)] at this
    exact this
  | false => exact runs_dec 0 false (by omega) v
theorem end_print (w : Bool × Nat) (h : w.2 < 18446744073709551616) : endD (prD w) = (w, 0) := by
  obtain ⟨m, v⟩ := w
  simp only [] at h
  cases m with
  | true =>
    simp only [prD, if_true, endD]
    rw [if_neg (by omega), if_pos ⟨by trivial, by omega⟩, if_pos (by omega)]
    rfl
  | false =>
    simp only [prD, Bool.false_eq_true, if_false, atD]
    split
    · rename_i h0; subst h0; rfl
    · simp only [endD]
      rw [if_neg (by omega), if_neg (by simp), if_pos h]
theorem parse_print (w : Bool × Nat) (h : w.2 < 18446744073709551616) : parseD d0 (printD w) = (w, 0) := by rw [(runs_print w).all, end_print w h]
theorem prD_digit (w : Bool × Nat) : ∃ p m v, prD w = .num p m v ∧ 2 ≤ p := by
  obtain ⟨m, v⟩ := w
  cases m with
  | true => exact ⟨3, true, v + 1, rfl, by omega⟩
  | false =>
    unfold prD atD
    simp only [Bool.false_eq_true, if_false]
    split
    · exact ⟨_, _, _, rfl, by omega⟩
    · exact ⟨_, _, _, rfl, by omega⟩
/-- What bytes stand for a state. -/
def Own : Dec → List UInt8 → Prop
  | .bad _, _ => False
  | .num p m v, l => l = (if m then [45] else []) ++ (if p < 2 then [] else decDigits v)
theorem own_step {s s' : Dec} {l : List UInt8} {b : UInt8} (hw : WfD s) (h : Own s l) (hs : stepD s b.toNat = (s', true)) : Own s' (l ++ [b]) := by
  cases s with
  | bad f => exact h.elim
  | num p m v =>
    obtain ⟨h1, h2, h3, h4, h5⟩ := hw
    simp only [Own] at h
    subst h
    have hb : b = UInt8.ofNat b.toNat := by simp
    have hbl := b.toNat_lt
    generalize b.toNat = n at *
    subst hb
    simp only [stepD] at hs
    split at hs
    · rename_i q
      obtain ⟨rfl, rfl⟩ := q
      simp only [Prod.mk.injEq, and_true] at hs
      subst hs
      have := h4 rfl
      subst this
      simp [Own]
    · split at hs
      · split at hs
        · rename_i q1 q2 q3
          obtain ⟨rfl, hp⟩ := q3
          simp only [Prod.mk.injEq, and_true] at hs
          subst hs
          have := h2 (by omega)
          subst this
          simp only [Own]
          rw [if_pos hp, if_neg (show ¬ 2 < 2 by omega), decDigits_one (by omega), List.append_nil]
        · rename_i q1 q2 q3
          simp only [Prod.mk.injEq, and_true] at hs
          subst hs
          simp only [Own]
          rw [if_neg (show ¬ 3 < 2 by omega)]
          obtain ⟨d, rfl⟩ : ∃ d, n = 48 + d := ⟨n - 48, by omega⟩
          rw [show 48 + d - 48 = d by omega]
          by_cases hp : p < 2
          · have := h2 (by omega)
            subst this
            rw [if_pos hp, List.append_nil, show 0 * 10 + d = d by omega, decDigits_one (by omega)]
          · have hp3 : p = 3 := by omega
            have := h3 hp3
            rw [if_neg hp, dec_big (u := v * 10 + d) (by omega), show (v * 10 + d) / 10 = v by omega, show (v * 10 + d) % 10 = d by omega, List.append_assoc]
      · split at hs
        · simp at hs
        · split at hs
          · simp at hs
          · simp at hs
theorem own_end {s : Dec} {l : List UInt8} {y : Bool × Nat} (hw : WfD s) (h : Own s l) (he : endD s = (y, 0)) : printD y = l ∨ l = [45, 48] ∧ y = (false, 0) := by
  cases s with
  | bad f => exact h.elim
  | num p m v =>
    obtain ⟨h1, h2, h3, h4, h5⟩ := hw
    simp only [Own] at h
    subst h
    simp only [endD] at he
    split at he
    · simp at he
    · rename_i hp
      split at he
      · rename_i q
        obtain ⟨rfl, hq⟩ := q
        split at he
        · simp only [Prod.mk.injEq, and_true] at he
          subst he
          have := h3 (by omega)
          simp only [printD, if_true]
          rw [if_neg hp, show v - 1 + 1 = v by omega]
          exact .inl rfl
        · simp at he
      · rename_i q
        split at he
        · simp only [Prod.mk.injEq, and_true] at he
          subst he
          rw [if_neg hp]
          cases m with
          | false => exact .inl rfl
          | true =>
            have hp2 : p = 2 := by
              by_cases h : p = 2
              · exact h
              · exact absurd ⟨rfl, h⟩ q
            have := h2 (by omega)
            subst this
            exact .inr ⟨by rw [decDigits_one (by omega)]; rfl, rfl⟩
        · simp at he
theorem parse_back (l : List UInt8) : ∀ (s : Dec) (k : List UInt8) (y : Bool × Nat), WfD s → Own s k → parseD s l = (y, 0) → printD y = k ++ l ∨ k ++ l = [45, 48] ∧ y = (false, 0) := by
  induction l with
  | nil =>
    intro s k y hw ho h
    rw [List.append_nil]
    exact own_end hw ho h
  | cons b t ih =>
    intro s k y hw ho h
    rw [parseD] at h
    split at h
    · split at h
      · rename_i h1 h2
        have hs : stepD s b.toNat = ((stepD s b.toNat).1, true) := by rw [← h2]
        have := ih _ _ y (wf_stepD s b.toNat hw) (own_step hw ho hs) h
        simpa using this
      · simp at h
    · rename_i h1
      simp only [Prod.mk.injEq] at h
      exact absurd h.2 h1
theorem own0 : Own d0 [] := rfl
theorem wf0 : WfD d0 := ⟨by omega, fun _ => rfl, by omega, fun _ => rfl, by omega⟩
theorem print_parse (l : List UInt8) (y : Bool × Nat) (h : parseD d0 l = (y, 0)) : printD y = l ∨ l = [45, 48] ∧ y = (false, 0) := parse_back l d0 [] y wf0 own0 h
theorem end_lt (s : Dec) : (endD s).1.2 < 18446744073709551616 := by
  unfold endD
  repeat' split
  all_goals first | (simp only []; omega) | (show 0 < _; decide)
theorem parse_lt (l : List UInt8) : ∀ s, (parseD s l).1.2 < 18446744073709551616 := by
  induction l with
  | nil => exact end_lt
  | cons b t ih =>
    intro s
    rw [parseD]
    split
    · split
      · exact ih _
      · show 0 < _; decide
    · show 0 < _; decide
end Go.Proofs.Ytonjdnahplphhaa
/-
  NO PROGRAM NEEDED: JSON cut into tokens, as a machine over bytes (on the machines of EscPure and DecPure); strings that were written so, numbers, words, blanks.
-/
namespace Go.Proofs.Ytonjdnahplphhaa
open Go.Lib
/-- A token: its kind (a byte), its text, its number. -/
structure Tk where
  k : Nat
  t : List UInt8
  n : Bool × Nat
deriving DecidableEq
/-- Between tokens; within a string (its Reader, its text so far), a number, a word (its kind, the bytes that it lacks); behind an error. -/
inductive Lx
  | idle
  | str (s : Ins) (t : List UInt8)
  | num (d : Dec)
  | word (k : Nat) (r : List Nat)
  | bad (e : Nat)
def sgnT (k : Nat) : Tk := ⟨k, [], (false, 0)⟩
def isSgn (b : Nat) : Bool := b == 123 || b == 125 || b == 91 || b == 93 || b == 58 || b == 44
def isBlank (b : Nat) : Bool := b == 32 || b == 9 || b == 10 || b == 13
/-- A byte between tokens. -/
def startX (b : Nat) : Lx × List Tk :=
  if isBlank b = true then (.idle, []) else if isSgn b = true then (.idle, [sgnT b]) else if b = 34 then (.str insT [], [])
  else if b = 45 ∨ 48 ≤ b ∧ b ≤ 57 then (.num (stepD d0 b).1, [])
  else if b = 116 then (.word 116 [114, 117, 101], []) else if b = 102 then (.word 102 [97, 108, 115, 101], []) else if b = 110 then (.word 48 [117, 108, 108], []) else (.bad 2, [])
def insE : Ins → Nat
  | .bad true => 9
  | .bad false => 2
  | _ => 0
/-- What is told behind a byte: with an error no tokens. -/
def tellX (pre_ : List Tk) : Lx × List Tk → Lx × List Tk
  | (.bad e, _) => (.bad e, [])
  | (s, l) => (s, pre_ ++ l)
def stepX : Lx → UInt8 → Lx × List Tk
  | .bad e, _ => (.bad e, [])
  | .idle, b => startX b.toNat
  | .str s t, b =>
    if b.toNat = 34 ∧ wholeI s = true then (.idle, [⟨115, t, (false, 0)⟩])
    else if insE (stepI s b).1 ≠ 0 then (.bad (insE (stepI s b).1), [])
    else if 200 < (t ++ (stepI s b).2).length then (.bad 5, []) else (.str (stepI s b).1 (t ++ (stepI s b).2), [])
  | .num d, b =>
    if errD (stepD d b.toNat).1 ≠ 0 then (.bad (errD (stepD d b.toNat).1), [])
    else if (stepD d b.toNat).2 = true then (.num (stepD d b.toNat).1, [])
    else if (endD d).2 ≠ 0 then (.bad (endD d).2, []) else tellX [⟨110, [], (endD d).1⟩] (startX b.toNat)
  | .word k r, b =>
    match r with
    | [] => (.bad 2, [])
    | x :: q => if b.toNat = x then (if q = [] then (.idle, [sgnT k]) else (.word k q, [])) else (.bad 2, [])
def runX : Lx → List UInt8 → Lx × List Tk
  | s, [] => (s, [])
  | s, b :: t => ((runX (stepX s b).1 t).1, (stepX s b).2 ++ (runX (stepX s b).1 t).2)
/-- At the end: the tokens, the error. -/
def endX : Lx → List Tk × Nat
  | .idle => ([], 0)
  | .num d => if (endD d).2 ≠ 0 then ([], (endD d).2) else ([⟨110, [], (endD d).1⟩], 0)
  | .str _ _ => ([], 3)
  | .word _ _ => ([], 3)
  | .bad e => ([], e)
def heldX : Lx → Nat
  | .str _ t => t.length
  | _ => 0
theorem runX_cons (s : Lx) (b : UInt8) (t : List UInt8) : runX s (b :: t) = ((runX (stepX s b).1 t).1, (stepX s b).2 ++ (runX (stepX s b).1 t).2) := rfl
theorem runX_append (s : Lx) (a b : List UInt8) : runX s (a ++ b) = ((runX (runX s a).1 b).1, (runX s a).2 ++ (runX (runX s a).1 b).2) := by
  induction a generalizing s with
  | nil => simp [runX]
  | cons x t ih => simp only [List.cons_append, runX_cons, ih, List.append_assoc]
theorem runX_snoc (s : Lx) (l : List UInt8) (i : Nat) (h : i < l.length) : runX s (l.take (i + 1)) = ((stepX (runX s (l.take i)).1 l[i]).1, (runX s (l.take i)).2 ++ (stepX (runX s (l.take i)).1 l[i]).2) := by
  rw [List.take_add_one, List.getElem?_eq_getElem h, runX_append]
  simp [runX]
theorem runX_bad (e : Nat) (l : List UInt8) : runX (.bad e) l = (.bad e, []) := by
  induction l with
  | nil => rfl
  | cons b t ih => rw [runX_cons]; simp only [stepX, ih, List.append_nil]
/-! ### A string that was written so -/
/-- A Reader that comes to its end without an error had none on its way, and what it told on its way is a beginning of all. -/
theorem mid_ok (l k : List UInt8) (r : List UInt8) (h : runI insT (l ++ k) = (insT, r)) : insE (runI insT l).1 = 0 ∧ ∃ q, r = (runI insT l).2 ++ q := by
  rw [runI_append] at h
  simp only [Prod.mk.injEq] at h
  refine ⟨?_, _, h.2.symm⟩
  cases hs : (runI insT l).1 with
  | bad u =>
    rw [hs, runI_bad] at h
    cases h.1
  | text _ _ _ => rfl
  | back => rfl
  | hex _ _ => rfl
  | high _ _ _ => rfl
theorem whole_quote (s : Ins) (b : UInt8) (hw : wholeI s = true) (hb : b.toNat = 34) : insE (stepI s b).1 ≠ 0 := by
  cases s with
  | text n lo hi =>
    cases n with
    | zero => simp only [stepI]; rw [if_pos (.inl hb)]; decide
    | succ n => cases hw
  | back => cases hw
  | hex _ _ => cases hw
  | high _ _ _ => cases hw
  | bad _ => cases hw
/-- The state behind a beginning of a string's inside. -/
def strX (p : Ins × List UInt8) : Lx := if 200 < p.2.length then .bad 5 else .str p.1 p.2
theorem str_step (l k r : List UInt8) (b : UInt8) (h : runI insT (l ++ b :: k) = (insT, r)) : stepX (.str (runI insT l).1 (runI insT l).2) b = (strX (runI insT (l ++ [b])), []) := by
  have h1 : l ++ b :: k = (l ++ [b]) ++ k := by simp
  have hm := (mid_ok (l ++ [b]) k r (by rw [← h1]; exact h)).1
  have hs : runI insT (l ++ [b]) = ((stepI (runI insT l).1 b).1, (runI insT l).2 ++ (stepI (runI insT l).1 b).2) := by rw [runI_append, runI_one]
  rw [hs] at hm ⊢
  simp only at hm
  simp only [stepX, strX]
  rw [if_neg (fun hq => whole_quote _ _ hq.2 hq.1 hm), if_neg (fun hq => hq hm)]
  split <;> rfl
/-- Within a string that was written so: no token, no error but that it is too long. -/
theorem str_run (w r : List UInt8) (h : runI insT w = (insT, r)) : ∀ i, i ≤ w.length → runX (.str insT []) (w.take i) = (strX (runI insT (w.take i)), []) := by
  intro i
  induction i with
  | zero => intro _; rfl
  | succ i ih =>
    intro hi
    have ih := ih (by omega)
    rw [runX_snoc _ _ _ hi, ih]
    have hw : w = w.take i ++ w[i] :: w.drop (i + 1) := by rw [List.getElem_cons_drop, List.take_append_drop]
    have ht : w.take (i + 1) = w.take i ++ [w[i]] := by rw [List.take_add_one, List.getElem?_eq_getElem hi]; rfl
    rw [ht]
    unfold strX
    by_cases hl : 200 < (runI insT (w.take i)).2.length
    · rw [if_pos hl]
      have : 200 < (runI insT (w.take i ++ [w[i]])).2.length := by
        rw [runI_append]
        simp only [List.length_append]
        omega
      rw [if_pos this]
      rfl
    · rw [if_neg hl]
      have := str_step (w.take i) (w.drop (i + 1)) r w[i] (by rw [← hw]; exact h)
      simp only [this]
      rfl
theorem str_part (w r : List UInt8) (h : runI insT w = (insT, r)) (i : Nat) : (runI insT (w.take i)).2.length ≤ r.length := by
  obtain ⟨_, q, hq⟩ := mid_ok (w.take i) (w.drop i) r (by rw [List.take_append_drop]; exact h)
  rw [hq, List.length_append]
  omega
/-- A string of a text that is UTF-8, as it is written: within it no token. -/
theorem quote_in (l : List UInt8) (hv : validD l = true) (i : Nat) (hi : i ≤ (escW l).length) : runX .idle ((34 :: escW l).take (i + 1)) = (strX (runI insT ((escW l).take i)), []) := by
  have h := str_run (escW l) l (read_write l hv) i hi
  rw [List.take_succ_cons, runX_cons, show stepX .idle 34 = (.str insT [], []) from rfl, h]
  rfl
/-- At its last quote the token, unless it is too long. -/
theorem quote_end (l : List UInt8) (hv : validD l = true) (hl : l.length ≤ 200) : runX .idle (34 :: escW l ++ [34]) = (.idle, [⟨115, l, (false, 0)⟩]) := by
  have h := quote_in l hv (escW l).length (Nat.le_refl _)
  rw [List.take_of_length_le (by simp), List.take_of_length_le (Nat.le_refl _), read_write l hv] at h
  rw [runX_append, h]
  unfold strX
  rw [if_neg (by simp only; omega)]
  rfl
theorem quote_long (l : List UInt8) (hv : validD l = true) (hl : 200 < l.length) : (runX .idle (34 :: escW l)).1 = .bad 5 := by
  have h := quote_in l hv (escW l).length (Nat.le_refl _)
  rw [List.take_of_length_le (by simp), List.take_of_length_le (Nat.le_refl _), read_write l hv] at h
  rw [h]
  unfold strX
  rw [if_pos hl]
/-! ### Numbers -/
theorem num_runs {s r : Dec} {l : List UInt8} (h : Runs s l r) : runX (.num s) l = (.num r, []) := by
  induction h with
  | nil => rfl
  | cons hs he _ ih =>
    rw [runX_cons]
    simp only [stepX, hs, he]
    simp only [ne_eq, not_true_eq_false, if_false, if_true, ih, List.append_nil]
theorem start_num {b : Nat} {s : Dec} (h : stepD d0 b = (s, true)) : startX b = (.num s, []) := by
  have hb : b = 45 ∨ 48 ≤ b ∧ b ≤ 57 := by
    simp only [d0, stepD] at h
    split at h
    · omega
    · split at h
      · omega
      · split at h
        · simp at h
        · split at h <;> simp at h
  unfold startX
  rw [if_neg (by simp only [isBlank, Bool.or_eq_true, beq_iff_eq]; omega), if_neg (by simp only [isSgn, Bool.or_eq_true, beq_iff_eq]; omega), if_neg (by omega), if_pos hb, h]
def numT (w : Bool × Nat) : Tk := ⟨110, [], w⟩
/-- A number that is printed: no token of it so far. -/
theorem num_in {l : List UInt8} {r : Dec} (h : Runs d0 l r) (hl : l ≠ []) : runX .idle l = (.num r, []) := by
  cases h with
  | nil => exact absurd rfl hl
  | cons hs he hk =>
    rw [runX_cons, show stepX .idle _ = startX _ from rfl, start_num hs]
    simp only
    rw [num_runs hk]
    rfl
theorem runs_take {s r : Dec} {l : List UInt8} (h : Runs s l r) : ∀ i, ∃ q, Runs s (l.take i) q := by
  induction h with
  | nil s => intro i; exact ⟨s, by simp; exact .nil s⟩
  | cons hs he _ ih =>
    intro i
    cases i with
    | zero => exact ⟨_, .nil _⟩
    | succ i =>
      obtain ⟨q, hq⟩ := ih i
      exact ⟨q, .cons hs he hq⟩
/-- A byte that is no digit, no point, no exponent, behind a number that is printed. -/
theorem step_off (w : Bool × Nat) {c : Nat} (h1 : c < 48 ∨ 57 < c) (h2 : c ≠ 45) (h3 : c ≠ 46) (h4 : c ≠ 101) (h5 : c ≠ 69) : stepD (prD w) c = (prD w, false) := by
  obtain ⟨p, m, v, hp, h0⟩ := prD_digit w
  rw [hp]
  simp only [stepD]
  rw [if_neg (by omega), if_neg (by omega), if_neg (by omega), if_neg (by omega)]
theorem num_blank (w : Bool × Nat) (hw : w.2 < 18446744073709551616) (c : UInt8) (hc : isBlank c.toNat = true) : stepX (.num (prD w)) c = (.idle, [numT w]) := by
  simp only [isBlank, Bool.or_eq_true, beq_iff_eq] at hc
  have hs := step_off w (c := c.toNat) (by omega) (by omega) (by omega) (by omega) (by omega)
  obtain ⟨p, m, v, hp, h0⟩ := prD_digit w
  simp only [stepX, hs]
  rw [if_neg (by rw [hp]; exact fun h => h rfl), if_neg (by decide), if_neg (by rw [end_print w hw]; exact fun h => h rfl), end_print w hw]
  unfold startX
  rw [if_pos (by simp only [isBlank, Bool.or_eq_true, beq_iff_eq]; omega)]
  rfl
theorem num_sign (w : Bool × Nat) (hw : w.2 < 18446744073709551616) (c : UInt8) (hc : isSgn c.toNat = true) : stepX (.num (prD w)) c = (.idle, [numT w, sgnT c.toNat]) := by
  simp only [isSgn, Bool.or_eq_true, beq_iff_eq] at hc
  have hs := step_off w (c := c.toNat) (by omega) (by omega) (by omega) (by omega) (by omega)
  obtain ⟨p, m, v, hp, h0⟩ := prD_digit w
  simp only [stepX, hs]
  rw [if_neg (by rw [hp]; exact fun h => h rfl), if_neg (by decide), if_neg (by rw [end_print w hw]; exact fun h => h rfl), end_print w hw]
  unfold startX
  rw [if_neg (by simp only [isBlank, Bool.or_eq_true, beq_iff_eq]; omega), if_pos (by simp only [isSgn, Bool.or_eq_true, beq_iff_eq]; omega)]
  rfl
theorem num_end (w : Bool × Nat) (hw : w.2 < 18446744073709551616) : endX (.num (prD w)) = ([numT w], 0) := by
  simp only [endX]
  rw [if_neg (by rw [end_print w hw]; exact fun h => h rfl), end_print w hw]
  rfl
/-! ### Words -/
/-- The eleven of LexerBlanks: each is one token, at its last byte. -/
def blankW : List (List UInt8 × Tk) := [([123], sgnT 123), ([125], sgnT 125), ([91], sgnT 91), ([93], sgnT 93), ([58], sgnT 58), ([44], sgnT 44), ([34, 97, 32, 98, 34], ⟨115, [97, 32, 98], (false, 0)⟩),
  ([116, 114, 117, 101], sgnT 116), ([102, 97, 108, 115, 101], sgnT 102), ([110, 117, 108, 108], sgnT 48), ([34, 34], ⟨115, [], (false, 0)⟩)]
theorem blank_one : ∀ i : Fin 11, runX .idle (blankW[i.val]'(by simp [blankW])).1 = (.idle, [(blankW[i.val]'(by simp [blankW])).2]) := by
  intro i
  match i with
  | ⟨0, _⟩ => rfl
  | ⟨1, _⟩ => rfl
  | ⟨2, _⟩ => rfl
  | ⟨3, _⟩ => rfl
  | ⟨4, _⟩ => rfl
  | ⟨5, _⟩ => rfl
  | ⟨6, _⟩ => rfl
  | ⟨7, _⟩ => rfl
  | ⟨8, _⟩ => rfl
  | ⟨9, _⟩ => rfl
  | ⟨10, _⟩ => rfl
theorem blank_none (b : UInt8) (h : isBlank b.toNat = true) : stepX .idle b = (.idle, []) := by
  simp only [stepX, startX]
  rw [if_pos h]
theorem blanks_run (l : List UInt8) (h : ∀ b ∈ l, isBlank b.toNat = true) : runX .idle l = (.idle, []) := by
  induction l with
  | nil => rfl
  | cons b l ih =>
    rw [runX_cons, blank_none b (h b (by simp))]
    simp only
    rw [ih (fun x hx => h x (by simp [hx]))]
    rfl
def wordX (i : Nat) : List UInt8 := (blankW[i]?.getD ([], sgnT 0)).1
def tokX (i : Nat) : Tk := (blankW[i]?.getD ([], sgnT 0)).2
theorem word_one (i : Nat) (h : i < 11) : runX .idle (wordX i) = (.idle, [tokX i]) := by
  have := blank_one ⟨i, h⟩
  have hl : i < blankW.length := by simp [blankW]; exact h
  unfold wordX tokX
  rw [List.getElem?_eq_getElem hl]
  exact this
/-- Words, with whatever blanks behind each. -/
theorem words_run (l : List (Nat × List UInt8)) (h : ∀ p ∈ l, p.1 < 11 ∧ ∀ b ∈ p.2, isBlank b.toNat = true) : runX .idle (l.flatMap fun p => wordX p.1 ++ p.2) = (.idle, l.map fun p => tokX p.1) := by
  induction l with
  | nil => rfl
  | cons p l ih =>
    have hp := h p (by simp)
    rw [List.flatMap_cons, runX_append, runX_append, word_one p.1 hp.1]
    simp only
    rw [blanks_run p.2 hp.2]
    simp only
    rw [ih (fun q hq => h q (by simp [hq]))]
    rfl
/-- Where no error is at the end none was on the way. -/
theorem mid_good (s : Lx) (l : List UInt8) (h : ∀ e, (runX s l).1 ≠ .bad e) (i : Nat) : ∀ e, (runX s (l.take i)).1 ≠ .bad e := by
  intro e he
  have h1 : l = l.take i ++ l.drop i := (List.take_append_drop i l).symm
  apply h e
  rw [h1, runX_append, he, runX_bad]
/-- A word with a byte turned. -/
theorem word_off (k x : Nat) (q : List Nat) (b : UInt8) (h : b.toNat ≠ x) : stepX (.word k (x :: q)) b = (.bad 2, []) := by
  simp only [stepX]
  rw [if_neg h]
theorem bad_stays (e : Nat) (b : UInt8) : stepX (.bad e) b = (.bad e, []) := rfl
end Go.Proofs.Ytonjdnahplphhaa
/-
  NO PROGRAM NEEDED: JSON read as parts, as a machine over the lexer's tokens; parts written as JSON; what is written so is read as it was, with blanks or without.
-/
namespace Go.Proofs.Ytonjdnahplphhaa
open Go.Lib
/-- An open container: a map or not; where it stands: an array 0 begun, 1 behind a value, 2 behind a comma; a map 0 begun, 1 behind a key, 2 behind a colon, 3 behind a value, 4 behind a comma. -/
structure FrJ where
  map : Bool
  p : Nat
deriving DecidableEq
inductive Pj
  | bad (e : Nat)
  | at_ (st : List FrJ) (dn : Bool)
/-- May a value come? -/
def readyJ : List FrJ → Bool → Bool
  | [], dn => !dn
  | ⟨false, p⟩ :: _, _ => p == 0 || p == 2
  | ⟨true, p⟩ :: _, _ => p == 2
/-- Behind a value. -/
def paidJ : List FrJ → List FrJ
  | [] => []
  | ⟨false, _⟩ :: r => ⟨false, 1⟩ :: r
  | ⟨true, _⟩ :: r => ⟨true, 3⟩ :: r
def doneJ : List FrJ → Bool
  | [] => true
  | _ => false
/-- A value that is no container. -/
def valJ (st : List FrJ) (dn : Bool) (e : Ev) : Pj × List Ev := if readyJ st dn = true then (.at_ (paidJ st) (doneJ st), [e]) else (.bad 2, [])
def openJ (D : Nat) (st : List FrJ) (dn : Bool) (m : Bool) (e : Ev) : Pj × List Ev :=
  if readyJ st dn = true then (if D ≤ st.length then (.bad 4, []) else (.at_ (⟨m, 0⟩ :: paidJ st) false, [e])) else (.bad 2, [])
def shutJ (m : Bool) : List FrJ → Pj × List Ev
  | ⟨b, p⟩ :: r => if b = m ∧ (p = 0 ∨ p = if m then 3 else 1) then (.at_ r (doneJ r), [evEnd]) else (.bad 2, [])
  | [] => (.bad 2, [])
def commaJ : List FrJ → Pj × List Ev
  | ⟨false, 1⟩ :: r => (.at_ (⟨false, 2⟩ :: r) false, [])
  | ⟨true, 3⟩ :: r => (.at_ (⟨true, 4⟩ :: r) false, [])
  | _ => (.bad 2, [])
def colonJ : List FrJ → Pj × List Ev
  | ⟨true, 1⟩ :: r => (.at_ (⟨true, 2⟩ :: r) false, [])
  | _ => (.bad 2, [])
def evText (t : List UInt8) : Ev := ⟨3, false, 0, ⟨t.toArray⟩, 0⟩
def evNum (w : Bool × Nat) : Ev := ⟨2, w.1, w.2, ⟨#[]⟩, 0⟩
def evBool (b : Bool) : Ev := ⟨1, b, 0, ⟨#[]⟩, 0⟩
def evOpen (m : Bool) : Ev := ⟨if m then 6 else 5, false, 0, ⟨#[]⟩, -1⟩
/-- A string: a key, or a value. -/
def strJ (st : List FrJ) (dn : Bool) (t : List UInt8) : Pj × List Ev :=
  match st with
  | ⟨true, 0⟩ :: r => (.at_ (⟨true, 1⟩ :: r) false, [evText t])
  | ⟨true, 4⟩ :: r => (.at_ (⟨true, 1⟩ :: r) false, [evText t])
  | _ => valJ st dn (evText t)
def tokJ (D : Nat) : Pj → Tk → Pj × List Ev
  | .bad e, _ => (.bad e, [])
  | .at_ st dn, t =>
    if t.k = 44 then commaJ st else if t.k = 58 then colonJ st else if t.k = 93 then shutJ false st else if t.k = 125 then shutJ true st
    else if t.k = 91 then openJ D st dn false (evOpen false) else if t.k = 123 then openJ D st dn true (evOpen true)
    else if t.k = 115 then strJ st dn t.t else if t.k = 110 then valJ st dn (evNum t.n) else if t.k = 116 then valJ st dn (evBool true) else if t.k = 102 then valJ st dn (evBool false) else valJ st dn evNull
def toksJ (D : Nat) : Pj → List Tk → Pj × List Ev
  | p, [] => (p, [])
  | p, t :: r => ((toksJ D (tokJ D p t).1 r).1, (tokJ D p t).2 ++ (toksJ D (tokJ D p t).1 r).2)
structure Js where
  lx : Lx
  p : Pj
def badX : Lx → Option Nat
  | .bad e => some e
  | _ => none
/-- A byte: with a lexer's error no parts. -/
def stepJ (D : Nat) (s : Js) (b : UInt8) : Js × List Ev :=
  match s.p with
  | .bad _ => (s, [])
  | .at_ _ _ => match badX (stepX s.lx b).1 with
    | some e => (⟨.idle, .bad e⟩, [])
    | none => (⟨(stepX s.lx b).1, (toksJ D s.p (stepX s.lx b).2).1⟩, (toksJ D s.p (stepX s.lx b).2).2)
def runJ (D : Nat) : Js → List UInt8 → Js × List Ev
  | s, [] => (s, [])
  | s, b :: t => ((runJ D (stepJ D s b).1 t).1, (stepJ D s b).2 ++ (runJ D (stepJ D s b).1 t).2)
theorem runJ_append (D : Nat) (s : Js) (a b : List UInt8) : runJ D s (a ++ b) = ((runJ D (runJ D s a).1 b).1, (runJ D s a).2 ++ (runJ D (runJ D s a).1 b).2) := by
  induction a generalizing s with
  | nil => simp [runJ]
  | cons x t ih => simp only [List.cons_append, runJ, ih, List.append_assoc]
/-- At the end of all: the parts, the error. -/
def endJ (D : Nat) (s : Js) : List Ev × Nat :=
  match s.p with
  | .bad e => ([], e)
  | .at_ _ _ => if (endX s.lx).2 ≠ 0 then ([], (endX s.lx).2) else match toksJ D s.p (endX s.lx).1 with
    | (.bad e, l) => (l, e)
    | (.at_ _ true, l) => (l, 0)
    | (.at_ _ false, l) => (l, 3)
def allJ (D : Nat) (b : List UInt8) : List Ev × Nat := ((runJ D ⟨.idle, .at_ [] false⟩ b).2 ++ (endJ D (runJ D ⟨.idle, .at_ [] false⟩ b).1).1, (endJ D (runJ D ⟨.idle, .at_ [] false⟩ b).1).2)
/-! ### Bytes of which no token comes -/
theorem run_still (D : Nat) (st : List FrJ) (dn : Bool) : ∀ (bs : List UInt8) (lx lx' : Lx), runX lx bs = (lx', []) → badX lx' = none → runJ D ⟨lx, .at_ st dn⟩ bs = (⟨lx', .at_ st dn⟩, [])
  | [], lx, lx', h, _ => by
    simp only [runX, Prod.mk.injEq] at h
    rw [h.1]
    rfl
  | b :: bs, lx, lx', h, hb => by
    rw [runX_cons] at h
    simp only [Prod.mk.injEq, List.append_eq_nil_iff] at h
    obtain ⟨h1, h2, h3⟩ := h
    have hg : badX (stepX lx b).1 = none := by
      cases hs : (stepX lx b).1 with
      | bad e =>
        rw [hs, runX_bad] at h1
        simp only at h1
        rw [← h1] at hb
        cases hb
      | idle => rfl
      | str _ _ => rfl
      | num _ => rfl
      | word _ _ => rfl
    have hst : stepJ D ⟨lx, .at_ st dn⟩ b = (⟨(stepX lx b).1, .at_ st dn⟩, []) := by
      simp only [stepJ, hg, h2, toksJ]
    have ih := run_still D st dn bs (stepX lx b).1 lx' (by rw [← h1, ← h3]) hb
    simp only [runJ, hst, ih, List.append_nil]
/-- A byte behind which the lexer is between tokens. -/
theorem step_tells (D : Nat) (st : List FrJ) (dn : Bool) (lx : Lx) (b : UInt8) (ts : List Tk) (h : stepX lx b = (.idle, ts)) : stepJ D ⟨lx, .at_ st dn⟩ b = (⟨.idle, (toksJ D (.at_ st dn) ts).1⟩, (toksJ D (.at_ st dn) ts).2) := by
  simp only [stepJ, h, badX]
theorem runJ_one (D : Nat) (s : Js) (b : UInt8) : runJ D s [b] = stepJ D s b := by simp [runJ]
theorem toks_one (D : Nat) (p : Pj) (t : Tk) : toksJ D p [t] = tokJ D p t := by simp [toksJ]
/-- Bytes that are one token, at their last one. -/
theorem run_token (D : Nat) (st : List FrJ) (dn : Bool) (bs : List UInt8) (b : UInt8) (lx' : Lx) (t : Tk) (h : runX .idle bs = (lx', [])) (hb : badX lx' = none) (hs : stepX lx' b = (.idle, [t])) :
    runJ D ⟨.idle, .at_ st dn⟩ (bs ++ [b]) = (⟨.idle, (tokJ D (.at_ st dn) t).1⟩, (tokJ D (.at_ st dn) t).2) := by
  rw [runJ_append, run_still D st dn bs .idle lx' h hb, runJ_one, step_tells D st dn lx' b [t] hs, toks_one]
  simp
/-! ### Parts written as JSON -/
def outW (e : Ev) : List UInt8 :=
  if e.k = 0 then [110, 117, 108, 108] else if e.k = 1 then (if e.y = true then [116, 114, 117, 101] else [102, 97, 108, 115, 101]) else if e.k = 2 then printD (e.y, e.m)
  else if e.k = 3 then 34 :: escW e.t.data.toList ++ [34] else if e.k = 5 then [91] else [123]
def sepW : List Bx → List UInt8
  | [] => []
  | b :: _ => if b.have_ = 0 then [] else if b.map = true ∧ b.have_ % 2 = 1 then [58] else [44]
def writeW (s : List Bx) (e : Ev) : List UInt8 :=
  if e.k = 7 then (match s with
    | [] => []
    | b :: _ => if b.map = true then [125] else [93]) else sepW s ++ outW e
/-- What JSON has, and its reader tells: no bytes; counts that are not known; texts that are UTF-8, of at most 200 bytes. -/
structure GoodW (e : Ev) : Prop where
  kind : e.k = 0 ∨ e.k = 1 ∨ e.k = 2 ∨ e.k = 3 ∨ e.k = 5 ∨ e.k = 6 ∨ e.k = 7
  tidy : tidyE e = e
  open_ : e.k = 5 ∨ e.k = 6 → e.c = -1
  mag : e.m < 18446744073709551616
  text : e.k = 3 → validD e.t.data.toList = true ∧ e.t.data.toList.length ≤ 200
def frB (b : Bx) : FrJ := ⟨b.map, if b.have_ = 0 then 0 else if b.map = true then (if b.have_ % 2 = 1 then 1 else 3) else 1⟩
def frS (s : List Bx) : List FrJ := s.map frB
def pOf : Ck → Pj
  | .bad e => .bad e
  | .live s => .at_ (frS s) false
  | .done => .at_ [] true
/-- The reader behind what was written: between tokens, or within a number that is told ahead of what comes. -/
def RelW (c : Ck) (j : Js) (pend : List Ev) : Prop :=
  (j = ⟨.idle, pOf c⟩ ∧ pend = []) ∨
  ∃ (w : Bool × Nat) (st : List FrJ) (dn : Bool), w.2 < 18446744073709551616 ∧ j = ⟨.num (prD w), .at_ st dn⟩ ∧ readyJ st dn = true ∧ pOf c = .at_ (paidJ st) (doneJ st) ∧ pend = [evNum w]
theorem tok_num (D : Nat) (st : List FrJ) (dn : Bool) (w : Bool × Nat) (h : readyJ st dn = true) : tokJ D (.at_ st dn) (numT w) = (.at_ (paidJ st) (doneJ st), [evNum w]) := by
  simp only [tokJ, numT, valJ, h]
  rfl
theorem rel_sign {D : Nat} {c : Ck} {j : Js} {pend : List Ev} {st : List FrJ} {dn : Bool} (h : RelW c j pend) (hp : pOf c = .at_ st dn) (b : UInt8) (hb : isSgn b.toNat = true) :
    stepJ D j b = (⟨.idle, (tokJ D (.at_ st dn) (sgnT b.toNat)).1⟩, pend ++ (tokJ D (.at_ st dn) (sgnT b.toNat)).2) := by
  rcases h with ⟨rfl, rfl⟩ | ⟨w, st', dn', hw, rfl, hr, hq, rfl⟩
  · rw [hp, step_tells D st dn .idle b [sgnT b.toNat] (by
      simp only [stepX, startX]
      rw [if_neg (by simp only [isSgn, isBlank, Bool.or_eq_true, beq_iff_eq] at hb ⊢; omega), if_pos hb]), toks_one]
    rfl
  · rw [hp] at hq
    rw [step_tells D st' dn' _ b [numT w, sgnT b.toNat] (num_sign w hw b hb)]
    simp only [toksJ, tok_num D st' dn' w hr, ← hq, List.append_nil]
theorem rel_blank {D : Nat} {c : Ck} {j : Js} {pend : List Ev} {st : List FrJ} {dn : Bool} (h : RelW c j pend) (hp : pOf c = .at_ st dn) (b : UInt8) (hb : isBlank b.toNat = true) :
    stepJ D j b = (⟨.idle, .at_ st dn⟩, pend) := by
  rcases h with ⟨rfl, rfl⟩ | ⟨w, st', dn', hw, rfl, hr, hq, rfl⟩
  · rw [hp, step_tells D st dn .idle b [] (blank_none b hb)]
    rfl
  · rw [hp] at hq
    rw [step_tells D st' dn' _ b [numT w] (num_blank w hw b hb)]
    simp only [toksJ, tok_num D st' dn' w hr, ← hq, List.append_nil]
theorem rel_blanks {D : Nat} {c : Ck} {st : List FrJ} {dn : Bool} (hp : pOf c = .at_ st dn) : ∀ (bs : List UInt8) (j : Js) (pend : List Ev), RelW c j pend → (∀ b ∈ bs, isBlank b.toNat = true) →
    ∃ j' ps pend', runJ D j bs = (j', ps) ∧ RelW c j' pend' ∧ pend = ps ++ pend'
  | [], j, pend, h, _ => ⟨j, [], pend, rfl, h, rfl⟩
  | b :: bs, j, pend, h, hb => by
    have h1 := rel_blank (D := D) h hp b (hb b (by simp))
    obtain ⟨j', ps, pend', h2, h3, h4⟩ := rel_blanks (D := D) hp bs ⟨.idle, .at_ st dn⟩ [] (.inl ⟨by rw [hp], rfl⟩) (fun x hx => hb x (by simp [hx]))
    refine ⟨j', pend ++ ps, pend', ?_, h3, ?_⟩
    · simp only [runJ, h1, h2]
    · rw [List.append_assoc, ← h4, List.append_nil]
theorem rel_end {D : Nat} {j : Js} {pend : List Ev} (h : RelW .done j pend) : endJ D j = (pend, 0) := by
  rcases h with ⟨rfl, rfl⟩ | ⟨w, st, dn, hw, rfl, hr, hq, rfl⟩
  · rfl
  · simp only [endJ, num_end w hw]
    simp only [pOf, Pj.at_.injEq] at hq
    rw [toks_one, tok_num D st dn w hr, ← hq.1, ← hq.2]
    rfl
/-- The reader's place behind a comma, or a colon. -/
def sepF : List Bx → List FrJ
  | [] => []
  | b :: r => if b.have_ = 0 then frB b :: frS r else if b.map = true ∧ b.have_ % 2 = 1 then ⟨true, 2⟩ :: frS r else if b.map = true then ⟨true, 4⟩ :: frS r else ⟨false, 2⟩ :: frS r
theorem sep_step (D : Nat) (s : List Bx) (j : Js) (pend : List Ev) (h : RelW (.live s) j pend) : runJ D j (sepW s) = (⟨.idle, .at_ (sepF s) false⟩, pend) := by
  have quiet : (s = [] ∨ ∃ b r, s = b :: r ∧ b.have_ = 0) → j = ⟨.idle, .at_ (frS s) false⟩ ∧ pend = [] := by
    intro hs
    rcases h with h | ⟨w, st, dn, hw, rfl, hr, hq, rfl⟩
    · exact h
    · exfalso
      simp only [pOf, Pj.at_.injEq] at hq
      obtain ⟨h1, h2⟩ := hq
      match st with
      | [] => simp [doneJ] at h2
      | ⟨m, p⟩ :: q =>
        rcases hs with rfl | ⟨b, r, rfl, h0⟩
        · cases m <;> simp [frS, paidJ] at h1
        · cases m <;> simp [frS, paidJ, frB, h0] at h1
  match s, h, quiet with
  | [], h, quiet =>
    obtain ⟨rfl, rfl⟩ := quiet (.inl rfl)
    rfl
  | ⟨m, c, n⟩ :: r, h, quiet =>
    by_cases h0 : n = 0
    · subst h0
      obtain ⟨rfl, rfl⟩ := quiet (.inr ⟨_, _, rfl, rfl⟩)
      simp [sepW, sepF, runJ, frS]
    · cases m with
      | false =>
        have hw : sepW (⟨false, c, n⟩ :: r) = [44] := by simp [sepW, h0]
        have hf : sepF (⟨false, c, n⟩ :: r) = ⟨false, 2⟩ :: frS r := by simp [sepF, h0]
        rw [hw, hf, runJ_one, rel_sign h rfl 44 rfl]
        simp [tokJ, sgnT, frS, frB, h0, commaJ]
      | true =>
        by_cases h2 : n % 2 = 1
        · have hw : sepW (⟨true, c, n⟩ :: r) = [58] := by simp [sepW, h0, h2]
          have hf : sepF (⟨true, c, n⟩ :: r) = ⟨true, 2⟩ :: frS r := by simp [sepF, h0, h2]
          rw [hw, hf, runJ_one, rel_sign h rfl 58 rfl]
          simp [tokJ, sgnT, frS, frB, h0, h2, colonJ]
        · have hw : sepW (⟨true, c, n⟩ :: r) = [44] := by simp [sepW, h0, h2]
          have hf : sepF (⟨true, c, n⟩ :: r) = ⟨true, 4⟩ :: frS r := by simp [sepF, h0, h2]
          rw [hw, hf, runJ_one, rel_sign h rfl 44 rfl]
          simp [tokJ, sgnT, frS, frB, h0, h2, commaJ]
theorem ev_str {e : Ev} (h3 : e.k = 3) (ht : tidyE e = e) : e = evText e.t.data.toList := by
  obtain ⟨k, y, m, t, c⟩ := e
  simp only at h3
  subst h3
  simp [tidyE] at ht
  simp [evText, ← ht]
theorem ev_num {e : Ev} (h2 : e.k = 2) (ht : tidyE e = e) : e = evNum (e.y, e.m) := by
  obtain ⟨k, y, m, t, c⟩ := e
  simp only at h2
  subst h2
  simp [tidyE] at ht
  simp [evNum, ← ht]
theorem ev_bool {e : Ev} (h1 : e.k = 1) (ht : tidyE e = e) : e = evBool e.y := by
  obtain ⟨k, y, m, t, c⟩ := e
  simp only at h1
  subst h1
  simp [tidyE] at ht
  simp [evBool, ← ht]
theorem ev_null {e : Ev} (h0 : e.k = 0) (ht : tidyE e = e) : e = evNull := by
  obtain ⟨k, y, m, t, c⟩ := e
  simp only at h0
  subst h0
  simp [tidyE] at ht
  simp [evNull, ← ht]
theorem ev_end {e : Ev} (h7 : e.k = 7) (ht : tidyE e = e) : e = evEnd := by
  obtain ⟨k, y, m, t, c⟩ := e
  simp only at h7
  subst h7
  simp [tidyE] at ht
  simp [evEnd, ← ht]
theorem ev_open {e : Ev} {m : Bool} (h : e.k = if m then 6 else 5) (ht : tidyE e = e) (hc : e.c = -1) : e = evOpen m := by
  obtain ⟨k, y, mg, t, c⟩ := e
  simp only at h hc
  subst h hc
  cases m <;> simp [tidyE] at ht <;> simp [evOpen, ← ht]
/-- A string, whole. -/
theorem run_str (D : Nat) (st : List FrJ) (dn : Bool) (t : List UInt8) (hv : validD t = true) (hl : t.length ≤ 200) :
    runJ D ⟨.idle, .at_ st dn⟩ (34 :: escW t ++ [34]) = (⟨.idle, (strJ st dn t).1⟩, (strJ st dn t).2) := by
  have h := quote_in t hv (escW t).length (Nat.le_refl _)
  rw [List.take_of_length_le (by simp), List.take_of_length_le (Nat.le_refl _), read_write t hv] at h
  unfold strX at h
  rw [if_neg (by simp only; omega)] at h
  rw [run_token D st dn (34 :: escW t) 34 _ ⟨115, t, (false, 0)⟩ h rfl rfl]
  rfl
/-- A value that is no container, nor a key. -/
theorem run_val (D : Nat) (st : List FrJ) (e : Ev) (h : GoodW e) (hk : e.k = 0 ∨ e.k = 1 ∨ e.k = 2 ∨ e.k = 3) (hr : readyJ st false = true) :
    ∃ j ps pend, runJ D ⟨.idle, .at_ st false⟩ (outW e) = (j, ps) ∧ (∀ c, pOf c = .at_ (paidJ st) (doneJ st) → RelW c j pend) ∧ [e] = ps ++ pend := by
  have word : ∀ (bs : List UInt8) (b : UInt8) (lx' : Lx) (t : Tk) (x : Ev), runX .idle bs = (lx', []) → badX lx' = none → stepX lx' b = (.idle, [t]) → tokJ D (.at_ st false) t = valJ st false x → e = x → outW e = bs ++ [b] →
      ∃ j ps pend, runJ D ⟨.idle, .at_ st false⟩ (outW e) = (j, ps) ∧ (∀ c, pOf c = .at_ (paidJ st) (doneJ st) → RelW c j pend) ∧ [e] = ps ++ pend := by
    intro bs b lx' t x h1 h2 h3 h4 h5 h6
    have hv : valJ st false x = (.at_ (paidJ st) (doneJ st), [x]) := by simp [valJ, hr]
    refine ⟨⟨.idle, .at_ (paidJ st) (doneJ st)⟩, [x], [], ?_, fun c hc => .inl ⟨by rw [hc], rfl⟩, by rw [h5]; rfl⟩
    rw [h6, run_token D st false bs b lx' t h1 h2 h3, h4, hv]
  rcases hk with h0 | h1 | h2 | h3
  · exact word [110, 117, 108] 108 (.word 48 [108]) (sgnT 48) evNull rfl rfl rfl rfl (ev_null h0 h.tidy) (by simp [outW, h0])
  · cases hy : e.y with
    | true => exact word [116, 114, 117] 101 (.word 116 [101]) (sgnT 116) (evBool true) rfl rfl rfl rfl (by rw [← hy]; exact ev_bool h1 h.tidy) (by simp [outW, h1, hy])
    | false => exact word [102, 97, 108, 115] 101 (.word 102 [101]) (sgnT 102) (evBool false) rfl rfl rfl rfl (by rw [← hy]; exact ev_bool h1 h.tidy) (by simp [outW, h1, hy])
  · have ho : outW e = printD (e.y, e.m) := by simp [outW, h2]
    have hne : printD (e.y, e.m) ≠ [] := by
      unfold printD
      split
      · simp
      · exact dec_ne _
    have hrun := num_in (runs_print (e.y, e.m)) hne
    refine ⟨⟨.num (prD (e.y, e.m)), .at_ st false⟩, [], [evNum (e.y, e.m)], ?_, fun c hc => .inr ⟨(e.y, e.m), st, false, h.mag, rfl, hr, hc, rfl⟩, ?_⟩
    · rw [ho]
      exact run_still D st false _ .idle _ hrun rfl
    · rw [← ev_num h2 h.tidy]
      rfl
  · have ho : outW e = 34 :: escW e.t.data.toList ++ [34] := by simp [outW, h3]
    have hs := run_str D st false e.t.data.toList (h.text h3).1 (h.text h3).2
    have hst : strJ st false e.t.data.toList = valJ st false (evText e.t.data.toList) := by
      match st, hr with
      | [], _ => rfl
      | ⟨false, p⟩ :: q, _ => rfl
      | ⟨true, p⟩ :: q, hr =>
        have : p = 2 := by simpa [readyJ] using hr
        subst this
        rfl
    refine ⟨⟨.idle, .at_ (paidJ st) (doneJ st)⟩, [evText e.t.data.toList], [], ?_, fun c hc => .inl ⟨by rw [hc], rfl⟩, by rw [← ev_str h3 h.tidy]; rfl⟩
    rw [ho, hs, hst]
    simp [valJ, hr]
theorem sep_ready (s : List Bx) (h : keyB s = false) : readyJ (sepF s) false = true := by
  match s with
  | [] => rfl
  | ⟨false, c, n⟩ :: r =>
    by_cases h0 : n = 0
    · simp [sepF, h0, frB, readyJ]
    · simp [sepF, h0, readyJ]
  | ⟨true, c, n⟩ :: r =>
    have h2 : n % 2 = 1 := by
      have : ¬ n % 2 = 0 := by simpa [keyB] using h
      omega
    have h0 : n ≠ 0 := by omega
    simp [sepF, h0, h2, readyJ]
theorem sep_paid (s : List Bx) (h : keyB s = false) : paidJ (sepF s) = frS (incB s) ∧ doneJ (sepF s) = s.isEmpty ∧ (sepF s).length = s.length := by
  match s with
  | [] => exact ⟨rfl, rfl, rfl⟩
  | ⟨false, c, n⟩ :: r =>
    by_cases h0 : n = 0
    · simp [sepF, h0, frB, paidJ, doneJ, incB, frS]
    · simp [sepF, h0, frB, paidJ, doneJ, incB, frS]
  | ⟨true, c, n⟩ :: r =>
    have h2 : n % 2 = 1 := by
      have : ¬ n % 2 = 0 := by simpa [keyB] using h
      omega
    have h0 : n ≠ 0 := by omega
    have h3 : ¬ (n + 1) % 2 = 1 := by omega
    simp [sepF, h0, h2, frB, paidJ, doneJ, incB, frS, h3]
theorem sep_key (s : List Bx) (h : keyB s = true) (t : List UInt8) : strJ (sepF s) false t = (.at_ (frS (incB s)) false, [evText t]) := by
  match s with
  | [] => cases h
  | ⟨false, c, n⟩ :: r => simp [keyB] at h
  | ⟨true, c, n⟩ :: r =>
    have h2 : n % 2 = 0 := by simpa [keyB] using h
    have h3 : (n + 1) % 2 = 1 := by omega
    by_cases h0 : n = 0
    · subst h0
      simp [sepF, frB, strJ, incB, frS]
    · have h4 : ¬ n % 2 = 1 := by omega
      simp [sepF, h0, h4, frB, strJ, incB, frS, h3]
/-- One part. -/
theorem part_step (D : Nat) (s : List Bx) (e : Ev) (j : Js) (pend : List Ev) (h : RelW (.live s) j pend) (hg : GoodW e) (hb : ∀ f, stepC (.live s) e ≠ .bad f) (hd : e.k = 5 ∨ e.k = 6 → s.length < D) (hopen : ∀ b ∈ s, b.c = -1) :
    ∃ j' ps pend', runJ D j (writeW s e) = (j', ps) ∧ RelW (stepC (.live s) e) j' pend' ∧ pend ++ [e] = ps ++ pend' := by
  have hm : ¬ ¬ mayE e := fun hn => hb 2 (by simp only [stepC]; rw [if_pos hn])
  by_cases h7 : e.k = 7
  · match s, h, hb, hopen with
    | [], h, hb, _ => exact absurd (by simp only [stepC]; rw [if_neg hm, if_pos h7]) (hb 2)
    | ⟨m, c, n⟩ :: r, h, hb, hopen =>
      have hs : stepC (.live (⟨m, c, n⟩ :: r)) e = if shutB ⟨m, c, n⟩ then .bad 2 else if r = [] then .done else .live r := by simp only [stepC]; rw [if_neg hm, if_pos h7]
      have hns : ¬ shutB ⟨m, c, n⟩ := fun hh => hb 2 (by rw [hs, if_pos hh])
      rw [if_neg hns] at hs
      have hc : c = -1 := hopen ⟨m, c, n⟩ (by simp)
      have hodd : ¬ (m = true ∧ n % 2 = 1) := fun hh => hns (.inr hh)
      have hp : pOf (stepC (.live (⟨m, c, n⟩ :: r)) e) = .at_ (frS r) (doneJ (frS r)) := by
        rw [hs]
        cases r with
        | nil => rfl
        | cons b q => simp [pOf, frS, doneJ]
      have hw : writeW (⟨m, c, n⟩ :: r) e = [if m = true then 125 else 93] := by
        unfold writeW
        rw [if_pos h7]
        cases m <;> rfl
      have htok : tokJ D (.at_ (frS (⟨m, c, n⟩ :: r)) false) (sgnT (if m = true then 125 else 93 : UInt8).toNat) = (.at_ (frS r) (doneJ (frS r)), [evEnd]) := by
        cases m with
        | false => by_cases h0 : n = 0 <;> simp [tokJ, sgnT, frS, frB, h0, shutJ]
        | true =>
          by_cases h0 : n = 0
          · simp [tokJ, sgnT, frS, frB, h0, shutJ]
          · have h2 : ¬ n % 2 = 1 := fun hh => hodd ⟨rfl, hh⟩
            simp [tokJ, sgnT, frS, frB, h0, h2, shutJ]
      refine ⟨⟨.idle, .at_ (frS r) (doneJ (frS r))⟩, pend ++ [evEnd], [], ?_, .inl ⟨by rw [hp], rfl⟩, by rw [ev_end h7 hg.tidy]; simp⟩
      rw [hw, runJ_one, rel_sign h rfl _ (by cases m <;> rfl), htok]
  · have hw : writeW s e = sepW s ++ outW e := by unfold writeW; rw [if_neg h7]
    rw [hw, runJ_append, sep_step D s j pend h]
    simp only
    by_cases hk : keyB s = true
    · have h3 : e.k = 3 := by
        rcases Classical.em (e.k = 3) with h3 | h3
        · exact h3
        · exact absurd (by simp only [stepC]; rw [if_neg hm, if_neg h7, if_pos ⟨hk, h3⟩]) (hb 8)
      have hne : s ≠ [] := by intro hh; rw [hh] at hk; cases hk
      have hs : stepC (.live s) e = .live (incB s) := by
        simp only [stepC]
        rw [if_neg hm, if_neg h7, if_neg (fun hh => hh.2 h3), if_neg (by omega), if_neg hne]
      have ho : outW e = 34 :: escW e.t.data.toList ++ [34] := by simp [outW, h3]
      refine ⟨⟨.idle, .at_ (frS (incB s)) false⟩, pend ++ [evText e.t.data.toList], [], ?_, .inl ⟨by rw [hs]; rfl, rfl⟩, by rw [← ev_str h3 hg.tidy]; simp⟩
      rw [ho, run_str D (sepF s) false _ (hg.text h3).1 (hg.text h3).2, sep_key s hk]
    · have hkf : keyB s = false := by simpa using hk
      have hkn : ¬ (keyB s = true ∧ e.k ≠ 3) := fun hh => hk hh.1
      obtain ⟨hpd, hdn, hln⟩ := sep_paid s hkf
      have hr := sep_ready s hkf
      by_cases h56 : e.k = 5 ∨ e.k = 6
      · have hs : stepC (.live s) e = .live (⟨decide (e.k = 6), e.c, 0⟩ :: incB s) := by
          simp only [stepC]
          rw [if_neg hm, if_neg h7, if_neg hkn, if_pos h56]
          by_cases h16 : 16 ≤ s.length
          · exact absurd (by simp only [stepC]; rw [if_neg hm, if_neg h7, if_neg hkn, if_pos h56, if_pos h16]) (hb 4)
          · rw [if_neg h16]
        have hlt := hd h56
        obtain ⟨m, hmk⟩ : ∃ m : Bool, e.k = if m then 6 else 5 := by
          rcases h56 with h5 | h6
          · exact ⟨false, h5⟩
          · exact ⟨true, h6⟩
        have he := ev_open hmk hg.tidy (hg.open_ h56)
        have ho : outW e = [if m = true then 123 else 91] := by cases m <;> simp [outW, hmk]
        have hdm : decide (e.k = 6) = m := by cases m <;> simp [hmk]
        have htok : tokJ D (.at_ (sepF s) false) (sgnT (if m = true then 123 else 91 : UInt8).toNat) = (.at_ (⟨m, 0⟩ :: paidJ (sepF s)) false, [evOpen m]) := by
          have hop : ∀ x, openJ D (sepF s) false m x = (.at_ (⟨m, 0⟩ :: paidJ (sepF s)) false, [x]) := fun x => by
            unfold openJ
            rw [if_pos hr, if_neg (by omega)]
          cases m
          · exact hop (evOpen false)
          · exact hop (evOpen true)
        refine ⟨⟨.idle, .at_ (⟨m, 0⟩ :: paidJ (sepF s)) false⟩, pend ++ [evOpen m], [], ?_, .inl ⟨?_, rfl⟩, by rw [← he]; simp⟩
        · rw [ho, runJ_one, step_tells D (sepF s) false .idle _ [sgnT (if m = true then 123 else 91 : UInt8).toNat] (by cases m <;> rfl), toks_one, htok]
        · rw [hs, hpd, hdm]
          rfl
      · have hs : stepC (.live s) e = if s = [] then .done else .live (incB s) := by
          simp only [stepC]
          rw [if_neg hm, if_neg h7, if_neg hkn, if_neg h56]
        have hk4 : e.k = 0 ∨ e.k = 1 ∨ e.k = 2 ∨ e.k = 3 := by have := hg.kind; omega
        obtain ⟨j', ps, pend', h1, h2, h3⟩ := run_val D (sepF s) e hg hk4 hr
        refine ⟨j', pend ++ ps, pend', by rw [h1], h2 _ ?_, by rw [h3, List.append_assoc]⟩
        rw [hs, hpd, hdn]
        cases s with
        | nil => rfl
        | cons b r => rw [if_neg (by simp)]; rfl
/-- Parts, one behind the other, each with the blanks p ahead of it and q behind it. -/
def writeAll (p q : List UInt8) : List Bx → List Ev → List UInt8
  | _, [] => []
  | s, e :: l => p ++ (writeW s e ++ (q ++ (match stepC (.live s) e with
    | .live s' => writeAll p q s' l
    | _ => [])))
/-- No container more than so deep. -/
def DeepW (D : Nat) : List Bx → List Ev → Prop
  | _, [] => True
  | s, e :: l => (e.k = 5 ∨ e.k = 6 → s.length < D) ∧ (match stepC (.live s) e with
    | .live s' => DeepW D s' l
    | _ => True)
theorem open_step {s s' : List Bx} {e : Ev} (h : stepC (.live s) e = .live s') (hs : ∀ b ∈ s, b.c = -1) (hg : GoodW e) : ∀ b ∈ s', b.c = -1 := by
  have hinc : ∀ b ∈ incB s, b.c = -1 := by
    cases s with
    | nil => intro b hb; cases hb
    | cons x r =>
      intro b hb
      rcases List.mem_cons.1 hb with rfl | hb
      · exact hs x (by simp)
      · exact hs b (by simp [hb])
  simp only [stepC] at h
  split at h
  · cases h
  · split at h
    · cases s with
      | nil => cases h
      | cons x r =>
        simp only at h
        split at h
        · cases h
        · split at h
          · cases h
          · simp only [Ck.live.injEq] at h
            subst h
            exact fun b hb => hs b (by simp [hb])
    · split at h
      · cases h
      · split at h
        · rename_i h56
          split at h
          · cases h
          · simp only [Ck.live.injEq] at h
            subst h
            intro b hb
            rcases List.mem_cons.1 hb with rfl | hb
            · exact hg.open_ h56
            · exact hinc b hb
        · split at h
          · cases h
          · simp only [Ck.live.injEq] at h
            subst h
            exact hinc
theorem live_pOf (s : List Bx) : pOf (.live s) = .at_ (frS s) false := rfl
theorem back_run (D : Nat) (p q : List UInt8) (hp : ∀ b ∈ p, isBlank b.toNat = true) (hq : ∀ b ∈ q, isBlank b.toNat = true) : ∀ (l : List Ev) (s : List Bx) (j : Js) (pend : List Ev), RelW (.live s) j pend → runC (.live s) l = .done →
    (∀ e ∈ l, GoodW e) → DeepW D s l → (∀ b ∈ s, b.c = -1) → ∃ j' ps pend', runJ D j (writeAll p q s l) = (j', ps) ∧ RelW .done j' pend' ∧ pend ++ l = ps ++ pend'
  | [], s, j, pend, _, hr, _, _, _ => by simp [runC] at hr
  | e :: l, s, j, pend, h, hr, hg, hd, ho => by
    rw [runC_cons] at hr
    have hb : ∀ f, stepC (.live s) e ≠ .bad f := fun f hf => by
      rw [hf, runC_bad] at hr
      cases hr
    obtain ⟨j1, p1, q1, r1, h1, e1⟩ := rel_blanks (D := D) (live_pOf s) p j pend h hp
    obtain ⟨j2, p2, q2, r2, h2, e2⟩ := part_step D s e j1 q1 h1 (hg e (by simp)) hb hd.1 ho
    have hpo : ∃ st dn, pOf (stepC (.live s) e) = .at_ st dn := by
      cases hs : stepC (.live s) e with
      | bad f => exact absurd hs (hb f)
      | live s' => exact ⟨_, _, rfl⟩
      | done => exact ⟨_, _, rfl⟩
    obtain ⟨st, dn, hpo⟩ := hpo
    obtain ⟨j3, p3, q3, r3, h3, e3⟩ := rel_blanks (D := D) hpo q j2 q2 h2 hq
    have hd2 := hd.2
    have hw : writeAll p q s (e :: l) = p ++ (writeW s e ++ (q ++ (match stepC (.live s) e with
      | .live s' => writeAll p q s' l
      | _ => []))) := rfl
    rw [hw]
    cases hs : stepC (.live s) e with
    | bad f => exact absurd hs (hb f)
    | done =>
      rw [hs] at hr h3
      have hl := runC_done hr
      subst hl
      refine ⟨j3, p1 ++ (p2 ++ (p3 ++ [])), q3, ?_, h3, ?_⟩
      · rw [runJ_append, r1]
        simp only
        rw [runJ_append, r2]
        simp only
        rw [runJ_append, r3]
        simp [runJ]
      · rw [e1, List.append_assoc, e2, e3]
        simp [List.append_assoc]
    | live s' =>
      rw [hs] at hr h3 hd2
      obtain ⟨j4, p4, q4, r4, h4, e4⟩ := back_run D p q hp hq l s' j3 q3 h3 hr (fun x hx => hg x (by simp [hx])) hd2 (open_step hs ho (hg e (by simp)))
      refine ⟨j4, p1 ++ (p2 ++ (p3 ++ p4)), q4, ?_, h4, ?_⟩
      · rw [runJ_append, r1]
        simp only
        rw [runJ_append, r2]
        simp only
        rw [runJ_append, r3]
        simp only [r4]
      · have : pend ++ e :: l = p1 ++ ((q1 ++ [e]) ++ l) := by rw [e1]; simp [List.append_assoc]
        rw [this, e2, List.append_assoc, e3, List.append_assoc, e4]
        simp [List.append_assoc]
/-- WHAT IS WRITTEN SO IS READ AS IT WAS. -/
theorem back_all (D : Nat) (p q : List UInt8) (hp : ∀ b ∈ p, isBlank b.toNat = true) (hq : ∀ b ∈ q, isBlank b.toNat = true) (l : List Ev) (hc : checkE l = 0) (hg : ∀ e ∈ l, GoodW e) (hd : DeepW D [] l) : allJ D (writeAll p q [] l) = (l, 0) := by
  obtain ⟨j', ps, pend', h1, h2, h3⟩ := back_run D p q hp hq l [] ⟨.idle, .at_ [] false⟩ [] (.inl ⟨rfl, rfl⟩) (check_zero hc) hg hd (by simp)
  unfold allJ
  rw [h1]
  simp only
  rw [rel_end h2]
  simp only [List.nil_append] at h3
  rw [← h3]
/-! ### What is read is one document, or the beginning of one -/
def MatchF (f : FrJ) (b : Bx) : Prop := b.map = f.map ∧ b.c = -1 ∧ (f.map = true → (f.p = 0 ∨ f.p = 3 ∨ f.p = 4) ∧ b.have_ % 2 = 0 ∨ (f.p = 1 ∨ f.p = 2) ∧ b.have_ % 2 = 1)
def MatchS : List FrJ → List Bx → Prop
  | [], [] => True
  | f :: r, b :: s => MatchF f b ∧ MatchS r s
  | _, _ => False
theorem MatchS.length : ∀ {r : List FrJ} {s : List Bx}, MatchS r s → r.length = s.length
  | [], [], _ => rfl
  | _ :: _, _ :: _, h => by simp [MatchS.length h.2]
  | [], _ :: _, h => h.elim
  | _ :: _, [], h => h.elim
/-- The reader's place, and what Check makes of the parts so far. -/
def InvJ (c : Ck) (st : List FrJ) (dn : Bool) : Prop := (∃ s, c = .live s ∧ MatchS st s ∧ dn = false) ∨ (c = .done ∧ st = [] ∧ dn = true)
/-- Of a token: with an error no parts; else the place and Check go on together. -/
def GoesJ (c : Ck) (r : Pj × List Ev) : Prop := match r.1 with
  | .bad e => r.2 = [] ∧ e ≠ 0
  | .at_ st dn => InvJ (runC c r.2) st dn
theorem may_low {e : Ev} (h : e.k = 0 ∨ e.k = 1 ∨ e.k = 2 ∨ e.k = 3) : mayE e := ⟨by omega, by omega, fun h' => by omega⟩
/-- A value's place: no key must come there. -/
theorem ready_key {st : List FrJ} {s : List Bx} (h : MatchS st s) (hr : readyJ st false = true) : keyB s = false := by
  match st, s, h with
  | [], [], _ => rfl
  | ⟨m, p⟩ :: r, b :: q, h =>
    obtain ⟨⟨h1, h2, h3⟩, _⟩ := h
    cases m with
    | false => simp only at h1; simp [keyB, h1]
    | true =>
      have hp : p = 2 := by simpa [readyJ] using hr
      subst hp
      have := h3 rfl
      simp only at this
      have hodd : b.have_ % 2 = 1 := by omega
      simp [keyB, hodd]
theorem paid_match {st : List FrJ} {s : List Bx} (h : MatchS st s) (hr : readyJ st false = true) : MatchS (paidJ st) (incB s) := by
  match st, s, h with
  | [], [], _ => trivial
  | ⟨m, p⟩ :: r, b :: q, h =>
    obtain ⟨⟨h1, h2, h3⟩, h4⟩ := h
    cases m with
    | false => exact ⟨⟨h1, h2, fun hh => by cases hh⟩, h4⟩
    | true =>
      have hp : p = 2 := by simpa [readyJ] using hr
      subst hp
      have := h3 rfl
      simp only at this
      have hodd : b.have_ % 2 = 1 := by omega
      exact ⟨⟨h1, h2, fun _ => .inl ⟨.inr (.inl rfl), by show (b.have_ + 1) % 2 = 0; omega⟩⟩, h4⟩
theorem goes_val {c : Ck} {st : List FrJ} {dn : Bool} (h : InvJ c st dn) (e : Ev) (he : e.k = 0 ∨ e.k = 1 ∨ e.k = 2 ∨ e.k = 3) : GoesJ c (valJ st dn e) := by
  unfold valJ
  by_cases hr : readyJ st dn = true
  · rw [if_pos hr]
    show InvJ (runC c [e]) _ _
    rcases h with ⟨s, rfl, hm, rfl⟩ | ⟨rfl, rfl, rfl⟩
    · have hk := ready_key hm hr
      have hs : stepC (.live s) e = if s = [] then .done else .live (incB s) := by
        simp only [stepC]
        rw [if_neg (fun hn => hn (may_low he)), if_neg (by omega), if_neg (fun hh => by rw [hk] at hh; cases hh.1), if_neg (by omega)]
      have hrun : runC (.live s) [e] = stepC (.live s) e := rfl
      rw [hrun, hs]
      have hpm := paid_match hm hr
      match st, s, hm, hpm with
      | [], [], _, _ => exact .inr ⟨rfl, rfl, rfl⟩
      | f :: r, b :: q, _, hpm =>
        rw [if_neg (by simp)]
        refine .inl ⟨_, rfl, hpm, ?_⟩
        rfl
    · cases hr
  · rw [if_neg hr]
    exact ⟨rfl, by decide⟩
theorem goes_open {c : Ck} {st : List FrJ} {dn : Bool} (h : InvJ c st dn) (D : Nat) (hD : D ≤ 16) (m : Bool) : GoesJ c (openJ D st dn m (evOpen m)) := by
  unfold openJ
  by_cases hr : readyJ st dn = true
  · rw [if_pos hr]
    by_cases hd : D ≤ st.length
    · rw [if_pos hd]
      exact ⟨rfl, by decide⟩
    · rw [if_neg hd]
      show InvJ (runC c [evOpen m]) _ _
      rcases h with ⟨s, rfl, hm, rfl⟩ | ⟨rfl, rfl, rfl⟩
      · have hk := ready_key hm hr
        have hl := hm.length
        have hs : stepC (.live s) (evOpen m) = .live (⟨m, -1, 0⟩ :: incB s) := by
          simp only [stepC]
          rw [if_neg (fun hn => hn (by cases m <;> decide)), if_neg (by cases m <;> decide), if_neg (fun hh => by rw [hk] at hh; cases hh.1), if_pos (by cases m <;> decide), if_neg (by omega)]
          cases m <;> rfl
        have hrun : runC (.live s) [evOpen m] = stepC (.live s) (evOpen m) := rfl
        rw [hrun, hs]
        exact .inl ⟨_, rfl, ⟨⟨rfl, rfl, fun _ => .inl ⟨.inl rfl, rfl⟩⟩, paid_match hm hr⟩, rfl⟩
      · cases hr
  · rw [if_neg hr]
    exact ⟨rfl, by decide⟩
theorem goes_shut {c : Ck} {st : List FrJ} {dn : Bool} (h : InvJ c st dn) (m : Bool) : GoesJ c (shutJ m st) := by
  rcases h with ⟨s, rfl, hm, rfl⟩ | ⟨rfl, rfl, rfl⟩
  · match st, s, hm with
    | [], [], _ => exact ⟨rfl, by decide⟩
    | ⟨b, p⟩ :: r, x :: q, hm =>
      obtain ⟨⟨h1, h2, h3⟩, h4⟩ := hm
      simp only [shutJ]
      by_cases hc : b = m ∧ (p = 0 ∨ p = if m = true then 3 else 1)
      · rw [if_pos hc]
        obtain ⟨rfl, hp⟩ := hc
        show InvJ (runC (.live (x :: q)) [evEnd]) r (doneJ r)
        have hns : ¬ shutB x := by
          rintro (⟨hh, _⟩ | ⟨hh, ho⟩)
          · rw [h2] at hh; omega
          · simp only at h1
            rw [h1] at hh
            subst hh
            have := h3 rfl
            simp only [if_true] at this hp
            omega
        have hs : stepC (.live (x :: q)) evEnd = if q = [] then .done else .live q := by
          simp only [stepC]
          rw [if_neg (fun hn => hn (by decide)), if_pos (show evEnd.k = 7 from rfl), if_neg hns]
        have hrun : runC (.live (x :: q)) [evEnd] = stepC (.live (x :: q)) evEnd := rfl
        rw [hrun, hs]
        match r, q, h4 with
        | [], [], _ => exact .inr ⟨rfl, rfl, rfl⟩
        | f :: r, b' :: q, h4 => rw [if_neg (by simp)]; exact .inl ⟨_, rfl, h4, rfl⟩
      · rw [if_neg hc]
        exact ⟨rfl, by decide⟩
  · exact ⟨rfl, by decide⟩
theorem goes_comma {c : Ck} {st : List FrJ} {dn : Bool} (h : InvJ c st dn) : GoesJ c (commaJ st) := by
  rcases h with ⟨s, rfl, hm, rfl⟩ | ⟨rfl, rfl, rfl⟩
  · unfold commaJ
    split
    · match s, hm with
      | x :: q, hm => exact .inl ⟨_, rfl, ⟨⟨hm.1.1, hm.1.2.1, fun hh => by cases hh⟩, hm.2⟩, rfl⟩
    · match s, hm with
      | x :: q, hm =>
        have := hm.1.2.2 rfl
        simp only at this
        exact .inl ⟨_, rfl, ⟨⟨hm.1.1, hm.1.2.1, fun _ => .inl ⟨.inr (.inr rfl), by omega⟩⟩, hm.2⟩, rfl⟩
    · exact ⟨rfl, by decide⟩
  · exact ⟨rfl, by decide⟩
theorem goes_colon {c : Ck} {st : List FrJ} {dn : Bool} (h : InvJ c st dn) : GoesJ c (colonJ st) := by
  rcases h with ⟨s, rfl, hm, rfl⟩ | ⟨rfl, rfl, rfl⟩
  · unfold colonJ
    split
    · match s, hm with
      | x :: q, hm =>
        have := hm.1.2.2 rfl
        simp only at this
        exact .inl ⟨_, rfl, ⟨⟨hm.1.1, hm.1.2.1, fun _ => .inr ⟨.inr rfl, by omega⟩⟩, hm.2⟩, rfl⟩
    · exact ⟨rfl, by decide⟩
  · exact ⟨rfl, by decide⟩
theorem goes_key {s : List Bx} {r : List FrJ} {p : Nat} (hm : MatchS (⟨true, p⟩ :: r) s) (hp : p = 0 ∨ p = 4) (t : List UInt8) : InvJ (runC (.live s) [evText t]) (⟨true, 1⟩ :: r) false := by
  match s, hm with
  | x :: q, hm =>
    have h3 := hm.1.2.2 rfl
    simp only at h3
    have hev : x.have_ % 2 = 0 := by omega
    have hs : stepC (.live (x :: q)) (evText t) = .live (incB (x :: q)) := by
      simp only [stepC]
      rw [if_neg (fun hn => hn (may_low (.inr (.inr (.inr rfl))))), if_neg (by simp [evText]), if_neg (fun hh => hh.2 rfl), if_neg (by simp [evText]), if_neg (by simp)]
    have hrun : runC (.live (x :: q)) [evText t] = stepC (.live (x :: q)) (evText t) := rfl
    rw [hrun, hs]
    exact .inl ⟨_, rfl, ⟨⟨hm.1.1, hm.1.2.1, fun _ => .inr ⟨.inl rfl, by show (x.have_ + 1) % 2 = 1; omega⟩⟩, hm.2⟩, rfl⟩
theorem goes_str {c : Ck} {st : List FrJ} {dn : Bool} (h : InvJ c st dn) (t : List UInt8) : GoesJ c (strJ st dn t) := by
  have hv := goes_val h (evText t) (.inr (.inr (.inr rfl)))
  unfold strJ
  split
  · rcases h with ⟨s, rfl, hm, rfl⟩ | ⟨_, h, _⟩
    · exact goes_key hm (.inl rfl) t
    · cases h
  · rcases h with ⟨s, rfl, hm, rfl⟩ | ⟨_, h, _⟩
    · exact goes_key hm (.inr rfl) t
    · cases h
  · exact hv
theorem goes_tok {c : Ck} {st : List FrJ} {dn : Bool} (h : InvJ c st dn) (D : Nat) (hD : D ≤ 16) (t : Tk) : GoesJ c (tokJ D (.at_ st dn) t) := by
  simp only [tokJ]
  split
  · exact goes_comma h
  split
  · exact goes_colon h
  split
  · exact goes_shut h false
  split
  · exact goes_shut h true
  split
  · exact goes_open h D hD false
  split
  · exact goes_open h D hD true
  split
  · exact goes_str h t.t
  split
  · exact goes_val h _ (.inr (.inr (.inl rfl)))
  split
  · exact goes_val h _ (.inr (.inl rfl))
  split
  · exact goes_val h _ (.inr (.inl rfl))
  · exact goes_val h _ (.inl rfl)
/-- Of the parts so far: one document, or the beginning of one. -/
def PartW (c : Ck) : Prop := (∃ s, c = .live s) ∨ c = .done
theorem InvJ.part {c : Ck} {st : List FrJ} {dn : Bool} (h : InvJ c st dn) : PartW c := by
  rcases h with ⟨s, rfl, _⟩ | ⟨rfl, _⟩
  · exact .inl ⟨s, rfl⟩
  · exact .inr rfl
def AfterJ (c : Ck) (p : Pj) : Prop := match p with
  | .bad e => PartW c ∧ e ≠ 0
  | .at_ st dn => InvJ c st dn
theorem toks_bad (D e : Nat) (l : List Tk) : toksJ D (.bad e) l = (.bad e, []) := by
  induction l with
  | nil => rfl
  | cons t l ih => simp only [toksJ, tokJ, ih, List.append_nil]
theorem goes_toks (D : Nat) (hD : D ≤ 16) : ∀ (l : List Tk) (c : Ck) (st : List FrJ) (dn : Bool), InvJ c st dn → AfterJ (runC c (toksJ D (.at_ st dn) l).2) (toksJ D (.at_ st dn) l).1
  | [], c, st, dn, h => h
  | t :: l, c, st, dn, h => by
    have ht := goes_tok h D hD t
    simp only [toksJ]
    generalize tokJ D (.at_ st dn) t = r at ht ⊢
    obtain ⟨p, ps⟩ := r
    cases p with
    | bad e =>
      obtain ⟨hps, he⟩ : ps = [] ∧ e ≠ 0 := ht
      subst hps
      simp only [toks_bad]
      exact ⟨h.part, he⟩
    | at_ st' dn' =>
      have := goes_toks D hD l (runC c ps) st' dn' ht
      simp only [runC_append]
      exact this
/-- A lexer's error is one. -/
theorem start_err {b e : Nat} (h : badX (startX b).1 = some e) : e ≠ 0 := by
  unfold startX at h
  repeat' split at h
  all_goals first | (simp [badX] at h; omega) | (cases h)
theorem step_err {lx : Lx} (hl : badX lx = none) (b : UInt8) {e : Nat} (h : badX (stepX lx b).1 = some e) : e ≠ 0 := by
  cases lx with
  | bad f => cases hl
  | idle => exact start_err h
  | str s t =>
    simp only [stepX] at h
    split at h
    · cases h
    · split at h
      · rename_i hh
        simp only [badX, Option.some.injEq] at h
        omega
      · split at h
        · simp only [badX, Option.some.injEq] at h
          omega
        · cases h
  | num d =>
    simp only [stepX] at h
    split at h
    · rename_i hh
      simp only [badX, Option.some.injEq] at h
      omega
    · split at h
      · cases h
      · split at h
        · rename_i hh
          simp only [badX, Option.some.injEq] at h
          omega
        · have hst := @start_err b.toNat e
          generalize startX b.toNat = r at h hst
          obtain ⟨s, l⟩ := r
          cases s with
          | bad f => exact hst h
          | idle => cases h
          | str _ _ => cases h
          | num _ => cases h
          | word _ _ => cases h
  | word k r =>
    cases r with
    | nil => simp only [stepX, badX, Option.some.injEq] at h; omega
    | cons x q =>
      simp only [stepX] at h
      split at h
      · split at h <;> cases h
      · simp only [badX, Option.some.injEq] at h
        omega
theorem goes_run (D : Nat) (hD : D ≤ 16) : ∀ (bs : List UInt8) (c : Ck) (s : Js), badX s.lx = none → AfterJ c s.p → AfterJ (runC c (runJ D s bs).2) (runJ D s bs).1.p ∧ badX (runJ D s bs).1.lx = none
  | [], c, s, hl, h => ⟨h, hl⟩
  | b :: bs, c, s, hl, h => by
    have hs : AfterJ (runC c (stepJ D s b).2) (stepJ D s b).1.p ∧ badX (stepJ D s b).1.lx = none := by
      obtain ⟨lx, p⟩ := s
      cases p with
      | bad e => exact ⟨h, hl⟩
      | at_ st dn =>
        simp only [stepJ]
        cases hb : badX (stepX lx b).1 with
        | some e => exact ⟨⟨InvJ.part h, step_err hl b hb⟩, rfl⟩
        | none => exact ⟨goes_toks D hD _ c st dn h, hb⟩
    have := goes_run D hD bs (runC c (stepJ D s b).2) (stepJ D s b).1 hs.2 hs.1
    simp only [runJ, runC_append]
    exact this
theorem part_check {l : List Ev} (h : PartW (runC (.live []) l)) : checkE l = 0 ∨ checkE l = 3 := by
  unfold checkE
  rcases h with ⟨s, h⟩ | h
  · rw [h]; exact .inr rfl
  · rw [h]; exact .inl rfl
/-- WHAT IS READ WITHOUT AN ERROR IS ONE DOCUMENT; with one, the beginning of one. -/
theorem all_check (D : Nat) (hD : D ≤ 16) (b : List UInt8) : ((allJ D b).2 = 0 → checkE (allJ D b).1 = 0) ∧ (checkE (allJ D b).1 = 0 ∨ checkE (allJ D b).1 = 3) := by
  have h0 : AfterJ (.live []) (.at_ [] false) := .inl ⟨[], rfl, trivial, rfl⟩
  have h := (goes_run D hD b (.live []) ⟨.idle, .at_ [] false⟩ rfl h0).1
  unfold allJ
  generalize runJ D ⟨.idle, .at_ [] false⟩ b = r at h
  obtain ⟨⟨lx, p⟩, ps⟩ := r
  simp only at h ⊢
  cases p with
  | bad e =>
    obtain ⟨hp, he⟩ : PartW (runC (.live []) ps) ∧ e ≠ 0 := h
    simp only [endJ, List.append_nil]
    exact ⟨fun h0 => absurd h0 he, part_check hp⟩
  | at_ st dn =>
    simp only [endJ]
    by_cases he : (endX lx).2 ≠ 0
    · rw [if_pos he]
      simp only [List.append_nil]
      exact ⟨fun h0 => absurd h0 he, part_check (InvJ.part h)⟩
    · rw [if_neg he]
      have hg := goes_toks D hD (endX lx).1 (runC (.live []) ps) st dn h
      rw [← runC_append] at hg
      generalize toksJ D (.at_ st dn) (endX lx).1 = r at hg ⊢
      obtain ⟨p, l⟩ := r
      cases p with
      | bad e =>
        obtain ⟨hp, he2⟩ : PartW (runC (.live []) (ps ++ l)) ∧ e ≠ 0 := hg
        exact ⟨fun h0 => absurd h0 he2, part_check hp⟩
      | at_ st' dn' =>
        have hi : InvJ (runC (.live []) (ps ++ l)) st' dn' := hg
        cases dn' with
        | true =>
          rcases hi with ⟨s, _, _, hh⟩ | ⟨hc, _, _⟩
          · cases hh
          · have : checkE (ps ++ l) = 0 := by unfold checkE; rw [hc]; rfl
            exact ⟨fun _ => this, .inl this⟩
        | false => exact ⟨fun h0 => (by cases h0), part_check hi.part⟩
end Go.Proofs.Ytonjdnahplphhaa
