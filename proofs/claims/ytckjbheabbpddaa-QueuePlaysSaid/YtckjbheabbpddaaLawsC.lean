/-
  CONTRACTS of the two closures of chapter 3s law QueuePlays (the list that it keeps beside the queue).
-/
import Derived.Test.YtckjbheabbpddaaLawsB
import Derived.Deep.RegionLaw
import Derived.Deep.RegionHeld3
namespace Go.Proofs.Ytckjbheabbpddaa
open Go.RowKit
open Go.Lib
def sCells (l : List ByteArray) : List Value := l.map Value.string
theorem sCells_length (l : List ByteArray) : (sCells l).length = l.length := by simp [sCells]
def flat (l : List ByteArray) : List UInt8 := l.flatMap fun x => x.data.toList
theorem flat_nil : flat [] = [] := rfl
theorem flat_cons (x : ByteArray) (l : List ByteArray) : flat (x :: l) = x.data.toList ++ flat l := by simp [flat]
theorem flat_append (a b : List ByteArray) : flat (a ++ b) = flat a ++ flat b := by simp [flat]
theorem flat_take_succ (l : List ByteArray) (k : Nat) (x : ByteArray) (h : l[k]? = some x) : flat (l.take (k + 1)) = flat (l.take k) ++ x.data.toList := by
  rw [List.take_add_one, h]
  simp [flat]
theorem flat_take_le (l : List ByteArray) (k : Nat) : (flat (l.take k)).length ≤ (flat l).length := by
  rw [← List.take_append_drop k l, flat_append, List.take_append_drop]
  simp
/-- Blocks of other types than these stay. -/
def Off (ts : List Nat) (w w' : World) : Prop := ∀ (k : Nat) (c : Array Value) (t : TypeId) (fr : Nat × Nat), w.heap[k]? = some (.cells c t fr) → t ∉ ts → w'.heap[k]? = some (.cells c t fr)
theorem Off.refl (ts : List Nat) (w : World) : Off ts w w := fun _ _ _ _ h _ => h
theorem Off.trans {ts : List Nat} {a b c : World} (h : Off ts a b) (k : Off ts b c) : Off ts a c := fun i x t fr hi ht => k i x t fr (h i x t fr hi ht) ht
theorem Off.drewN {ts : List Nat} {a b : World} (h : Off ts a b) (q : Nat) : Off ts a (b.drewN q) := h
theorem Off.alloc {ts : List Nat} {a b : World} (h : Off ts a b) (o : Obj) : Off ts a (b.alloc o) := fun i x t fr hi ht => by
  have := h i x t fr hi ht
  rw [Below.heap_alloc b o i (Array.getElem?_eq_some_iff.1 this).1]
  exact this
theorem QAt.typed {w : World} {b : Nat} {F : List Nat} {bs : List UInt8} {ns : List Nat} (h : QAt w b F bs ns) : ∀ k ∈ F, ∃ c t fr, w.heap[k]? = some (.cells c t fr) ∧ t ∈ [28, 5, 3] := by
  obtain ⟨vb, vs, hb, h1, h2, hF, hs, hp⟩ := h
  intro k hk
  rw [hF] at hk
  simp only [List.mem_cons, List.mem_append] at hk
  rcases hk with rfl | hk | hk
  · exact ⟨_, _, _, hb, by simp⟩
  · obtain ⟨c, hc⟩ := h1.typed k hk
    exact ⟨_, _, _, hc, by simp⟩
  · obtain ⟨c, hc⟩ := h2.typed k hk
    exact ⟨_, _, _, hc, by simp⟩
theorem QPost.off {w w' : World} {b : Nat} {F : List Nat} {bs bs' : List UInt8} {ns ns' : List Nat} (h : QAt w b F bs ns) (hq : QPost w b F bs' ns' w') : Off [28, 5, 3] w w' := by
  obtain ⟨F', _, hs⟩ := hq
  intro k c t fr hk ht
  rw [hs.block k (Array.getElem?_eq_some_iff.1 hk).1 (fun hF => ?_)]
  · exact hk
  · obtain ⟨c', t', fr', h1, h2⟩ := h.typed k hF
    rw [hk] at h1
    injection h1 with h1
    injection h1 with _ h3 _
    exact ht (h3 ▸ h2)
theorem QIs.off {B : Nat} {w w' : World} {b : Nat} {bs : List UInt8} {ns : List Nat} {ts : List Nat} (h : QIs B w b bs ns) (ho : Off ts w w') (ht : ∀ t ∈ [28, 5, 3], t ∉ ts) : QIs B w' b bs ns := by
  obtain ⟨F, h, hF⟩ := h
  refine ⟨F, h.keep fun k hk => ?_, hF⟩
  obtain ⟨c, t, fr, h1, h2⟩ := h.typed k hk
  rw [ho k c t fr h1 (ht t h2), h1]
/-- THE LAW's OWN LIST: a variable at block c that holds a slice of strings. -/
def HIs (B : Nat) (w : World) (c : Nat) (l : List ByteArray) : Prop :=
  ∃ v, w.heap[c]? = some (.cells #[v] 29 (0, 0)) ∧ Win w 9 1 v l.length (sCells l) ∧ B ≤ c ∧ ∀ k ∈ Value.owner v, B ≤ k
theorem HIs.off {B : Nat} {w w' : World} {c : Nat} {l : List ByteArray} {ts : List Nat} (h : HIs B w c l) (ho : Off ts w w') (ht : ∀ t ∈ [29, 9], t ∉ ts) : HIs B w' c l := by
  obtain ⟨v, h1, h2, h3, h4⟩ := h
  refine ⟨v, ho _ _ _ _ h1 (ht 29 (by simp)), h2.keep fun k hk => ?_, h3, h4⟩
  obtain ⟨cur, hc⟩ := h2.typed k hk
  rw [ho k _ _ _ hc (ht 9 (by simp)), hc]
theorem Win.src {P : Program} {w : World} {e tx e' : TypeId} {sz : Nat} {v : Value} {n : Nat} {xs : List Value} (h : Win w e sz v n xs) (hk : P.underlying tx = some (.slice e')) (h1 : ∀ u ∈ xs, u.oneCell' = true) : Src P sz tx v n xs w := by
  rcases h.2 with ⟨rfl, rfl⟩ | ⟨g, off, cap, cur, rfl, hg, hnc, hs, hm, hx⟩
  · have : xs = [] := List.eq_nil_of_length_eq_zero (by rw [h.1]; simp)
    subst this
    exact Src.ofNil w hk 0
  · refine Src.ofSlice w hk _ n cap xs h.1 (fun j u hu => ?_) h1
    have hj : j < n * sz := by have := (List.getElem?_eq_some_iff.1 hu).1; rw [h.1] at this; exact this
    rw [← hx, List.getElem?_take_of_lt hj, List.getElem?_drop] at hu
    rw [add_flat]
    simp only [World.cell?, hg]
    simpa using hu
theorem sCells_one (l : List ByteArray) : ∀ u ∈ sCells l, u.oneCell' = true := by
  intro u hu
  obtain ⟨x, _, rfl⟩ := List.mem_map.1 hu
  rfl
/-- Element k, as the walk meets it. -/
theorem Win.elem {w : World} {e : TypeId} {v : Value} {n : Nat} {xs : List Value} (h : Win w e 1 v n xs) (k : Nat) (u : Value) (hu : xs[k]? = some u) : ∃ g off cap, v = .slice (some ⟨g, off, none⟩) n cap ∧ w.cell? ⟨g, off + k, none⟩ = some u := by
  have hk : k < n := by have := (List.getElem?_eq_some_iff.1 hu).1; rw [h.1] at this; omega
  obtain ⟨g, off, cap, rfl, _, _, _, _, h2⟩ := h.form (by omega)
  exact ⟨g, off, cap, rfl, (h2 k u hu).1⟩
set_option maxHeartbeats 1000000 in
theorem all_has {B : Nat} {w : World} {c : Nat} {l : List ByteArray} (h : HIs B w c l) (hb : (flat l).length ≤ 100000) (hn : l.length ≤ 100000) :
    Calls Try.prog 9 #[.pointer (some ⟨c, 0, none⟩)] w fun e w' => e = .returned (.string ⟨(flat l).toArray⟩) ∧ w = w' := by
  obtain ⟨v, hv, hW, _, _⟩ := h
  obtain ⟨a, cap, rfl, hcap, hmax⟩ := hW.slice_form
  have hc : w.cell? ⟨c, 0, none⟩ = some (.slice a l.length cap) := by simp [World.cell?, hv]
  have HW := Lib.hid hW
  clear hv hW
  go_enter Try.func9, Try.ntmps9
  go_wp2
  go_loop [2, 4, 7] (fun s _ i => ∃ k : Nat, k ≤ l.length ∧ i = .int .i64 k ∧ s = .string ⟨(flat (l.take k)).toArray⟩) (fun _ _ i => l.length - (RowKit.intOf i).toNat)
  case atStart => exact ⟨0, Nat.zero_le _, rfl, rfl⟩
  case round =>
    obtain ⟨k, hk, rfl, rfl⟩ := hrel
    by_cases hlt : k < l.length
    · have hx : l[k]? = some l[k] := List.getElem?_eq_getElem hlt
      have hf := flat_take_succ l k _ hx
      have hle := flat_take_le l (k + 1)
      obtain ⟨g, off, cap', e1, hcell⟩ := HW.out.elem k (.string l[k]) (by simp [sCells, hx])
      injection e1 with e1 _ e2
      subst e1; subst e2
      have hjoin : (⟨(flat (l.take k)).toArray⟩ : ByteArray) ++ l[k] = ⟨(flat (l.take (k + 1))).toArray⟩ := by
        rw [hf]
        apply ByteArray.ext
        simp
      have hs1 : (⟨(flat (l.take k)).toArray⟩ : ByteArray).size ≤ 100000 := by
        show (List.toArray _).size ≤ _
        have := flat_take_le l k
        simp; omega
      have hs2 : l[k].size ≤ 100000 := by
        rw [hf, List.length_append, size_list] at hle
        omega
      have HJ := Lib.hid hjoin
      clear hx hf hle hjoin
      generalize (⟨(flat (l.take k)).toArray⟩ : ByteArray) = X at *
      generalize l[k] = y at *
      go_wp2
      go_round
      case rel => exact ⟨k + 1, by omega, by go_num, by rw [HJ.out]⟩
      case measure => simp [RowKit.intOf]; omega
    · go_wp2
      go_ret
      rw [List.take_of_length_le (by omega)]
      exact ⟨rfl, rfl⟩

/-- append at a step of a region that draws its order. -/
theorem step_append_win {P : Program} {w : World} {e t : TypeId} {sz : Nat} {v : Value} {n : Nat} {xs : List Value} {ops : Array Oper} {o : Oper} {a : Act} {K : Act → World → Prop} {Q : Exit → Act → World → Prop} {E : Prop} (hgd : o.guard = none) (sl x : Operand) (tx : TypeId)
    (ho : o.op = .call { callee := .builtin .append, args := #[sl, x], argTypes := #[t, tx] }) {z : Value} {bytes : Nat}
    (ht : P.underlying t = some (.slice e)) (hi : (P.info? e).map (fun i => (i.zero, i.size, i.bytes)) = some (some z, sz, bytes)) (hzs : z.cells.size = sz)
    (hs : a.eval sl = v) (h : Win w e sz v n xs) (X : Value) (hx : a.eval x = X) (m : Nat) (news : List Value) (hsrc : Src P sz tx X m news w) (h63 : n + m ≤ maxLen) (hbytes : (n + m) * bytes ≤ 140737488355328)
    (hk : ∀ v' w', Hid (Win w' e sz v' (n + m) (xs ++ news)) → Hid (w.grownBy w' v.ownBlock) → Hid (v'.ownBlock = v.ownBlock ∨ v'.ownBlock = some w.heap.size ∧ w.heap.size < w'.heap.size) → K (a.put o.dst v') w') :
    if Region.wanted o (yielded ops a.tmps) = true then Oper.wp P o a w K Q else E := by
  have hw : Region.wanted o (yielded ops a.tmps) = true := by simp [Region.wanted, hgd]
  rw [if_pos hw]
  cases hq : P.info? e with
  | none => simp [hq] at hi
  | some i =>
    simp only [hq, Option.map_some, Option.some.injEq, Prod.mk.injEq] at hi
    obtain ⟨v', w', hr, h2, h3, h4⟩ := h.append (ty := o.type) ht hq hi.1 hi.2.1 hi.2.2 hzs X m news hsrc h63 hbytes
    unfold Oper.wp execOp
    simp only [ho, resolve, invoke, builtin, Sem.run_bind, Sem.run_pure, Result.andThen_ok, List.map_toArray, List.map_cons, List.map_nil, hs, hx, hr]
    exact hk v' w' h2 h3 h4
theorem Win.drew {w : World} {e : TypeId} {sz : Nat} {v : Value} {n : Nat} {xs : List Value} (h : Win w e sz v n xs) : Win w.drew e sz v n xs := h
theorem win_one (w : World) (v : Value) (e : TypeId) (g : Nat) (hg : g = w.heap.size) : Win (w.alloc (.cells #[v] e)) e 1 (.slice (some ⟨g, 0, none⟩) 1 1) 1 [v] := by
  subst hg
  exact ⟨rfl, .inr ⟨w.heap.size, 0, 1, _, rfl, heap_alloc_new w _, Nat.le_refl _, by simp, by unfold maxLen; omega, by simp⟩⟩
theorem infos : (Try.prog.info? 9).map (fun i => (i.zero, i.size, i.bytes)) = some (some (.string ⟨#[]⟩), 1, 16) := by kernel_rfl
theorem size9 (w : World) : (Go.sizeOf 9).run Try.prog w = .ok 1 w := by kernel_rfl
/-- Of a list of strings what is left when k bytes went from the front. -/
def dropS : Nat → List ByteArray → List ByteArray
  | _, [] => []
  | k, x :: r => if k < x.size then x.extract k x.size :: r else dropS (k - x.size) r
theorem dropS_zero {l : List ByteArray} (hp : ∀ x ∈ l, 0 < x.size) : dropS 0 l = l := by
  cases l with
  | nil => rfl
  | cons x r =>
    have := hp x (by simp)
    simp only [dropS, if_pos this]
    congr 1
    apply ByteArray.ext
    simp
theorem slice_str_lo (x : ByteArray) (a : Nat) (ha : a ≤ x.size) (W : World) : (Instr.slice 9 (.string x) (some (.int .i64 (a : Int))) none none).run Try.prog W = .ok (.string (x.extract a x.size)) W := by
  rw [run_slice_string_l W 9 x Try.underlying9 .i64 _ (by omega) (by omega)]
  simp
theorem drop_facts {wr w2 : World} {c : Nat} {v v2 u : Value} {n : Nat} {y : ByteArray} {r : List Value} (hv : wr.heap[c]? = some (.cells #[v] 29 (0, 0)))
    (hW : Win w2 9 1 v2 (1 + n) ([.string y] ++ r)) (hG : (wr.alloc (.cells #[u] 9)).drew.grownBy w2 (Value.slice (some ⟨wr.heap.size, 0, none⟩) 1 1).ownBlock) :
    ∃ g2 off2 c2, v2 = .slice (some ⟨g2, off2, none⟩) (1 + n) c2 ∧ g2 ≠ c ∧ w2.cell? ⟨g2, off2, none⟩ = some (.string y) ∧ w2.heap[c]? = some (.cells #[v] 29 (0, 0)) := by
  have hcl : c < wr.heap.size := (Array.getElem?_eq_some_iff.1 hv).1
  have hv2 : w2.heap[c]? = some (.cells #[v] 29 (0, 0)) := by
    rw [hG.block c (by show c < (wr.alloc _).heap.size; simp; omega) (by simp [Value.ownBlock]; omega)]
    show (wr.alloc _).heap[c]? = _
    rw [Below.heap_alloc _ _ _ hcl]
    exact hv
  obtain ⟨g2, off2, c2, rfl, hcy⟩ := hW.elem 0 (.string y) (by simp)
  refine ⟨g2, off2, c2, rfl, fun e => ?_, by simpa using hcy, hv2⟩
  have := hW.apart hv2 (by decide)
  simp [Value.owner] at this
  exact this e.symm
theorem Off.setCell {ts : List Nat} {a b : World} (h : Off ts a b) {p : Addr} {c : Array Value} {t : TypeId} {fr : Nat × Nat} (hp : a.heap[p.block]? = some (.cells c t fr)) (ht : t ∈ ts) (u : Value) : Off ts a (b.setCell p u) := fun i x t' fr' hi ht' => by
  rw [Below.heap_setCell b p u i (fun e => ?_)]
  · exact h i x t' fr' hi ht'
  · subst e
    rw [hp] at hi
    injection hi with hi
    injection hi with _ h2 _
    exact ht' (h2 ▸ ht)
theorem off_grown {ts : List Nat} {w w' : World} {row : Option Nat} (h : w.grownBy w' row) (hr : ∀ k c t fr, row = some k → w.heap[k]? = some (.cells c t fr) → t ∈ ts) : Off ts w w' := fun i x t fr hi ht => by
  rw [h.block i (Array.getElem?_eq_some_iff.1 hi).1 (fun e => ht (hr i x t fr e.symm hi))]
  exact hi
theorem drop_is {B : Nat} {wr w2 : World} {c : Nat} {v v2 : Value} {y : ByteArray} {r : List ByteArray} (hv : wr.heap[c]? = some (.cells #[v] 29 (0, 0))) (hBc : B ≤ c)
    (hW : Win w2 9 1 v2 (1 + r.length) ([.string y] ++ sCells r)) (hG : (wr.alloc (.cells #[.string y] 9)).drew.grownBy w2 (Value.slice (some ⟨wr.heap.size, 0, none⟩) 1 1).ownBlock)
    (hO : v2.ownBlock = (Value.slice (some ⟨wr.heap.size, 0, none⟩) 1 1).ownBlock ∨ v2.ownBlock = some (wr.alloc (.cells #[.string y] 9)).drew.heap.size ∧ (wr.alloc (.cells #[.string y] 9)).drew.heap.size < w2.heap.size) :
    (HIs B (w2.setCell ⟨c, 0, none⟩ v2) c (y :: r) ∧ Below B wr (w2.setCell ⟨c, 0, none⟩ v2) ∧ Off [29, 9] wr (w2.setCell ⟨c, 0, none⟩ v2)) ∧
    ∃ v3, (∀ W, (Instr.slice 29 v2 (some (.int .i64 1)) none none).run Try.prog W = .ok v3 W) ∧ (∃ a3 c3, v3 = .slice a3 r.length c3) ∧
      HIs B ((w2.setCell ⟨c, 0, none⟩ v2).setCell ⟨c, 0, none⟩ v3) c r ∧ Below B wr ((w2.setCell ⟨c, 0, none⟩ v2).setCell ⟨c, 0, none⟩ v3) ∧ Off [29, 9] wr ((w2.setCell ⟨c, 0, none⟩ v2).setCell ⟨c, 0, none⟩ v3) := by
  have hcl : c < wr.heap.size := (Array.getElem?_eq_some_iff.1 hv).1
  obtain ⟨_, _, _, _, _, _, hv2⟩ := drop_facts hv hW hG
  have hb1 : Below B wr w2 := (((Below.refl B wr).alloc (by omega) (.cells #[.string y] 9)).drew).grown hG (by show B ≤ (wr.alloc _).heap.size; simp; omega) (fun k hk => by simp [Value.ownBlock] at hk; omega)
  have ho1 : Off [29, 9] wr w2 := by
    refine Off.trans ((Off.refl _ wr).alloc (.cells #[.string y] 9)) (off_grown (w := (wr.alloc (.cells #[.string y] 9)).drew) hG ?_)
    intro k cs t fr hk hc
    simp only [Value.ownBlock, Option.some.injEq] at hk
    subst hk
    have := heap_alloc_new wr (.cells #[.string y] 9)
    rw [show (wr.alloc (.cells #[.string y] 9)).drew.heap[wr.heap.size]? = _ from this] at hc
    injection hc with hc
    injection hc with _ h2 _
    subst h2
    simp
  have hB2 : ∀ k ∈ Value.owner v2, B ≤ k := by
    intro k hk
    rw [← ob_iff] at hk
    rcases hO with h | ⟨h, _⟩
    · rw [h] at hk; simp [Value.ownBlock] at hk; omega
    · rw [h] at hk
      injection hk with hk
      have : (wr.alloc (.cells #[.string y] 9)).drew.heap.size = wr.heap.size + 1 := by show (wr.alloc _).heap.size = _; simp
      omega
  have hW' : Win w2 9 1 v2 (y :: r).length (sCells (y :: r)) := by rw [List.length_cons, Nat.add_comm]; exact hW
  have I1 : HIs B (w2.setCell ⟨c, 0, none⟩ v2) c (y :: r) := ⟨v2, heap_setCell_same w2 c 0 _ _ v2 hv2, hW'.setCell_far (hW'.apart hv2 (by decide)) _, hBc, hB2⟩
  have hb2 : Below B wr (w2.setCell ⟨c, 0, none⟩ v2) := hb1.setCell (p := ⟨c, 0, none⟩) hBc v2
  have ho2 : Off [29, 9] wr (w2.setCell ⟨c, 0, none⟩ v2) := ho1.setCell (p := ⟨c, 0, none⟩) hv (by simp) v2
  refine ⟨⟨I1, hb2, ho2⟩, ?_⟩
  obtain ⟨v2', h1, h2, h3, h4⟩ := I1
  have hv2' : v2' = v2 := by
    rw [heap_setCell_same w2 c 0 _ _ v2 hv2] at h1
    injection h1 with h1
    injection h1 with h1
    simpa using h1.symm
  subst hv2'
  obtain ⟨v3, hS, hW3, hO3⟩ := h2.lo (P := Try.prog) Try.underlying29 size9 1 (by simp)
  have hW3' : Win (w2.setCell ⟨c, 0, none⟩ v2') 9 1 v3 r.length (sCells r) := by simpa [sCells] using hW3
  obtain ⟨a3, c3, e3, _⟩ := hW3'.slice_form
  refine ⟨v3, hS, ⟨a3, c3, e3⟩, ⟨v3, heap_setCell_same _ c 0 _ _ v3 h1, hW3'.setCell_far (hW3'.apart h1 (by decide)) _, hBc, by rw [hO3]; exact h4⟩, hb2.setCell (p := ⟨c, 0, none⟩) hBc v3, ho2.setCell (p := ⟨c, 0, none⟩) hv (by simp) v3⟩
set_option maxHeartbeats 2000000 in
theorem drop_has {B : Nat} {w : World} {c : Nat} {l : List ByteArray} (h : HIs B w c l) (hp : ∀ x ∈ l, 0 < x.size) (k : Nat) (hk : k ≤ 100000) (hb : (flat l).length ≤ 100000) (hn : l.length ≤ 100000) :
    Calls Try.prog 10 #[.int .i64 (k : Nat), .pointer (some ⟨c, 0, none⟩)] w fun e w' => e = .returned (.tuple #[]) ∧ HIs B w' c (dropS k l) ∧ Below B w w' ∧ Off [29, 9] w w' := by
  have HH : Hid (∃ l', HIs B w c l' ∧ (∀ x ∈ l', 0 < x.size) ∧ dropS k l' = dropS k l ∧ l'.length ≤ 100000 ∧ (flat l').length ≤ 100000 ∧ Below B w w ∧ Off [29, 9] w w) := ⟨l, h, hp, rfl, hn, hb, Below.refl _ _, Off.refl _ _⟩
  clear h hp hb hn
  go_enter Try.func10, Try.ntmps10
  go_wp2
  go_loopw [0, 3] (fun n _ wr => ∃ k' : Nat, n = .int .i64 k' ∧ k' ≤ 100000 ∧ Hid (∃ l', HIs B wr c l' ∧ (∀ x ∈ l', 0 < x.size) ∧ dropS k' l' = dropS k l ∧ l'.length ≤ 100000 ∧ (flat l').length ≤ 100000 ∧ Below B w wr ∧ Off [29, 9] w wr)) (fun n _ _ => (RowKit.intOf n).toNat)
  case atStart => exact ⟨k, rfl, hk, HH⟩
  case round =>
    obtain ⟨k', rfl, hk', hm⟩ := hrel
    clear HH
    obtain ⟨l', hI, hp', hN, hl', hb', hBe, hOf⟩ := hm.out
    by_cases h0 : k' = 0
    · subst h0
      rw [dropS_zero hp'] at hN
      have HE : Hid (HIs B wr c (dropS k l) ∧ Below B w wr ∧ Off [29, 9] w wr) := ⟨hN ▸ hI, hBe, hOf⟩
      clear hm hI hp' hN hBe hOf
      go_wp2
      go_end0
      exact ⟨rfl, HE.out⟩
    · obtain ⟨v, hv, hW, hBc, hBo⟩ := hI
      cases l' with
      | nil =>
        obtain ⟨a, cap, rfl, _, _⟩ := hW.slice_form
        have hc : wr.cell? ⟨c, 0, none⟩ = some (.slice a 0 cap) := by simp [World.cell?, hv]
        have HE : Hid (HIs B wr c (dropS k l) ∧ Below B w wr ∧ Off [29, 9] w wr) := ⟨by rw [← hN]; exact ⟨_, hv, hW, hBc, hBo⟩, hBe, hOf⟩
        clear hm hp' hN hBe hOf hv hW hBc hBo
        go_wp2
        go_end0
        exact ⟨rfl, HE.out⟩
      | cons x r =>
        have hx0 : 0 < x.size := hp' x (by simp)
        have hxs : x.size ≤ 100000 := by rw [flat_cons, List.length_append, size_list] at hb'; omega
        obtain ⟨g, off, cap, rfl, hcx⟩ := hW.elem 0 (.string x) (by simp [sCells])
        have hc : wr.cell? ⟨c, 0, none⟩ = some (.slice (some ⟨g, off, none⟩) (r.length + 1) cap) := by simp [World.cell?, hv]
        have hf : wr.frozen? ⟨c, 0, none⟩ = false := by simp [World.frozen?, hv]
        have hcl : c < wr.heap.size := (Array.getElem?_eq_some_iff.1 hv).1
        simp only [List.length_cons, Nat.add_zero] at hW hcx
        obtain ⟨m, hm'⟩ : ∃ m, m = min k' x.size := ⟨_, rfl⟩
        have hmin : min (k' : Int) (x.size : Int) = (m : Int) := by omega
        have hX := slice_str_lo x m (by omega)
        obtain ⟨v1, hS, hW1, hO1⟩ := hW.lo (P := Try.prog) Try.underlying29 size9 1 (by omega)
        obtain ⟨a1, c1, rfl, _, _⟩ := hW1.slice_form
        have hW1' : Win wr 9 1 (.slice a1 r.length c1) r.length (sCells r) := by simpa [sCells] using hW1
        have hS1 : ∀ W, (Instr.slice 29 (.slice (some ⟨g, off, none⟩) (r.length + 1) cap) (some (.int .i64 1)) none none).run Try.prog W = .ok (.slice a1 r.length c1) W := hS
        have HW1 := Lib.hid hW1'
        obtain ⟨y, hy⟩ : ∃ y, y = x.extract m x.size := ⟨_, rfl⟩
        simp only [← hy] at hX
        have HMIN := Lib.hid hmin
        have HM := Lib.hid hm'
        have HY := Lib.hid hy
        have HV := Lib.hid hv
        clear hv hW hW1 hW1' hO1 hmin hm' hy hS
        have hmin := HMIN.out
        have hrl : r.length ≤ 100000 := by simp at hl'; omega
        have hc2 : (wr.alloc (Obj.cells #[Value.string y] 9)).cell? ⟨c, 0, none⟩ = some (.slice (some ⟨g, off, none⟩) (r.length + 1) cap) := by rw [World.cell?_alloc_lt _ _ _ hcl]; exact hc
        go_wp2
        go_region_law (first
          | (refine step_append_win rfl _ _ _ rfl Try.underlying29 infos rfl rfl (Win.drew (win_one wr _ 9 _ rfl)) _ rfl r.length _ (Win.src (Win.drew (Win.alloc HW1.out _)) Try.underlying29 (sCells_one _)) (by unfold maxLen; omega) (by omega) ?_; intro v2 w2 hW2 hG2 hO2; obtain ⟨g2, off2, c2, rfl, hgc, hcy, hv2⟩ := drop_facts HV.out hW2.out hG2.out; have hc3 : w2.cell? ⟨c, 0, none⟩ = some (.slice (some ⟨g, off, none⟩) (r.length + 1) cap) := (by simp [World.cell?, hv2]); have hf2 : w2.frozen? ⟨c, 0, none⟩ = false := (by simp [World.frozen?, hv2]); have HV2 := Lib.hid hv2; clear hv2))
        all_goals
          obtain ⟨⟨I1, I2, I3⟩, v3, hS3, ⟨a3, c3, rfl⟩, I4, I5, I6⟩ := drop_is HV.out hBc hW2.out hG2.out hO2.out
          have hc4 : (w2.setCell ⟨c, 0, none⟩ (.slice (some ⟨g2, off2, none⟩) (1 + r.length) c2)).cell? ⟨g2, off2, none⟩ = some (.string y) := by
            rw [World.cell?_setCell_other _ _ _ _ (fun e => hgc (by have := congrArg Addr.block e; first | exact this | exact this.symm))]
            exact hcy
          have hcw : c < w2.heap.size := (Array.getElem?_eq_some_iff.1 HV2.out).1
          by_cases hlt : k' < x.size
          · have hy0 : y.toList.isEmpty = false := by
              rw [List.isEmpty_eq_false_iff]
              intro e
              have h1 := size_nil e
              rw [HY.out] at h1
              simp at h1
              have := HM.out
              omega
            have hy1 : ¬ y.toList = [] := by rw [List.isEmpty_eq_false_iff] at hy0; exact hy0
            have hyp : ∀ z ∈ y :: r, 0 < z.size := by
              intro z hz
              simp at hz
              rcases hz with rfl | hz
              · rcases Nat.eq_zero_or_pos z.size with h | h
                · exact absurd (toList_nil h) hy1
                · exact h
              · exact hp' z (by simp [hz])
            have hmk : m = k' := by have := HM.out; omega
            have HQ : Hid (∃ l', HIs B (w2.setCell ⟨c, 0, none⟩ (.slice (some ⟨g2, off2, none⟩) (1 + r.length) c2)) c l' ∧ (∀ x ∈ l', 0 < x.size) ∧ dropS (k' - m) l' = dropS k l ∧ l'.length ≤ 100000 ∧ (flat l').length ≤ 100000 ∧ Below B w (w2.setCell ⟨c, 0, none⟩ (.slice (some ⟨g2, off2, none⟩) (1 + r.length) c2)) ∧ Off [29, 9] w (w2.setCell ⟨c, 0, none⟩ (.slice (some ⟨g2, off2, none⟩) (1 + r.length) c2))) := by
              refine ⟨y :: r, I1, hyp, ?_, by simpa using hl', ?_, hBe.trans I2, hOf.trans I3⟩
              · rw [← hN, hmk, Nat.sub_self, dropS_zero hyp, HY.out, hmk]
                simp [dropS, hlt]
              · rw [flat_cons, List.length_append, size_list] at hb' ⊢
                have : y.size ≤ x.size := by rw [HY.out]; simp
                omega
            clear hm hN hp' hBe hOf hl' hb' I1 I2 I3 hS3 I4 I5 I6 hyp
            go_wp2
            go_roundw
            case rel => exact ⟨k' - m, by congr 1; omega, by omega, HQ⟩
            case measure => simp [RowKit.intOf]; omega
          · have hmk : m = x.size := by have := HM.out; omega
            have hys : y.size = 0 := by rw [HY.out, hmk]; simp
            have hy1 : y.toList = [] := toList_nil hys
            have hy0 : y.toList.isEmpty = true := by rw [hy1]; rfl
            have HQ : Hid (∃ l', HIs B ((w2.setCell ⟨c, 0, none⟩ (.slice (some ⟨g2, off2, none⟩) (1 + r.length) c2)).setCell ⟨c, 0, none⟩ (.slice a3 r.length c3)) c l' ∧ (∀ x ∈ l', 0 < x.size) ∧ dropS (k' - m) l' = dropS k l ∧ l'.length ≤ 100000 ∧ (flat l').length ≤ 100000 ∧
                Below B w ((w2.setCell ⟨c, 0, none⟩ (.slice (some ⟨g2, off2, none⟩) (1 + r.length) c2)).setCell ⟨c, 0, none⟩ (.slice a3 r.length c3)) ∧ Off [29, 9] w ((w2.setCell ⟨c, 0, none⟩ (.slice (some ⟨g2, off2, none⟩) (1 + r.length) c2)).setCell ⟨c, 0, none⟩ (.slice a3 r.length c3))) := by
              refine ⟨r, I4, fun z hz => hp' z (by simp [hz]), ?_, hrl, ?_, hBe.trans I5, hOf.trans I6⟩
              · rw [← hN, hmk]
                simp [dropS, hlt]
              · rw [flat_cons, List.length_append] at hb'
                omega
            have hgc' : c ≠ g2 := Ne.symm hgc
            have hc5 : (w2.setCell ⟨c, 0, none⟩ (.slice (some ⟨g2, off2, none⟩) (1 + r.length) c2)).cell? ⟨c, 0, none⟩ = some (.slice (some ⟨g2, off2, none⟩) (1 + r.length) c2) := by
              have := heap_setCell_same w2 c 0 _ _ (.slice (some ⟨g2, off2, none⟩) (1 + r.length) c2) HV2.out
              simp [World.cell?, this]
            have hf5 : (w2.setCell ⟨c, 0, none⟩ (.slice (some ⟨g2, off2, none⟩) (1 + r.length) c2)).frozen? ⟨c, 0, none⟩ = false := by
              have := heap_setCell_same w2 c 0 _ _ (.slice (some ⟨g2, off2, none⟩) (1 + r.length) c2) HV2.out
              simp [World.frozen?, this]
            have hm0 : 0 < m := by omega
            clear hm hN hp' hBe hOf hl' hb' I1 I2 I3 I4 I5 I6 hmk hys
            go_wp2
            go_roundw
            case rel => exact ⟨k' - m, by congr 1; omega, by omega, HQ⟩
            case measure => simp [RowKit.intOf]; omega
end Go.Proofs.Ytckjbheabbpddaa
