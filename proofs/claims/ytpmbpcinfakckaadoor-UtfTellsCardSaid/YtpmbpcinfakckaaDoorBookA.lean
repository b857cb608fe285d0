/-
  THE HELPERS' BOOK OF LISTS OF INTS (truchmanbook), PART 1: SameInts, copyInts, markInts; append that tells whether it stayed in its block.
-/
import Derived.Test.YtpmbpcinfakckaaDoorKit
namespace Go.Proofs.YtpmbpcinfakckaaDoor
open Go.RowKit
open Go.Lib
def zCells (xs : List Int) : List Value := xs.map (Value.int .i64)
theorem zCells_length (xs : List Int) : (zCells xs).length = xs.length := by simp [zCells]
theorem zCells_get (xs : List Int) (j : Nat) : (zCells xs)[j]? = xs[j]?.map (Value.int .i64) := by simp [zCells]
theorem zCells_append (xs ys : List Int) : zCells (xs ++ ys) = zCells xs ++ zCells ys := by simp [zCells]
theorem zCells_one (xs : List Int) : ∀ u ∈ zCells xs, u.oneCell' = true := by
  intro u hu
  obtain ⟨x, _, rfl⟩ := List.mem_map.1 hu
  rfl
theorem infozz : (Tryd.prog.info? 3).map (fun i => (i.zero, i.size, i.bytes)) = some (some (.int .i64 0), 1, 8) := by kernel_rfl
/-- A list of ints, as a slice shows it. -/
def IWin (w : World) (v : Value) (xs : List Int) : Prop := Win w 3 1 v xs.length (zCells xs)
theorem IWin.below {w w' : World} {v : Value} {xs : List Int} {B : Nat} (h : IWin w v xs) (hb : Below B w w') (hB : ∀ k ∈ Value.owner v, k < B) : IWin w' v xs := Win.keep h fun k hk => hb.block k (hB k hk)
theorem IWin.new {w w' : World} {v : Value} {xs : List Int} (h : IWin w v xs) (hb : Below w.heap.size w w') : IWin w' v xs := h.below hb (Win.lt h)
/-- append, telling where the list lies behind it. -/
theorem Win.append_tell {P : Program} {w : World} {e t : TypeId} {sz : Nat} {v : Value} {n : Nat} {xs : List Value} (h : Win w e sz v n xs) {tx ty : TypeId} {i : TypeInfo} {z : Value} {bytes : Nat} (ht : P.underlying t = some (.slice e)) (hi : P.info? e = some i) (hz : i.zero = some z) (hsize : i.size = sz) (hby : i.bytes = bytes) (hzs : z.cells.size = sz)
    (x : Value) (m : Nat) (news : List Value) (hs : Src P sz tx x m news w) (hm0 : 0 < m) (h63 : n + m ≤ maxLen) (hbytes : (n + m) * bytes ≤ 140737488355328) :
    ∃ v' w', (Builtin.append_ #[t, tx] ty #[v, x]).run P w = .ok v' w' ∧ Win w' e sz v' (n + m) (xs ++ news) ∧ w.grownBy w' v.ownBlock ∧ ((∃ g off cap, v = .slice (some ⟨g, off, none⟩) n cap ∧ v' = .slice (some ⟨g, off, none⟩) (n + m) cap) ∨ v'.ownBlock = some w.heap.size ∧ w.heap.size < w'.heap.size ∧ Below w.heap.size w w') := by
  subst hsize
  subst hby
  have hnl := hs.newsLen
  have hl : (xs ++ news).length = (n + m) * i.size := by rw [List.length_append, h.1, hnl, Nat.add_mul]
  have hsmall : n + m ≤ 9223372036854775807 := by simp only [maxLen] at h63; omega
  have grown : ∀ (old : Nat) (hold : old < n + m) (row : Option Nat),
      Win (w.drew.alloc (.cells ((xs ++ news).toArray ++ Builtin.zeroCells z.cells (grownCap w (n + m) old e - (n + m))) e)) e i.size (.slice (some ⟨w.heap.size, 0, none⟩) (n + m) (grownCap w (n + m) old e)) (n + m) (xs ++ news) ∧
      w.grownBy (w.drew.alloc (.cells ((xs ++ news).toArray ++ Builtin.zeroCells z.cells (grownCap w (n + m) old e - (n + m))) e)) row ∧
      Below w.heap.size w (w.drew.alloc (.cells ((xs ++ news).toArray ++ Builtin.zeroCells z.cells (grownCap w (n + m) old e - (n + m))) e)) := by
    intro old hold row
    have hge := grownCap_ge w (n + m) old e
    have hcm : grownCap w (n + m) old e ≤ maxLen := grownCap_le_maxLen w (n + m) old e h63
    refine ⟨⟨hl, .inr ⟨w.heap.size, 0, _, _, rfl, heap_alloc_new w.drew _, hge, ?_, hcm, ?_⟩⟩, ⟨rfl, rfl, rfl, by simp, fun k hk _ => Below.heap_alloc w.drew _ k hk⟩, (Below.refl w.heap.size w).drew.alloc (Nat.le_refl _) _⟩
    · simp only [Array.size_append, List.size_toArray, size_zeroCells, hzs, hl, Nat.zero_add]
      rw [← Nat.add_mul]
      exact Nat.mul_le_mul_right _ (by omega)
    · simp only [Array.toList_append, List.drop_zero]
      rw [← hl]
      exact List.take_left
  rcases h.2 with ⟨rfl, rfl⟩ | ⟨g, off, cap, cur, rfl, hg, hnc, hsz, hm, hx⟩
  · have hx : xs = [] := List.eq_nil_of_length_eq_zero (by rw [h.1]; simp)
    subst hx
    · have hr := run_append_grow_src (P := P) w t tx ty e i z ht hi hz none 0 0 [] (run_firstCells_none w.drew i.size 0 0 0) x m news hs (by omega) (by omega) (growslice_fits (by omega) (by omega))
      have hgr := grown 0 (by omega) (Value.ownBlock (.slice none 0 0))
      simp only [List.nil_append] at hgr ⊢ hr
      exact ⟨_, _, hr, hgr.1, hgr.2.1, .inr ⟨rfl, by simp, hgr.2.2⟩⟩
  · by_cases hroom : n + m ≤ cap
    · have hb : (n + m) * i.size ≤ cap * i.size := Nat.mul_le_mul_right _ hroom
      rw [Nat.add_mul] at hb
      have hst := run_storeCells_at P g (off + n * i.size) e news 0 cur w hg (by rw [hnl]; omega) hs.one
      simp only [Nat.add_zero] at hst
      have hr : (Builtin.append_ #[t, tx] ty #[.slice (some ⟨g, off, none⟩) n cap, x]).run P w = .ok (.slice (some ⟨g, off, none⟩) (n + m) cap) (w.setRow g (cur.toList.take (off + n * i.size) ++ news ++ cur.toList.drop (off + n * i.size + news.length)).toArray) := by
        rcases hs.kind with ⟨e', hk⟩ | hk <;> simp [Builtin.append_, run_underlying ht, run_underlying hk, sizeOf, typeInfo, hi, hs.len, hroom, hs.cells, Addr.add_lit, hst]
      refine ⟨_, _, hr, ⟨hl, .inr ⟨g, off, cap, _, rfl, setRow_heap w g cur _ e _ hg, hroom, ?_, hm, ?_⟩⟩, ⟨rfl, rfl, rfl, by simp, fun k _ hk => setRow_other w g k _ (fun e => hk (by simp [Value.ownBlock, e]))⟩, .inl ⟨g, off, cap, rfl, rfl⟩⟩
      · simp only [List.size_toArray, List.length_append, List.length_take, List.length_drop, Array.length_toList]
        omega
      · have h1 : (cur.toList.take (off + n * i.size)).length = off + n * i.size := by rw [List.length_take, Array.length_toList]; omega
        rw [List.append_assoc, List.drop_append_of_le_length (by omega), List.drop_take, show off + n * i.size - off = n * i.size by omega, hx, ← List.append_assoc, ← hl]
        exact List.take_left
    · have holds : ∀ j u, xs[j]? = some u → w.drew.cell? ((⟨g, off, none⟩ : Addr).add j) = some u := by
        intro j u hu
        have hj : j < n * i.size := by have := (List.getElem?_eq_some_iff.1 hu).1; rw [h.1] at this; exact this
        rw [← hx, List.getElem?_take_of_lt hj, List.getElem?_drop] at hu
        rw [add_flat]
        show w.cell? _ = _
        simp only [World.cell?, hg]
        simpa using hu
      have hr := run_append_grow_src (P := P) w t tx ty e i z ht hi hz (some ⟨g, off, none⟩) n cap xs (run_firstCells_some w.drew i.size n _ n cap xs h.1 holds) x m news hs (by omega) (by omega) (growslice_fits (by omega) (by omega))
      have hgr := grown cap (by omega) (Value.ownBlock (.slice (some ⟨g, off, none⟩) n cap))
      exact ⟨_, _, hr, hgr.1, hgr.2.1, .inr ⟨rfl, by simp, hgr.2.2⟩⟩
/-- .. at the operation. -/
theorem wpList_append_tell {P : Program} {w : World} {e t : TypeId} {sz : Nat} {v : Value} {n : Nat} {xs : List Value} {ops : Array Oper} {rest : List Oper} {o : Oper} {a : Act} {Q : Exit → Act → World → Prop} (hgd : o.guard = none) (sl x : Operand) (tx : TypeId)
    (ho : o.op = .call { callee := .builtin .append, args := #[sl, x], argTypes := #[t, tx] }) {z : Value} {bytes : Nat}
    (ht : P.underlying t = some (.slice e)) (hi : (P.info? e).map (fun i => (i.zero, i.size, i.bytes)) = some (some z, sz, bytes)) (hzs : z.cells.size = sz)
    (hs : a.eval sl = v) (h : Win w e sz v n xs) (X : Value) (hx : a.eval x = X) (m : Nat) (news : List Value) (hsrc : Src P sz tx X m news w) (hm0 : 0 < m) (h63 : n + m ≤ maxLen) (hbytes : (n + m) * bytes ≤ 140737488355328)
    (hk : ∀ v' w', Hid (Win w' e sz v' (n + m) (xs ++ news)) → Hid (w.grownBy w' v.ownBlock) → Hid ((∃ g off cap, v = .slice (some ⟨g, off, none⟩) n cap ∧ v' = .slice (some ⟨g, off, none⟩) (n + m) cap) ∨ v'.ownBlock = some w.heap.size ∧ w.heap.size < w'.heap.size ∧ Below w.heap.size w w') → wpList P ops Q rest (a.put o.dst v') w') : wpList P ops Q (o :: rest) a w := by
  refine wpList_plain hgd fun K hK => ?_
  cases hq : P.info? e with
  | none => simp [hq] at hi
  | some i =>
    simp only [hq, Option.map_some, Option.some.injEq, Prod.mk.injEq] at hi
    obtain ⟨v', w', hr, h2, h3, h4⟩ := h.append_tell (ty := o.type) ht hq hi.1 hi.2.1 hi.2.2 hzs X m news hsrc hm0 h63 hbytes
    unfold Oper.wp execOp
    simp only [ho, resolve, invoke, builtin, Sem.run_bind, Sem.run_pure, Result.andThen_ok, List.map_toArray, List.map_cons, List.map_nil, hs, hx, hr]
    exact hK _ _ (hk v' w' h2 h3 h4)
set_option maxHeartbeats 1000000 in
/-- SameInts of two lists that read alike. -/
theorem same_ints (w : World) (A C : Option Addr) (n cA cC : Nat) (xs : List Int) (hx : xs.length = n) (hA : 0 < n → ∃ ad, A = some ad ∧ ∀ j z, xs[j]? = some z → w.cell? (ad.add j) = some (.int .i64 z)) (hC : 0 < n → ∃ ad, C = some ad ∧ ∀ j z, xs[j]? = some z → w.cell? (ad.add j) = some (.int .i64 z)) (hn : n ≤ 1000000000) :
    Calls Tryd.prog 20 #[.slice A n cA, .slice C n cC] w fun e w' => e = .returned (.bool true) ∧ ∃ q, w' = w.drewN q := by
  have HA := Lib.hid hA
  have HC := Lib.hid hC
  clear hA hC
  go_enter Tryd.func20, Tryd.ntmps20
  go_wp2
  go_loopw [5] (fun i wr => ∃ k q : Nat, k ≤ n ∧ i = .int .i64 k ∧ wr = w.drewN q) (fun i _ => n - (RowKit.intOf i).toNat)
  case atStart => exact ⟨0, 0, Nat.zero_le _, rfl, rfl⟩
  case round =>
    obtain ⟨k, q, hk, rfl, rfl⟩ := hrel
    by_cases hlt : k < n
    · obtain ⟨a, rfl, ha⟩ := HA.out (by omega)
      obtain ⟨c, rfl, hc⟩ := HC.out (by omega)
      have hz : xs[k]? = some (xs[k]'(by omega)) := List.getElem?_eq_getElem (by omega)
      have h1 := ha k _ hz
      have h2 := hc k _ hz
      generalize xs[k]'(by omega) = z at h1 h2
      clear ha hc hz
      go_wp2
      go_quiet (fail)
      go_wp2
      go_roundw
      case rel => exact ⟨k + 1, q + nq, by omega, by go_num, by simp only [World.drewN]⟩
      case measure => simp [RowKit.intOf]; omega
    · go_wp2
      go_ret
      exact ⟨rfl, q, rfl⟩
/-- The k-th mark of list i. -/
def mk (i k : Nat) : Int := -1000000 * (i : Int) - (k : Int) - 7
/-- n marks of list i, from the f-th on. -/
def marks (i f n : Nat) : List Int := (List.range n).map fun t => mk i (f + t)
theorem marks_length (i f n : Nat) : (marks i f n).length = n := by simp [marks]
theorem marks_snoc (i f n : Nat) : marks i f (n + 1) = marks i f n ++ [mk i (f + n)] := by simp [marks, List.range_succ]
theorem marks_more (i n m : Nat) : marks i 0 n ++ marks i n m = marks i 0 (n + m) := by
  induction m with
  | zero => simp [marks]
  | succ m ih => rw [marks_snoc, ← List.append_assoc, ih, ← Nat.add_assoc, marks_snoc, Nat.zero_add]
theorem fresh_grown {w wr w2 : World} {v v2 : Value} {o : Obj} (h : Fresh w wr v) (hG : (wr.alloc o).grownBy w2 v.ownBlock) (hO : v2.ownBlock = v.ownBlock ∨ v2.ownBlock = some (wr.heap.size + 1) ∧ wr.heap.size + 1 < w2.heap.size) : Fresh w w2 v2 := by
  have hsz := h.1.size
  refine ⟨(h.1.alloc hsz o).grown hG (by simp; omega) (fun k hk => h.2 k ((ob_iff _ _).1 hk)), fun k hk => ?_⟩
  rw [← ob_iff] at hk
  rcases hO with e | ⟨e, _⟩
  · exact h.2 k ((ob_iff _ _).1 (e ▸ hk))
  · rw [e] at hk
    injection hk with hk
    omega
set_option maxHeartbeats 1000000 in
/-- markInts: a new list of marks. -/
theorem mark_any (i f n : Nat) (hi : i ≤ 1000) (hf : f ≤ 100000) (hn : n ≤ 100000) (w : World) :
    Calls Tryd.prog 45 #[.int .i64 i, .int .i64 f, .int .i64 n] w fun e w' => ∃ v, e = .returned v ∧ IWin w' v (marks i f n) ∧ Fresh w w' v := by
  go_enter Tryd.func45, Tryd.ntmps45
  go_wp2
  go_loopw [7, 8] (fun v k wr => ∃ t : Nat, t ≤ n ∧ k = .int .i64 ((f : Int) + (t : Int)) ∧ Hid (IWin wr v (marks i f t)) ∧ Hid (Fresh w wr v)) (fun _ k _ => f + n - (RowKit.intOf k).toNat)
  case atStart => exact ⟨0, Nat.zero_le _, by simp, Lib.hid (Win.nil_ _ _ _), Lib.hid ⟨Below.refl _ _, by simp [Value.owner]⟩⟩
  case round =>
    obtain ⟨t, ht, rfl, HW, HF⟩ := hrel
    obtain ⟨a, c, rfl, _, _⟩ := HW.out.slice_form
    by_cases hlt : t < n
    · have hml := marks_length i f t
      have HF' := HF
      rw [hml] at HF'
      have h1 : (f : Int) + (t : Int) < (f : Int) + (n : Int) := by omega
      go_wp2_with (at_builtin; refine wpList_append_win rfl _ _ _ rfl Tryd.underlying39 infozz rfl rfl (Win.alloc HW.out _) _ rfl 1 [.int .i64 (mk i (f + t))] (src_one _ Tryd.underlying39 _ _ _ rfl ?d3) ?d1 ?d2 ?_)
      case d1 => unfold maxLen; omega
      case d2 => omega
      case d3 => rfl
      intro v2 w2 hW2 hG2 hO2
      have HF2 := Lib.hid (fresh_grown HF'.out hG2.out hO2.out)
      obtain ⟨a2, c2, rfl, _, _⟩ := hW2.out.slice_form
      have HN : Hid (IWin w2 (.slice a2 (t + 1) c2) (marks i f (t + 1))) := Lib.hid (by
        unfold IWin
        rw [marks_length, marks_snoc, zCells_append]
        exact hW2.out)
      clear hW2 hG2 hO2 HF HF' HW
      go_wp2
      go_roundw
      case rel => exact ⟨t + 1, by omega, by go_num, HN, HF2⟩
      case measure => simp [RowKit.intOf]; omega
    · have h1 : ¬ (f : Int) + (t : Int) < (f : Int) + (n : Int) := by omega
      have e : t = n := by omega
      subst e
      go_wp2
      go_ret
      exact ⟨_, rfl, HW.out, HF.out⟩
set_option maxHeartbeats 1000000 in
/-- copyInts: a new list with the same in it. -/
theorem copy_any {w : World} {v : Value} {xs : List Int} (h : IWin w v xs) (hn : xs.length ≤ 1000000) :
    Calls Tryd.prog 27 #[v] w fun e w' => ∃ v', e = .returned v' ∧ IWin w' v' xs ∧ Fresh w w' v' := by
  have H := Lib.hid h
  obtain ⟨a, c, rfl, _, _⟩ := h.slice_form
  clear h
  go_enter Tryd.func27, Tryd.ntmps27
  go_wp2_with (at_builtin; refine wpList_append_win rfl _ _ _ rfl Tryd.underlying39 infozz rfl rfl (Win.nil_ _ _ _) _ rfl xs.length (zCells xs) (Win.src H.out Tryd.underlying39 (zCells_one xs)) ?d1 ?d2 ?_)
  case d1 => unfold maxLen; omega
  case d2 => omega
  intro v2 w2 hW2 hG2 hO2
  obtain ⟨a2, c2, rfl, _, _⟩ := hW2.out.slice_form
  have hres : IWin w2 (.slice a2 xs.length c2) xs ∧ Fresh w w2 (.slice a2 xs.length c2) := by
    refine ⟨?_, (Below.refl _ _).grown hG2.out (Nat.le_refl _) (fun k hk => by simp [Value.ownBlock] at hk), fun k hk => ?_⟩
    · unfold IWin
      exact hW2.out
    · rw [← ob_iff] at hk
      rcases hO2.out with e | ⟨e, _⟩
      · rw [e] at hk; simp [Value.ownBlock] at hk
      · rw [e] at hk; injection hk with hk; omega
  have HR := Lib.hid hres
  clear hres hW2 hG2 hO2 H
  go_wp2
  go_ret
  exact ⟨_, rfl, HR.out⟩
/-- SameInts of two lists that hold the same. -/
theorem same_wins {w : World} {v u : Value} {xs : List Int} (h : IWin w v xs) (k : IWin w u xs) (hn : xs.length ≤ 1000000) :
    Calls Tryd.prog 20 #[v, u] w fun e w' => e = .returned (.bool true) ∧ ∃ q, w' = w.drewN q := by
  have cell : ∀ {v : Value} {a : Option Addr} {c : Nat}, IWin w v xs → v = .slice a xs.length c → 0 < xs.length → ∃ ad, a = some ad ∧ ∀ j z, xs[j]? = some z → w.cell? (ad.add j) = some (.int .i64 z) := by
    intro v a c hv e h0
    obtain ⟨g, off, cap, e1, _, _, _, _, h2⟩ := Win.form hv h0
    rw [e] at e1
    injection e1 with e1 _ _
    subst e1
    refine ⟨_, rfl, fun j z hj => ?_⟩
    rw [add_flat]
    exact (h2 j _ (by rw [zCells_get, hj]; rfl)).1
  obtain ⟨a, c, rfl, _, _⟩ := Win.slice_form h
  obtain ⟨a', c', rfl, _, _⟩ := Win.slice_form k
  exact same_ints w a a' xs.length c c' xs rfl (cell h rfl) (cell k rfl) (by omega)
end Go.Proofs.YtpmbpcinfakckaaDoor
