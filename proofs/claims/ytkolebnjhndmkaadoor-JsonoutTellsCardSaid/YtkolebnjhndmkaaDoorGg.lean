/-
  CONTRACTS of jsonout.Writer and jsonout.All.
-/
import Derived.Test.YtkolebnjhndmkaaDoorGa
import Derived.Deep.QuietTactic
import Derived.Test.YtkolebnjhndmkaaDoorGc
import Derived.Test.YtkolebnjhndmkaaDoorGb
import Derived.Test.YtkolebnjhndmkaaDoorGf
/-
  CONTRACTS of jsonout.Writer, part A: where it stands in memory; inMap, atKey, sign, Done.
-/
namespace Go.Proofs.YtkolebnjhndmkaaDoor
open Go.RowKit
open Go.Lib
/-- The place. -/
def plO (q : Os) : Nat :=
  match q.s with
  | [] => if q.dn = true then 2 else 0
  | b :: _ => if b.map = true ∧ b.have_ % 2 = 1 then 1 else if b.have_ = 0 then 0 else 2
/-- Is the innermost container a map? -/
def topM : List Bx → Bool
  | [] => false
  | x :: _ => x.map
/-- Of each open container whether it is a map, the outermost first. -/
def mapsO (s : List Bx) : List Value := s.reverse.map fun b => .bool b.map
theorem mapsO_length (s : List Bx) : (mapsO s).length = s.length := by simp [mapsO]
theorem mapsO_cons (b : Bx) (r : List Bx) : mapsO (b :: r) = mapsO r ++ [.bool b.map] := by simp [mapsO]
theorem mapsO_incB (s : List Bx) : mapsO (incB s) = mapsO s := by cases s <;> simp [mapsO, incB]
theorem mapsO_last (b : Bx) (r : List Bx) : (mapsO (b :: r))[r.length]? = some (.bool b.map) := by
  rw [mapsO_cons, List.getElem?_append_right (by rw [mapsO_length]; omega), mapsO_length, Nat.sub_self]
  rfl
/-- Containers behind the innermost one: none waits for its first part, or for a value. -/
def WfO : List Bx → Prop
  | [] => True
  | _ :: r => ∀ b ∈ r, b.have_ ≠ 0 ∧ ¬ (b.map = true ∧ b.have_ % 2 = 1)
theorem WfO.inc {s : List Bx} (h : WfO s) : WfO (incB s) := by cases s <;> exact h
theorem WfO.tail {x : Bx} {r : List Bx} (h : WfO (x :: r)) : WfO r := by
  cases r with
  | nil => trivial
  | cons y r => exact fun b hb => h b (List.mem_cons_of_mem _ hb)
theorem WfO.open_ {s : List Bx} (h : WfO s) (hk : keyB s = false) (m : Bool) (c : Int) : WfO (⟨m, c, 0⟩ :: incB s) := by
  cases s with
  | nil => simp [WfO, incB]
  | cons x r =>
    intro b hb
    simp only [incB, List.mem_cons] at hb
    rcases hb with rfl | hb
    · refine ⟨by simp, ?_⟩
      rintro ⟨h1, h2⟩
      simp only at h1 h2
      simp only [keyB, h1, Bool.true_and, beq_eq_false_iff_ne] at hk
      omega
    · exact h b hb
/-- A Writer at offset o of block b; its own row is one of the blocks F. -/
structure JAt (w : World) (b o : Nat) (F : List Nat) (q : Os) : Prop where
  cells : ∃ a cp, At w b o [.int .i64 (plO q), .slice a q.s.length cp] ∧ Win w 4 1 (.slice a q.s.length cp) q.s.length (mapsO q.s) ∧ Value.owner (.slice a q.s.length cp) = F
  blk : ∃ cs t fr, w.heap[b]? = some (.cells cs t fr) ∧ t ≠ 4
  fin : q.dn = true → q.s = []
  wf : WfO q.s
theorem JAt.lt {w : World} {b o : Nat} {F : List Nat} {q : Os} (h : JAt w b o F q) : b < w.heap.size := by
  obtain ⟨cs, t, fr, hc, _⟩ := h.blk
  exact (Array.getElem?_eq_some_iff.1 hc).1
theorem JAt.row {w : World} {b o : Nat} {F : List Nat} {q : Os} (h : JAt w b o F q) : ∀ k ∈ F, k < w.heap.size ∧ k ≠ b ∧ ∃ cur, w.heap[k]? = some (.cells cur 4 (0, 0)) := by
  obtain ⟨a, cp, _, hW, hF⟩ := h.cells
  obtain ⟨cs, t, fr, hc, ht⟩ := h.blk
  subst hF
  exact fun k hk => ⟨hW.lt k hk, fun e => hW.apart hc (fun e' => ht e'.symm) (e ▸ hk), hW.typed k hk⟩
theorem JAt.keep {w w' : World} {b o : Nat} {F : List Nat} {q : Os} (h : JAt w b o F q) (hk : ∀ k, k = b ∨ k ∈ F → w'.heap[k]? = w.heap[k]?) : JAt w' b o F q := by
  obtain ⟨a, cp, hA, hW, hF⟩ := h.cells
  obtain ⟨cs, t, fr, hc, ht⟩ := h.blk
  exact ⟨⟨a, cp, hA.keep (hk b (.inl rfl)), hW.keep (fun k ho => hk k (.inr (hF ▸ ho))), hF⟩, ⟨cs, t, fr, (hk b (.inl rfl)).trans hc, ht⟩, h.fin, h.wf⟩
theorem JAt.go {w w' : World} {b o : Nat} {F : List Nat} {q : Os} (h : JAt w b o F q) (k : Below w.heap.size w w') : JAt w' b o F q :=
  h.keep fun i hi => k.block i (hi.elim (fun e => e ▸ h.lt) (fun hi => (h.row i hi).1))
theorem JAt.drewN {w : World} {b o : Nat} {F : List Nat} {q : Os} (h : JAt w b o F q) (n : Nat) : JAt (w.drewN n) b o F q := h.keep fun _ _ => rfl
theorem JAt.alloc {w : World} {b o : Nat} {F : List Nat} {q : Os} (h : JAt w b o F q) (x : Obj) : JAt (w.alloc x) b o F q := h.go (up_alloc (Below.refl _ _) x)
/-- Only the Writer's cells have turned, and its row. -/
structure Jf (b o : Nat) (F F' : List Nat) (w w' : World) : Prop where
  step : Step (b :: F) (b :: F') w w'
  shape : ∀ (c : Array Value) (t : TypeId) (fr : Nat × Nat), w.heap[b]? = some (.cells c t fr) → ∃ c' : Array Value, w'.heap[b]? = some (.cells c' t fr) ∧ c'.size = c.size
  cell : ∀ k, (k < o ∨ o + 2 ≤ k) → w'.cell? ⟨b, k, none⟩ = w.cell? ⟨b, k, none⟩
theorem Jf.refl (b o : Nat) (F : List Nat) (w : World) : Jf b o F F w w := ⟨Step.refl _ _, fun c _ _ h => ⟨c, h, rfl⟩, fun _ _ => rfl⟩
theorem Jf.trans {b o : Nat} {F F' F'' : List Nat} {w w1 w2 : World} (h : Jf b o F F' w w1) (k : Jf b o F' F'' w1 w2) : Jf b o F F'' w w2 :=
  ⟨h.step.trans k.step, fun c t fr hc => by
    obtain ⟨c1, h1, s1⟩ := h.shape c t fr hc
    obtain ⟨c2, h2, s2⟩ := k.shape c1 t fr h1
    exact ⟨c2, h2, s2.trans s1⟩, fun i hi => (k.cell i hi).trans (h.cell i hi)⟩
theorem Jf.of {b o : Nat} {F : List Nat} {w w' : World} (k : Below w.heap.size w w') (hb : b < w.heap.size) : Jf b o F F w w' :=
  ⟨⟨k.os, k.tape, k.output, k.size, fun i hi _ => k.block i hi, fun _ h => .inl h⟩, fun c _ _ hc => ⟨c, (k.block b hb).trans hc, rfl⟩, fun _ _ => World.cell?_of_block (w := w) (k.block b hb)⟩
theorem Jf.drewN {b o : Nat} {F F' : List Nat} {w w' : World} (h : Jf b o F F' w w') (n : Nat) : Jf b o F F' w (w'.drewN n) := ⟨h.step.drewN n, h.shape, h.cell⟩
theorem jf_set {b o : Nat} {F : List Nat} (w : World) (k : Nat) (v : Value) (hk : o ≤ k ∧ k < o + 2) : Jf b o F F w (w.setCell ⟨b, k, none⟩ v) :=
  ⟨step_setCell _ _ _ _ (by simp), (sub_setCell (b := b) (o := o) (n := 2) w k v hk).shape, (sub_setCell (b := b) (o := o) (n := 2) w k v hk).cell⟩
theorem Jf.set {b o : Nat} {F F' : List Nat} {w w' : World} (h : Jf b o F F' w w') (k : Nat) (v : Value) (hk : o ≤ k ∧ k < o + 2) : Jf b o F F' w (w'.setCell ⟨b, k, none⟩ v) := h.trans (jf_set w' k v hk)
theorem Jf.up {b o : Nat} {F F' : List Nat} {w w1 w2 : World} (h : Jf b o F F' w w1) (hb : b < w.heap.size) (k : Below w1.heap.size w1 w2) : Jf b o F F' w w2 :=
  h.trans (Jf.of k (Nat.lt_of_lt_of_le hb h.step.size))
theorem Jf.below {b o B : Nat} {F F' : List Nat} {w w' : World} (h : Jf b o F F' w w') (hb : B ≤ b) (hF : ∀ k ∈ F, B ≤ k) (hw : B ≤ w.heap.size) : Below B w w' :=
  h.step.below (fun k hk => (List.mem_cons.1 hk).elim (fun e => e ▸ hb) (fun hk => hF k hk)) hw
theorem oat_two {w : World} {b o : Nat} {v0 v1 : Value} (h : At w b o [v0, v1]) : (w.cell? ⟨b, o, none⟩ = some v0 ∧ w.frozen? ⟨b, o, none⟩ = false) ∧ (w.cell? ⟨b, o + 1, none⟩ = some v1 ∧ w.frozen? ⟨b, o + 1, none⟩ = false) :=
  ⟨h 0 v0 rfl, h 1 v1 rfl⟩
/-- The place alone. -/
theorem JAt.place {w : World} {b o : Nat} {F : List Nat} {q q' : Os} (h : JAt w b o F q) (hm : mapsO q'.s = mapsO q.s) (hf : q'.dn = true → q'.s = []) (hw : WfO q'.s) :
    JAt (w.setCell ⟨b, o, none⟩ (.int .i64 (plO q'))) b o F q' ∧ Jf b o F F w (w.setCell ⟨b, o, none⟩ (.int .i64 (plO q'))) := by
  obtain ⟨a, cp, hA, hW, hF⟩ := h.cells
  obtain ⟨cs, t, fr, hc, ht⟩ := h.blk
  have hl : q'.s.length = q.s.length := by rw [← mapsO_length, hm, mapsO_length]
  have hap : b ∉ Value.owner (.slice a q.s.length cp) := hW.apart hc (fun e => ht e.symm)
  have hset := hA.set 0 (by simp) (.int .i64 (plO q'))
  refine ⟨⟨⟨a, cp, ?_, ?_, ?_⟩, ⟨_, t, fr, heap_setCell_at w ⟨b, o, none⟩ _ _ _ _ rfl hc, ht⟩, hf, hw⟩, jf_set w o _ (by omega)⟩
  · rw [hl]
    simpa using hset
  · rw [hl, hm]
    exact hW.setCell_far hap _
  · rw [hl]
    exact hF
set_option maxRecDepth 100000 in
set_option maxHeartbeats 2000000 in
theorem in_mapO {w : World} {b o : Nat} {F : List Nat} {q : Os} (h : JAt w b o F q) (hs : q.s.length ≤ 1000) :
    Calls Tryd.prog 49 #[.pointer (some ⟨b, o, none⟩)] w fun r w' => r = .returned (.bool (topM q.s)) ∧ w = w' := by
  obtain ⟨a, cp, hA, hW, hF⟩ := h.cells
  obtain ⟨⟨c0, _⟩, ⟨c1, _⟩⟩ := oat_two hA
  obtain ⟨s, dn⟩ := q
  simp only at *
  cases s with
  | nil =>
    simp only [List.length_nil] at c1
    clear h hA hW hF hs c0
    go_enter Tryd.func49, Tryd.ntmps49
    go_wp2
    go_ret
    exact ⟨rfl, rfl⟩
  | cons x r =>
    obtain ⟨g, off, c2, hv, _, _, _, _, h3⟩ := hW.form (by simp)
    obtain ⟨y0, _⟩ := h3 r.length _ (mapsO_last x r)
    injection hv with hv1 hv2 hv3
    subst hv1 hv3
    simp only [List.length_cons, topM] at c1 hs ⊢
    obtain ⟨xm, xc, xh⟩ := x
    simp only at y0 ⊢
    generalize r.length = n at *
    have hw : IntKind.i64.wrap ((n : Int) + 1 - 1) = (n : Int) := by simp only [IntKind.wrap_i64]; omega
    have h0 : (0 < (n : Int) + 1) = True := by simp
    clear h hA hW hF h3 c0 hv2
    go_enter Tryd.func49, Tryd.ntmps49
    go_wp2
    go_ret
    exact ⟨rfl, rfl⟩
end Go.Proofs.YtkolebnjhndmkaaDoor
/-
  CONTRACTS of jsonout.Writer, part B: atKey, sign, Done, begin, end.
-/
namespace Go.Proofs.YtkolebnjhndmkaaDoor
open Go.RowKit
open Go.Lib
theorem plO_key (q : Os) (hf : q.dn = true → q.s = []) : keyB q.s = true ↔ (plO q ≠ 1 ∧ topM q.s = true) := by
  obtain ⟨s, dn⟩ := q
  cases s with
  | nil => simp [keyB, topM]
  | cons b r =>
    simp only [keyB, plO, topM, Bool.and_eq_true, beq_iff_eq]
    constructor
    · rintro ⟨h1, h2⟩
      refine ⟨?_, h1⟩
      rw [if_neg (by omega)]
      split <;> omega
    · rintro ⟨h1, h2⟩
      refine ⟨h2, ?_⟩
      by_cases h3 : b.have_ % 2 = 1
      · rw [if_pos ⟨h2, h3⟩] at h1
        omega
      · omega
set_option maxRecDepth 100000 in
set_option maxHeartbeats 2000000 in
theorem at_keyO {w : World} {b o : Nat} {F : List Nat} {q : Os} (h : JAt w b o F q) (hs : q.s.length ≤ 1000) :
    Calls Tryd.prog 38 #[.pointer (some ⟨b, o, none⟩)] w fun r w' => r = .returned (.bool (keyB q.s)) ∧ w = w' := by
  have hM0 := in_mapO h hs
  have hk := plO_key q h.fin
  obtain ⟨a, cp, hA, hW, hF⟩ := h.cells
  obtain ⟨⟨c0, _⟩, _⟩ := oat_two hA
  generalize hm : topM q.s = m at *
  have hp : plO q = 0 ∨ plO q = 1 ∨ plO q = 2 := by
    unfold plO
    repeat' split
    all_goals simp
  generalize plO q = p at *
  have hkk : keyB q.s = (decide (p ≠ 1) && m) := by
    cases hq : keyB q.s with
    | true => have := hk.1 hq; simp [this.1, this.2]
    | false =>
      cases hb : (decide (p ≠ 1) && m) with
      | false => rfl
      | true =>
        have : keyB q.s = true := hk.2 (by simpa using hb)
        rw [hq] at this
        cases this
  rw [hkk]
  have HM := Lib.hid hM0
  clear h hA hW hF hk hkk hm hM0
  rcases hp with rfl | rfl | rfl
  all_goals
    go_enter Tryd.func38, Tryd.ntmps38
    first
    | (go_wp2_with fail
       refine HM.out.mono ?_
       rintro r w1 ⟨rfl, rfl⟩
       go_wp2
       go_ret
       exact ⟨by simp, rfl⟩)
    | (go_wp2
       go_ret
       exact ⟨by simp, rfl⟩)
set_option maxRecDepth 100000 in
theorem sign_pl (q : Os) (hf : q.dn = false) : sepW q.s = if plO q = 1 then [58] else if plO q = 2 then [44] else [] := by
  obtain ⟨s, dn⟩ := q
  obtain rfl : dn = false := hf
  cases s with
  | nil => simp [sepW, plO]
  | cons b r =>
    simp only [sepW]
    by_cases h1 : b.map = true ∧ b.have_ % 2 = 1
    · have e : plO ⟨b :: r, false⟩ = 1 := by
        unfold plO
        simp only
        rw [if_pos h1]
      rw [e, if_neg (by omega), if_pos h1]
      rfl
    · by_cases h0 : b.have_ = 0
      · have e : plO ⟨b :: r, false⟩ = 0 := by
          unfold plO
          simp only
          rw [if_neg h1, if_pos h0]
        rw [e, if_pos h0]
        rfl
      · have e : plO ⟨b :: r, false⟩ = 2 := by
          unfold plO
          simp only
          rw [if_neg h1, if_neg h0]
        rw [e, if_neg h0, if_neg h1]
        rfl
set_option maxRecDepth 100000 in
set_option maxHeartbeats 2000000 in
theorem signO {w : World} {b o : Nat} {F : List Nat} {q : Os} (h : JAt w b o F q) (hd : q.dn = false) :
    Calls Tryd.prog 40 #[.pointer (some ⟨b, o, none⟩)] w fun r w' => r = .returned (.string ⟨(sepW q.s).toArray⟩) ∧ w = w' := by
  rw [sign_pl q hd]
  obtain ⟨a, cp, hA, hW, hF⟩ := h.cells
  obtain ⟨⟨c0, _⟩, _⟩ := oat_two hA
  have hp : plO q = 0 ∨ plO q = 1 ∨ plO q = 2 := by
    unfold plO
    repeat' split
    all_goals simp
  generalize plO q = p at *
  clear h hA hW hF
  rcases hp with rfl | rfl | rfl
  all_goals
    go_enter Tryd.func40, Tryd.ntmps40
    go_wp2
    go_ret
    exact ⟨rfl, rfl⟩
set_option maxRecDepth 100000 in
set_option maxHeartbeats 2000000 in
theorem doneO {w : World} {b o : Nat} {F : List Nat} {q : Os} (h : JAt w b o F q) :
    Calls Tryd.prog 14 #[.pointer (some ⟨b, o, none⟩)] w fun r w' => r = .returned (.bool q.dn) ∧ w = w' := by
  obtain ⟨a, cp, hA, hW, hF⟩ := h.cells
  obtain ⟨⟨c0, _⟩, ⟨c1, _⟩⟩ := oat_two hA
  have hf := h.fin
  obtain ⟨s, dn⟩ := q
  simp only at *
  clear h hA hW hF
  cases s with
  | nil =>
    simp only [List.length_nil, plO] at c0 c1
    cases dn with
    | true =>
      simp only [if_true] at c0
      go_enter Tryd.func14, Tryd.ntmps14
      go_wp2
      all_goals go_ret
      all_goals exact ⟨rfl, rfl⟩
    | false =>
      simp only [Bool.false_eq_true, if_false] at c0
      go_enter Tryd.func14, Tryd.ntmps14
      go_wp2
      all_goals go_ret
      all_goals exact ⟨rfl, rfl⟩
  | cons x r =>
    have hdn : dn = false := by
      cases dn with
      | false => rfl
      | true => simp at hf
    subst hdn
    simp only [List.length_cons] at c1
    generalize plO _ = p at *
    generalize r.length = n at *
    have hz : ((n : Int) + 1 == 0) = false := by rw [beq_eq_false_iff_ne]; omega
    go_enter Tryd.func14, Tryd.ntmps14
    go_wp2
    all_goals go_ret
    all_goals exact ⟨rfl, rfl⟩
theorem odone_nil (w : World) : Calls Tryd.prog 14 #[.pointer none] w fun r w' => r = .returned (.bool false) ∧ w = w' := by
  go_enter Tryd.func14, Tryd.ntmps14
  go_wp2
  all_goals go_ret
  all_goals exact ⟨rfl, rfl⟩
theorem ostep_nil (v : Value) (w : World) : Calls Tryd.prog 11 #[.pointer none, v] w fun r w' => r = .returned (.tuple #[.string ⟨#[]⟩, .int .i64 14]) ∧ w = w' := by
  go_enter Tryd.func11, Tryd.ntmps11
  go_wp2
  all_goals go_ret2
  all_goals exact ⟨rfl, rfl⟩
theorem info_boolr : (Tryd.prog.info? 4).map (fun i => (i.zero, i.size, i.bytes)) = some (some (.bool false), 1, 1) := by kernel_rfl
theorem bools_one (s : List Bx) : ∀ u ∈ mapsO s, u.oneCell' = true := by
  intro u hu
  obtain ⟨x, _, rfl⟩ := List.mem_map.1 hu
  rfl
set_option maxRecDepth 100000 in
set_option maxHeartbeats 4000000 in
/-- A container begins: the row grows, the place is that of the first one. -/
theorem beginO {w : World} {b o : Nat} {F : List Nat} {q : Os} (h : JAt w b o F q) (_hd : q.dn = false) (hs : q.s.length ≤ 1000) (hk : keyB q.s = false) (m : Bool) (c : Int) :
    Calls Tryd.prog 41 #[.pointer (some ⟨b, o, none⟩), .bool m] w fun r w' => r = .returned (.string ⟨#[if m = true then 123 else 91]⟩) ∧ ∃ F', JAt w' b o F' ⟨⟨m, c, 0⟩ :: incB q.s, false⟩ ∧ Jf b o F F' w w' := by
  obtain ⟨a, cp, hA, hW, hF⟩ := h.cells
  obtain ⟨⟨c0, f0⟩, ⟨c1, f1⟩⟩ := oat_two hA
  have HH := Lib.hid h
  have HA := Lib.hid hA
  have HF := Lib.hid hF
  obtain ⟨n, hn⟩ : ∃ n, q.s.length = n := ⟨_, rfl⟩
  rw [hn] at c1 hW hs
  have Hn := Lib.hid hn
  have HW := Lib.hid hW
  have hfin : ∀ (v3 : Value) (w3 : World), Hid (Win w3 4 1 v3 (n + 1) (mapsO q.s ++ [.bool m])) → Hid ((w.alloc (.cells #[.bool m] 4)).grownBy w3 (Value.slice a n cp).ownBlock) →
      Hid (v3.ownBlock = (Value.slice a n cp).ownBlock ∨ v3.ownBlock = some (w.heap.size + 1) ∧ w.heap.size + 1 < w3.heap.size) →
      ∃ a3 c3, v3 = .slice a3 (n + 1) c3 ∧ ((∃ u, w3.cell? ⟨b, o, none⟩ = some u ∧ w3.frozen? ⟨b, o, none⟩ = false) ∧ (∃ u, w3.cell? ⟨b, o + 1, none⟩ = some u) ∧ w3.frozen? ⟨b, o + 1, none⟩ = false) ∧
      Hid (∃ F', JAt ((w3.setCell ⟨b, o + 1, none⟩ (.slice a3 (n + 1) c3)).setCell ⟨b, o, none⟩ (.int .i64 0)) b o F' ⟨⟨m, c, 0⟩ :: incB q.s, false⟩ ∧ Jf b o F F' w ((w3.setCell ⟨b, o + 1, none⟩ (.slice a3 (n + 1) c3)).setCell ⟨b, o, none⟩ (.int .i64 0))) := by
    intro v3 w3 hW3 hG3 hO3
    obtain ⟨a3, c3, rfl, _, _⟩ := Win.slice_form hW3.out
    obtain ⟨cs, t, fr, hc, ht⟩ := HH.out.blk
    have hbl := HH.out.lt
    have hap : b ∉ Value.owner (.slice a n cp) := HW.out.apart hc (fun e => ht e.symm)
    have hblk : w3.heap[b]? = w.heap[b]? := (hG3.out.block b (by simp; omega) (fun e => hap ((ob_iff _ _).1 e.symm))).trans (Below.heap_alloc w _ b hbl)
    have A3 := HA.out.keep hblk
    obtain ⟨⟨p0, g0⟩, ⟨p1, g1⟩⟩ := oat_two A3
    have hw3 : w3.heap[b]? = some (.cells cs t fr) := hblk.trans hc
    have hap3 : b ∉ Value.owner (.slice a3 (n + 1) c3) := hW3.out.apart hw3 (fun e => ht e.symm)
    refine ⟨a3, c3, rfl, ⟨⟨_, p0, g0⟩, ⟨_, p1⟩, g1⟩, Lib.hid ⟨Value.owner (.slice a3 (n + 1) c3), ?_, ?_⟩⟩
    · have hset := (A3.set 1 (by simp) (.slice a3 (n + 1) c3)).set 0 (by simp) (.int .i64 0)
      have hl : ((⟨m, c, 0⟩ : Bx) :: incB q.s).length = n + 1 := by rw [← Hn.out, List.length_cons]; cases q.s <;> rfl
      refine ⟨⟨a3, c3, ?_, ?_, ?_⟩, ⟨_, t, fr, heap_setCell_at _ ⟨b, o, none⟩ _ _ _ _ rfl (heap_setCell_at w3 ⟨b, o + 1, none⟩ _ _ _ _ rfl hw3), ht⟩, fun e => (by cases e), HH.out.wf.open_ hk m c⟩
      · simp only [hl]
        have hpl : plO ⟨⟨m, c, 0⟩ :: incB q.s, false⟩ = 0 := by simp [plO]
        rw [hpl]
        simpa using hset
      · simp only [hl]
        rw [mapsO_cons, mapsO_incB]
        exact (hW3.out.setCell_far hap3 _).setCell_far hap3 _
      · simp only [hl]
    · have hstep : Step (b :: F) (b :: Value.owner (.slice a3 (n + 1) c3)) w w3 := by
        refine ⟨hG3.out.os, hG3.out.tape, hG3.out.output, Nat.le_trans (by simp) hG3.out.size, fun k hk hkF => ?_, fun k hk => ?_⟩
        · refine (hG3.out.block k (by simp; omega) (fun e => hkF ?_)).trans (Below.heap_alloc w _ k hk)
          refine List.mem_cons_of_mem _ ?_
          rw [← HF.out, Hn.out]
          exact (ob_iff _ _).1 e.symm
        · rcases List.mem_cons.1 hk with rfl | hk
          · exact .inl (by simp)
          · rcases hO3.out with e | ⟨e, _⟩
            · left
              refine List.mem_cons_of_mem _ ?_
              rw [← HF.out, Hn.out]
              exact (ob_iff _ _).1 (e ▸ (ob_iff _ _).2 hk)
            · right
              have := (ob_iff _ _).2 hk
              rw [e] at this
              cases this
              omega
      have hj : Jf b o F (Value.owner (.slice a3 (n + 1) c3)) w w3 := ⟨hstep, fun c1 t1 fr1 h1 => ⟨c1, hblk.trans h1, rfl⟩, fun k _ => World.cell?_of_block (w := w) hblk⟩
      exact (hj.set (o + 1) _ (by omega)).set o _ (by omega)
  have FIN := Lib.hid hfin
  clear h hA hF hn hfin hW hk
  cases m with
  | false =>
    go_enter Tryd.func41, Tryd.ntmps41
    go_wp2_with (at_builtin; refine wpList_append_win rfl _ _ _ rfl Tryd.underlying25 info_boolr rfl rfl (HW.out.alloc _) _ rfl 1 [.bool false] (src_one _ Tryd.underlying25 _ _ _ rfl rfl) ?e1 ?e2 ?_)
    case e1 => unfold maxLen; omega
    case e2 => omega
    intro v3 w3 hW3 hG3 hO3
    obtain ⟨a3, c3, rfl, ⟨⟨u0, p0, g0⟩, ⟨u1, p1⟩, g1⟩, HFI⟩ := FIN.out v3 w3 hW3 hG3 (Lib.hid (by simpa using hO3.out))
    clear hW3 hG3 hO3
    go_wp2
    go_ret
    exact ⟨rfl, HFI.out⟩
  | true =>
    go_enter Tryd.func41, Tryd.ntmps41
    go_wp2_with (at_builtin; refine wpList_append_win rfl _ _ _ rfl Tryd.underlying25 info_boolr rfl rfl (HW.out.alloc _) _ rfl 1 [.bool true] (src_one _ Tryd.underlying25 _ _ _ rfl rfl) ?e1 ?e2 ?_)
    case e1 => unfold maxLen; omega
    case e2 => omega
    intro v3 w3 hW3 hG3 hO3
    obtain ⟨a3, c3, rfl, ⟨⟨u0, p0, g0⟩, ⟨u1, p1⟩, g1⟩, HFI⟩ := FIN.out v3 w3 hW3 hG3 (Lib.hid (by simpa using hO3.out))
    clear hW3 hG3 hO3
    go_wp2
    go_ret
    exact ⟨rfl, HFI.out⟩
theorem pl_end {x : Bx} {r : List Bx} (h : WfO (x :: r)) : plO ⟨r, r.isEmpty⟩ = 2 := by
  cases r with
  | nil => rfl
  | cons y r =>
    obtain ⟨h1, h2⟩ := h y (by simp)
    simp only [plO]
    rw [if_neg h2, if_neg h1]
theorem end_at {w : World} {b o : Nat} {F : List Nat} {x : Bx} {r : List Bx} {a' : Option Addr} {c' : Nat} (h : JAt w b o F ⟨x :: r, false⟩) (hW : Win w 4 1 (.slice a' r.length c') r.length (mapsO r)) (hO : Value.owner (.slice a' r.length c') = F) :
    JAt ((w.setCell ⟨b, o + 1, none⟩ (.slice a' r.length c')).setCell ⟨b, o, none⟩ (.int .i64 2)) b o F ⟨r, r.isEmpty⟩ ∧ Jf b o F F w ((w.setCell ⟨b, o + 1, none⟩ (.slice a' r.length c')).setCell ⟨b, o, none⟩ (.int .i64 2)) := by
  obtain ⟨a, cp, hA, _, _⟩ := h.cells
  obtain ⟨cs, t, fr, hc, ht⟩ := h.blk
  have hap : b ∉ Value.owner (.slice a' r.length c') := hW.apart hc (fun e => ht e.symm)
  have hset := (hA.set 1 (by simp) (.slice a' r.length c')).set 0 (by simp) (.int .i64 2)
  refine ⟨⟨⟨a', c', ?_, (hW.setCell_far hap _).setCell_far hap _, hO⟩, ⟨_, t, fr, heap_setCell_at _ ⟨b, o, none⟩ _ _ _ _ rfl (heap_setCell_at w ⟨b, o + 1, none⟩ _ _ _ _ rfl hc), ht⟩, fun e => ?_, h.wf.tail⟩, ((Jf.refl b o F w).set (o + 1) _ (by omega)).set o _ (by omega)⟩
  · have hp := pl_end h.wf
    simp only at hp ⊢
    rw [hp]
    simpa using hset
  · simpa using e
set_option maxRecDepth 100000 in
set_option maxHeartbeats 4000000 in
/-- A container's end. -/
theorem endO {w : World} {b o : Nat} {F : List Nat} {x : Bx} {r : List Bx} (h : JAt w b o F ⟨x :: r, false⟩) (hs : r.length ≤ 999) :
    Calls Tryd.prog 39 #[.pointer (some ⟨b, o, none⟩)] w fun q w' => q = .returned (.string ⟨#[if x.map = true then 125 else 93]⟩) ∧ JAt w' b o F ⟨r, r.isEmpty⟩ ∧ Jf b o F F w w' := by
  have HM := Lib.hid (in_mapO h (by simpa using hs))
  simp only [topM] at HM
  have HJ := Lib.hid h
  have hfin : ∃ a cp, (w.drew.cell? ⟨b, o + 1, none⟩ = some (.slice a (r.length + 1) cp) ∧ w.drew.frozen? ⟨b, o + 1, none⟩ = false ∧ (∃ u, w.drew.cell? ⟨b, o, none⟩ = some u) ∧ w.drew.frozen? ⟨b, o, none⟩ = false) ∧
      ∃ a' c', (∀ W, (Instr.slice 25 (.slice a (r.length + 1) cp) none (some (.int .i64 (r.length : Int))) none).run Tryd.prog W = .ok (.slice a' r.length c') W) ∧
        ∀ W, W = ((w.setCell ⟨b, o + 1, none⟩ (.slice a' r.length c')).setCell ⟨b, o, none⟩ (.int .i64 2)).drew → JAt W b o F ⟨r, r.isEmpty⟩ ∧ Jf b o F F w W := by
    obtain ⟨a, cp, hA, hW, hF⟩ := h.cells
    obtain ⟨⟨c0, f0⟩, ⟨c1, f1⟩⟩ := oat_two hA
    obtain ⟨v', hsl, hw', ho'⟩ := hW.hi (P := Tryd.prog) (t := 25) Tryd.underlying25 (fun w => by kernel_rfl) r.length (by simp)
    simp only at hw' hsl
    rw [Nat.mul_one, mapsO_cons, ← mapsO_length, List.take_left, mapsO_length] at hw'
    obtain ⟨a', c', rfl, _, _⟩ := hw'.slice_form
    refine ⟨a, cp, ⟨c1, f1, ⟨_, c0⟩, f0⟩, a', c', hsl, fun W e => ?_⟩
    subst e
    have hk := end_at h hw' (ho'.trans hF)
    exact ⟨hk.1.drewN 1, hk.2.drewN 1⟩
  have HFI := Lib.hid hfin
  obtain ⟨xm, xc, xh⟩ := x
  simp only at *
  have hl : IntKind.i64.wrap (r.length : Int) = (r.length : Int) := by simp only [IntKind.wrap_i64]; omega
  generalize r.length = n' at *
  clear h hfin
  cases xm with
  | false =>
    go_enter Tryd.func39, Tryd.ntmps39
    go_wp2_with fail
    refine HM.out.mono ?_
    rintro e w1 ⟨rfl, rfl⟩
    obtain ⟨a, cp, ⟨x1, x2, ⟨u, x3⟩, x4⟩, a', c', hsl, hE⟩ := HFI.out
    have y1 : w.cell? ⟨b, o + 1, none⟩ = some (.slice a (n' + 1) cp) := x1
    have y2 : w.frozen? ⟨b, o + 1, none⟩ = false := x2
    have y3 : w.cell? ⟨b, o, none⟩ = some u := x3
    have y4 : w.frozen? ⟨b, o, none⟩ = false := x4
    have HE := Lib.hid hE
    clear hE
    go_wp2_with fail
    refine wp_region_tail 12 (by kernel_rfl) (by kernel_rfl) ?_
    simp only [List.take_succ_cons, List.take_zero, List.drop_succ_cons, List.drop_zero]
    repeat still_step
    refine wpStill_nil ?_
    go_wp2
    go_ret
    exact ⟨rfl, HE.out _ rfl⟩
  | true =>
    go_enter Tryd.func39, Tryd.ntmps39
    go_wp2_with fail
    refine HM.out.mono ?_
    rintro e w1 ⟨rfl, rfl⟩
    obtain ⟨a, cp, ⟨x1, x2, ⟨u, x3⟩, x4⟩, a', c', hsl, hE⟩ := HFI.out
    have y1 : w.cell? ⟨b, o + 1, none⟩ = some (.slice a (n' + 1) cp) := x1
    have y2 : w.frozen? ⟨b, o + 1, none⟩ = false := x2
    have y3 : w.cell? ⟨b, o, none⟩ = some u := x3
    have y4 : w.frozen? ⟨b, o, none⟩ = false := x4
    have HE := Lib.hid hE
    clear hE
    go_wp2_with fail
    refine wp_region_tail 12 (by kernel_rfl) (by kernel_rfl) ?_
    simp only [List.take_succ_cons, List.take_zero, List.drop_succ_cons, List.drop_zero]
    repeat still_step
    refine wpStill_nil ?_
    go_wp2
    go_ret
    exact ⟨rfl, HE.out _ rfl⟩
end Go.Proofs.YtkolebnjhndmkaaDoor
/-
  CONTRACTS of jsonout.Writer, part C: type assertions on a part; refusesEnd, refuses.
-/
namespace Go.Proofs.YtkolebnjhndmkaaDoor
open Go.RowKit
open Go.Lib
theorem kind8 {e : Ev} (hm : mayE e) : e.k = 0 ∨ e.k = 1 ∨ e.k = 2 ∨ e.k = 3 ∨ e.k = 4 ∨ e.k = 5 ∨ e.k = 6 ∨ e.k = 7 := by
  have h1 := hm.1
  have h2 := hm.2.1
  omega
theorem as_close (e : Ev) (hm : mayE e) (W : World) : (Instr.typeAssert (valE e) 20 59 true).run Tryd.prog W = .ok (.tuple #[.agg #[], .bool (decide (e.k = 7))]) W := by
  obtain ⟨k, y, m, t, c⟩ := e
  rcases kind8 hm with h | h | h | h | h | h | h | h <;> (simp only at h; subst h)
  · kernel_rfl
  · exact not_close _ (by decide) _ _
  · exact not_close _ (by decide) _ _
  · exact not_close _ (by decide) _ _
  · exact not_close _ (by decide) _ _
  · exact not_close _ (by decide) _ _
  · exact not_close _ (by decide) _ _
  · exact is_close _ _
theorem as_word (e : Ev) (hm : mayE e) (W : World) : (Instr.typeAssert (valE e) 20 57 true).run Tryd.prog W = .ok (.tuple #[.string (if e.k = 3 then e.t else ⟨#[]⟩), .bool (decide (e.k = 3))]) W := by
  obtain ⟨k, y, m, t, c⟩ := e
  rcases kind8 hm with h | h | h | h | h | h | h | h <;> (simp only at h; subst h)
  · kernel_rfl
  · exact not_word _ (by decide) _ _
  · exact not_word _ (by decide) _ _
  · exact is_word _ _
  · exact not_word _ (by decide) _ _
  · exact not_word _ (by decide) _ _
  · exact not_word _ (by decide) _ _
  · exact not_word _ (by decide) _ _
theorem as_begin (e : Ev) (hm : mayE e) (W : World) : (Instr.typeAssert (valE e) 20 56 true).run Tryd.prog W = .ok (.tuple #[.agg #[.bool (decide (e.k = 6)), .int .i64 (if e.k = 5 ∨ e.k = 6 then e.c else 0)], .bool (decide (e.k = 5 ∨ e.k = 6))]) W := by
  obtain ⟨k, y, m, t, c⟩ := e
  rcases kind8 hm with h | h | h | h | h | h | h | h <;> (simp only at h; subst h)
  · kernel_rfl
  · exact not_begin _ (by decide) _ _
  · exact not_begin _ (by decide) _ _
  · exact not_begin _ (by decide) _ _
  · exact not_begin _ (by decide) _ _
  · exact is_begin _ _
  · exact is_begin _ _
  · exact not_begin _ (by decide) _ _
set_option maxRecDepth 100000 in
set_option maxHeartbeats 2000000 in
theorem ref_endO {w : World} {b o : Nat} {F : List Nat} {q : Os} (h : JAt w b o F q) (n : Nat) (hn : n = if q.s = [] ∨ plO q = 1 then 14 else 0) :
    Calls Tryd.prog 37 #[.pointer (some ⟨b, o, none⟩)] w fun r w' => r = .returned (.int .i64 n) ∧ w = w' := by
  obtain ⟨a, cp, hA, hW, hF⟩ := h.cells
  obtain ⟨⟨c0, _⟩, ⟨c1, _⟩⟩ := oat_two hA
  have hp : plO q = 0 ∨ plO q = 1 ∨ plO q = 2 := by
    unfold plO
    repeat' split
    all_goals simp
  obtain ⟨s, dn⟩ := q
  simp only at *
  clear h hA hW hF
  cases s with
  | nil =>
    rw [if_pos (.inl rfl)] at hn
    subst hn
    simp only [List.length_nil] at c1
    generalize plO _ = p at *
    go_enter Tryd.func37, Tryd.ntmps37
    go_wp2
    go_ret
    exact ⟨rfl, rfl⟩
  | cons x r =>
    simp only [List.length_cons] at c1
    have hn1 : plO ⟨x :: r, dn⟩ = 1 → n = 14 := fun e => by rw [hn, if_pos (.inr e)]
    have hn0 : plO ⟨x :: r, dn⟩ ≠ 1 → n = 0 := fun e => by rw [hn, if_neg (fun h => h.elim (fun h => by cases h) e)]
    clear hn
    generalize plO _ = p at *
    generalize r.length = n' at *
    have hz : ((n' : Int) + 1 == 0) = false := by rw [beq_eq_false_iff_ne]; omega
    rcases hp with rfl | rfl | rfl
    · obtain rfl : n = 0 := hn0 (by omega)
      clear hn0 hn1
      go_enter Tryd.func37, Tryd.ntmps37
      go_wp2
      go_ret
      exact ⟨rfl, rfl⟩
    · obtain rfl : n = 14 := hn1 rfl
      clear hn0 hn1
      go_enter Tryd.func37, Tryd.ntmps37
      go_wp2
      go_ret
      exact ⟨rfl, rfl⟩
    · obtain rfl : n = 0 := hn0 (by omega)
      clear hn0 hn1
      go_enter Tryd.func37, Tryd.ntmps37
      go_wp2
      go_ret
      exact ⟨rfl, rfl⟩
set_option maxRecDepth 100000 in
set_option maxHeartbeats 2000000 in
/-- What is no part. -/
theorem refuses_other {w : World} {b o : Nat} (v : Value) (X : Ev) (hP : ∀ W, Calls Tryd.prog 36 #[v] W fun r w' => r = .returned (.tuple #[evV X, .bool false]) ∧ Below W.heap.size W w') :
    Calls Tryd.prog 23 #[.pointer (some ⟨b, o, none⟩), v] w fun r w' => r = .returned (.int .i64 14) ∧ Below w.heap.size w w' := by
  have HP := Lib.hid hP
  obtain ⟨k, y, m, t, c⟩ := X
  simp only [evV] at HP
  clear hP
  go_enter Tryd.func23, Tryd.ntmps23
  go_wp2_with fail
  refine (HP.out _).mono ?_
  rintro r w1 ⟨rfl, b1⟩
  have B1 := Lib.hid (up_alloc b1 (.cells #[.int .i64 k, .bool y, .int .u64 m, .string t, .int .i64 c] 34))
  clear b1
  go_wp2
  go_ret
  exact ⟨rfl, B1.out⟩
set_option maxRecDepth 100000 in
set_option maxHeartbeats 4000000 in
theorem refuses_gen {w : World} {b o : Nat} {F : List Nat} {q : Os} (h : JAt w b o F q) (hs : q.s.length ≤ 1000) (v : Value) (X : Ev) (hP : ∀ W, Calls Tryd.prog 36 #[v] W fun r w' => r = .returned (.tuple #[evV X, .bool true]) ∧ Below W.heap.size W w')
    (isC isW : Bool) (S : ByteArray) (hC : ∀ W, (Instr.typeAssert v 20 59 true).run Tryd.prog W = .ok (.tuple #[.agg #[], .bool isC]) W)
    (hW : ∀ W, (Instr.typeAssert v 20 57 true).run Tryd.prog W = .ok (.tuple #[.string S, .bool isW]) W) (n : Nat)
    (hn : n = if q.dn = true then 14 else if isC = true then (if q.s = [] ∨ plO q = 1 then 14 else 0) else if isW = true then 0 else if keyB q.s = true then 8 else 0) :
    Calls Tryd.prog 23 #[.pointer (some ⟨b, o, none⟩), v] w fun r w' => r = .returned (.int .i64 n) ∧ Below w.heap.size w w' := by
  have HP := Lib.hid hP
  have HJ := Lib.hid h
  have HC := Lib.hid hC
  have HW := Lib.hid hW
  obtain ⟨k, y, m, t, c⟩ := X
  simp only [evV] at HP
  have HJ' : Hid (∀ w', Below w.heap.size w w' → JAt w' b o F q) := Lib.hid (fun w' k => h.go k)
  obtain ⟨D, hD⟩ : ∃ D, q.dn = D := ⟨_, rfl⟩
  obtain ⟨K, hK⟩ : ∃ K, keyB q.s = K := ⟨_, rfl⟩
  rw [hD, hK] at hn
  have HD : Hid (∀ w', Below w.heap.size w w' → Calls Tryd.prog 14 #[.pointer (some ⟨b, o, none⟩)] w' fun r w2 => r = .returned (.bool D) ∧ w' = w2) := Lib.hid (fun w' k => hD ▸ doneO (h.go k))
  have HA : Hid (∀ w', Below w.heap.size w w' → Calls Tryd.prog 38 #[.pointer (some ⟨b, o, none⟩)] w' fun r w2 => r = .returned (.bool K) ∧ w' = w2) := Lib.hid (fun w' k => hK ▸ at_keyO (h.go k) hs)
  obtain ⟨n2, hn2⟩ : ∃ n2 : Nat, n2 = if q.s = [] ∨ plO q = 1 then 14 else 0 := ⟨_, rfl⟩
  rw [← hn2] at hn
  have HE : Hid (∀ w', Below w.heap.size w w' → Calls Tryd.prog 37 #[.pointer (some ⟨b, o, none⟩)] w' fun r w2 => r = .returned (.int .i64 n2) ∧ w' = w2) := Lib.hid (fun w' k => ref_endO (h.go k) n2 hn2)
  clear hP h hC hW hD hK hn2 HJ HJ'
  cases D with
  | true =>
    obtain rfl : n = 14 := by rw [hn, if_pos rfl]
    clear hn
    go_enter Tryd.func23, Tryd.ntmps23
    go_wp2_with fail
    refine (HP.out _).mono ?_
    rintro r w1 ⟨rfl, b1⟩
    have B1 := Lib.hid (up_alloc b1 (.cells #[.int .i64 k, .bool y, .int .u64 m, .string t, .int .i64 c] 34))
    clear b1
    go_wp2_with fail
    refine (HD.out _ B1.out).mono ?_
    rintro r w2 ⟨rfl, rfl⟩
    go_wp2
    go_ret
    exact ⟨rfl, B1.out⟩
  | false =>
    rw [if_neg (by simp)] at hn
    cases isC with
    | true =>
      rw [if_pos rfl] at hn
      subst hn
      have hC := HC.out
      go_enter Tryd.func23, Tryd.ntmps23
      go_wp2_with fail
      refine (HP.out _).mono ?_
      rintro r w1 ⟨rfl, b1⟩
      have B1 := Lib.hid (up_alloc b1 (.cells #[.int .i64 k, .bool y, .int .u64 m, .string t, .int .i64 c] 34))
      clear b1
      go_wp2_with fail
      refine (HD.out _ B1.out).mono ?_
      rintro r w2 ⟨rfl, rfl⟩
      go_wp2_with fail
      refine (HE.out _ (up_alloc B1.out _)).mono ?_
      rintro r w3 ⟨rfl, rfl⟩
      go_wp2
      go_ret
      exact ⟨rfl, up_alloc B1.out _⟩
    | false =>
      rw [if_neg (by simp)] at hn
      have hC := HC.out
      have hW := HW.out
      cases isW with
      | true =>
        rw [if_pos rfl] at hn
        subst hn
        go_enter Tryd.func23, Tryd.ntmps23
        go_wp2_with fail
        refine (HP.out _).mono ?_
        rintro r w1 ⟨rfl, b1⟩
        have B1 := Lib.hid (up_alloc b1 (.cells #[.int .i64 k, .bool y, .int .u64 m, .string t, .int .i64 c] 34))
        clear b1
        go_wp2_with fail
        refine (HD.out _ B1.out).mono ?_
        rintro r w2 ⟨rfl, rfl⟩
        go_wp2
        go_ret
        exact ⟨rfl, up_alloc B1.out _⟩
      | false =>
        rw [if_neg (by simp)] at hn
        have fin : ∀ n' : Nat, n = n' → (K = true → n' = 8) → (K = false → n' = 0) → Calls Tryd.prog 23 #[.pointer (some ⟨b, o, none⟩), v] w fun r w' => r = .returned (.int .i64 n') ∧ Below w.heap.size w w' := by
          intro n' _ h1 h2
          cases K with
          | true =>
            obtain rfl := h1 rfl
            clear h1 h2
            go_enter Tryd.func23, Tryd.ntmps23
            go_wp2_with fail
            refine (HP.out _).mono ?_
            rintro r w1 ⟨rfl, b1⟩
            have B1 := Lib.hid (up_alloc b1 (.cells #[.int .i64 k, .bool y, .int .u64 m, .string t, .int .i64 c] 34))
            clear b1
            go_wp2_with fail
            refine (HD.out _ B1.out).mono ?_
            rintro r w2 ⟨rfl, rfl⟩
            go_wp2_with fail
            refine (HA.out _ (up_alloc B1.out _)).mono ?_
            rintro r w3 ⟨rfl, rfl⟩
            go_wp2
            go_ret
            exact ⟨rfl, up_alloc B1.out _⟩
          | false =>
            obtain rfl := h2 rfl
            clear h1 h2
            go_enter Tryd.func23, Tryd.ntmps23
            go_wp2_with fail
            refine (HP.out _).mono ?_
            rintro r w1 ⟨rfl, b1⟩
            have B1 := Lib.hid (up_alloc b1 (.cells #[.int .i64 k, .bool y, .int .u64 m, .string t, .int .i64 c] 34))
            clear b1
            go_wp2_with fail
            refine (HD.out _ B1.out).mono ?_
            rintro r w2 ⟨rfl, rfl⟩
            go_wp2_with fail
            refine (HA.out _ (up_alloc B1.out _)).mono ?_
            rintro r w3 ⟨rfl, rfl⟩
            go_wp2
            go_ret
            exact ⟨rfl, up_alloc B1.out _⟩
        exact fin n rfl (fun e => by rw [hn, if_pos e]) (fun e => by rw [hn, if_neg (by simp [e])])
theorem step_err_val {q : Os} {e : Ev} (hm : mayE e) (hf : q.dn = true → q.s = []) :
    (stepO q e).1.2 = if q.dn = true then 14 else if decide (e.k = 7) = true then (if q.s = [] ∨ plO q = 1 then 14 else 0) else if decide (e.k = 3) = true then 0 else if keyB q.s = true then 8 else 0 := by
  obtain ⟨s, dn⟩ := q
  cases dn with
  | true => rw [stepO_bad ⟨s, true⟩ e (.inr rfl), if_pos rfl]
  | false =>
    rw [if_neg (by simp)]
    by_cases h7 : e.k = 7
    · rw [if_pos (decide_eq_true h7)]
      cases s with
      | nil => rw [stepO_none hm h7, if_pos (.inl rfl)]
      | cons x r =>
        by_cases ho : x.map = true ∧ x.have_ % 2 = 1
        · have hp : plO ⟨x :: r, false⟩ = 1 := by
            unfold plO
            simp only
            rw [if_pos ho]
          rw [stepO_odd hm h7 ho, if_pos (.inr hp)]
        · have hp : plO ⟨x :: r, false⟩ ≠ 1 := by
            unfold plO
            simp only
            rw [if_neg ho]
            split <;> omega
          rw [stepO_end hm h7 ho]
          exact (if_neg (fun h => h.elim (fun h => by cases h) hp)).symm
    · rw [if_neg (by simpa using h7)]
      by_cases hk : keyB s = true ∧ e.k ≠ 3
      · rw [stepO_key hm h7 hk.1 hk.2, if_neg (by simpa using hk.2), if_pos hk.1]
      · have hz : (if decide (e.k = 3) = true then 0 else if keyB s = true then 8 else 0) = 0 := by
          by_cases h3 : e.k = 3
          · rw [if_pos (decide_eq_true h3)]
          · rw [if_neg (by simpa using h3), if_neg (fun h => hk ⟨h, h3⟩)]
        rw [hz]
        by_cases h56 : e.k = 5 ∨ e.k = 6
        · have hkf : keyB s = false := by
            cases hq : keyB s with
            | false => rfl
            | true => exact absurd ⟨hq, by omega⟩ hk
          rw [stepO_open hm h56 hkf]
        · rw [stepO_val hm h7 h56 hk]
/-- What is refused, of a part. -/
theorem refusesO {w : World} {b o : Nat} {F : List Nat} {q : Os} (h : JAt w b o F q) (hs : q.s.length ≤ 1000) (e : Ev) (hm : mayE e) :
    Calls Tryd.prog 23 #[.pointer (some ⟨b, o, none⟩), valE e] w fun r w' => r = .returned (.int .i64 ((stepO q e).1.2 : Nat)) ∧ Below w.heap.size w w' :=
  refuses_gen h hs (valE e) (tidyE e) (plain_any e hm) _ _ _ (as_close e hm) (as_word e hm) _ (step_err_val hm h.fin)
end Go.Proofs.YtkolebnjhndmkaaDoor
/-
  CONTRACTS of jsonout.Writer, part D: quoted, textOf, write, Step.
-/
namespace Go.Proofs.YtkolebnjhndmkaaDoor
open Go.RowKit
open Go.Lib
theorem quote_of (l : List UInt8) : ((⟨#[34]⟩ : ByteArray) ++ ⟨l.toArray⟩) ++ ⟨#[34]⟩ = ⟨(34 :: l ++ [34]).toArray⟩ := by
  have e1 := cat_of [34] l
  have e2 := cat_of ([34] ++ l) [34]
  rw [show (⟨#[34]⟩ : ByteArray) = ⟨[(34 : UInt8)].toArray⟩ from rfl, e1, e2]
  rfl
set_option maxRecDepth 100000 in
set_option maxHeartbeats 2000000 in
theorem quotedO (X : ByteArray) (hX : X.size ≤ 10000000) (w : World) :
    Calls Tryd.prog 52 #[.string X] w fun r w' => r = .returned (.string (((⟨#[34]⟩ : ByteArray) ++ X) ++ ⟨#[34]⟩)) ∧ w = w' := by
  obtain ⟨U, hU⟩ : ∃ U, (⟨#[34]⟩ : ByteArray) ++ X = U := ⟨_, rfl⟩
  have hUs : U.size ≤ 10000001 := by rw [← hU, ByteArray.size_append]; show 1 + X.size ≤ _; omega
  rw [hU]
  have z1 : ¬ 9223372036854775807 < 1 + X.size := by omega
  have z2 : ¬ 9223372036854775807 < U.size + 1 := by omega
  go_enter Tryd.func52, Tryd.ntmps52
  go_wp2
  go_ret
  exact ⟨rfl, rfl⟩
set_option maxRecDepth 100000 in
set_option maxHeartbeats 4000000 in
/-- The text of a part that is no container, nor an end. -/
theorem text_of (e : Ev) (hk : e.k = 0 ∨ e.k = 1 ∨ e.k = 2 ∨ e.k = 3 ∨ e.k = 4) (hm : e.m < 18446744073709551616) (ht : e.t.size ≤ 1000) (w : World) (hT : Tab w) :
    Calls Tryd.prog 42 #[valE e] w fun r w' => r = .returned (.string ⟨(outB e).toArray⟩) ∧ Below w.heap.size w w' := by
  have n0 := nil_not
  have n1 := nil_is
  have a1 := is_bool
  have a2 := is_whole
  have a3 := is_word
  have a4 := is_blob
  have b1 := fun d h => not_bool d h
  have b2 := fun d h => not_whole d h
  have b3 := fun d h => not_word d h
  have b4 := fun d h => not_blob d h
  have hB := Lib.hid (Below.refl w.heap.size w)
  obtain ⟨k, y, m, t, c⟩ := e
  simp only at hk hm ht
  rcases hk with rfl | rfl | rfl | rfl | rfl
  · have ho : outB ⟨0, y, m, t, c⟩ = [110, 117, 108, 108] := by simp [outB, outW]
    rw [ho]
    have p1 : ∀ W, (Instr.typeAssert .nilIface 20 4 true).run Tryd.prog W = .ok (.tuple #[.bool false, .bool false]) W := fun W => by kernel_rfl
    have p2 : ∀ W, (Instr.typeAssert .nilIface 20 62 true).run Tryd.prog W = .ok (.tuple #[.agg #[.bool false, .int .u64 0], .bool false]) W := fun W => by kernel_rfl
    have p3 : ∀ W, (Instr.typeAssert .nilIface 20 57 true).run Tryd.prog W = .ok (.tuple #[.string ⟨#[]⟩, .bool false]) W := fun W => by kernel_rfl
    have p4 : ∀ W, (Instr.typeAssert .nilIface 20 63 true).run Tryd.prog W = .ok (.tuple #[.string ⟨#[]⟩, .bool false]) W := fun W => by kernel_rfl
    clear ho hT hm ht
    simp only [valE]
    go_enter Tryd.func42, Tryd.ntmps42
    go_wp2
    go_ret
    exact ⟨rfl, by repeat (first | exact Below.refl _ _ | refine up_alloc ?_ _)⟩
  · cases y with
    | true =>
      have ho : outB ⟨1, true, m, t, c⟩ = [116, 114, 117, 101] := by simp [outB, outW]
      rw [ho]
      clear ho hT hm ht
      simp only [valE]
      go_enter Tryd.func42, Tryd.ntmps42
      go_wp2
      go_ret
      exact ⟨rfl, hB.out⟩
    | false =>
      have ho : outB ⟨1, false, m, t, c⟩ = [102, 97, 108, 115, 101] := by simp [outB, outW]
      rw [ho]
      clear ho hT hm ht
      simp only [valE]
      go_enter Tryd.func42, Tryd.ntmps42
      go_wp2
      go_ret
      exact ⟨rfl, hB.out⟩
  · have ho : outB ⟨2, y, m, t, c⟩ = printD (y, m) := by simp [outB, outW]
    rw [ho]
    have HP : Hid (∀ x, Calls Tryd.prog 51 #[.agg #[.bool y, .int .u64 m]] (w.alloc x) fun e w' => e = .returned (.string ⟨(printD (y, m)).toArray⟩) ∧ Below (w.alloc x).heap.size (w.alloc x) w') := Lib.hid (fun x => print_any y m hm _ (hT.alloc x))
    generalize (⟨(printD (y, m)).toArray⟩ : ByteArray) = Z at *
    clear ho hT ht
    simp only [valE]
    go_enter Tryd.func42, Tryd.ntmps42
    go_wp2_with fail
    refine (HP.out _).mono ?_
    rintro r w1 ⟨rfl, hb⟩
    have HB1 := Lib.hid (up_trans (up_alloc hB.out _) hb)
    clear hb
    go_wp2
    go_ret
    exact ⟨rfl, HB1.out⟩
  · have ho : outB ⟨3, y, m, t, c⟩ = 34 :: escW t.data.toList ++ [34] := by simp [outB, outW]
    rw [ho, ← quote_of]
    have hWr : Hid (∀ W, Calls Tryd.prog 53 #[.string t] W fun e w' => e = .returned (.string ⟨(escW t.data.toList).toArray⟩) ∧ Below W.heap.size W w') := Lib.hid (fun W => write_any t W (by omega))
    have hXs : (⟨(escW t.data.toList).toArray⟩ : ByteArray).size ≤ 10000000 := by
      rw [size_of]
      have h1 := escW_len t.data.toList
      rw [size_list] at h1
      omega
    generalize (⟨(escW t.data.toList).toArray⟩ : ByteArray) = X at *
    have HQ := Lib.hid (fun W => quotedO X hXs W)
    clear ho hXs hT
    simp only [valE]
    go_enter Tryd.func42, Tryd.ntmps42
    go_wp2_with fail
    refine (hWr.out _).mono ?_
    rintro r w1 ⟨rfl, hb⟩
    have HB1 := Lib.hid (up_trans (up_alloc hB.out _) hb)
    clear hb
    go_wp2_with fail
    refine (HQ.out _).mono ?_
    rintro r w2 ⟨rfl, rfl⟩
    go_wp2
    go_ret
    exact ⟨rfl, HB1.out⟩
  · have ho : outB ⟨4, y, m, t, c⟩ = 34 :: putS t.data.toList ++ [34] := by simp [outB]
    rw [ho, ← quote_of]
    have hWr : Hid (∀ W, Calls Tryd.prog 54 #[.string t] W fun e w' => e = .returned (.string ⟨(putS t.data.toList).toArray⟩) ∧ Below W.heap.size W w') := Lib.hid (fun W => bput_any t W (by omega))
    have hXs : (⟨(putS t.data.toList).toArray⟩ : ByteArray).size ≤ 10000000 := by
      rw [size_of]
      have h1 := putS_length t.data.toList
      rw [size_list] at h1
      omega
    generalize (⟨(putS t.data.toList).toArray⟩ : ByteArray) = X at *
    have HQ := Lib.hid (fun W => quotedO X hXs W)
    clear ho hXs hT
    simp only [valE]
    go_enter Tryd.func42, Tryd.ntmps42
    go_wp2_with fail
    refine (hWr.out _).mono ?_
    rintro r w1 ⟨rfl, hb⟩
    have HB1 := Lib.hid (up_trans (up_alloc hB.out _) hb)
    clear hb
    go_wp2_with fail
    refine (HQ.out _).mono ?_
    rintro r w2 ⟨rfl, rfl⟩
    go_wp2
    go_ret
    exact ⟨rfl, HB1.out⟩
end Go.Proofs.YtkolebnjhndmkaaDoor
/-
  CONTRACTS of jsonout.Writer, part E: write, Step.
-/
namespace Go.Proofs.YtkolebnjhndmkaaDoor
open Go.RowKit
open Go.Lib
theorem sepW_size (s : List Bx) : (⟨(sepW s).toArray⟩ : ByteArray).size ≤ 1 := by
  rw [size_of]
  unfold sepW
  repeat' split
  all_goals simp
theorem outB_size (e : Ev) (hk : e.k = 0 ∨ e.k = 1 ∨ e.k = 2 ∨ e.k = 3 ∨ e.k = 4) (hm : e.m < 18446744073709551616) (ht : e.t.size ≤ 1000) : (⟨(outB e).toArray⟩ : ByteArray).size ≤ 100000 := by
  rw [size_of]
  exact outB_length e hk hm ht
set_option maxRecDepth 100000 in
set_option maxHeartbeats 2000000 in
theorem write_end {w : World} {b o : Nat} {F : List Nat} {x : Bx} {r : List Bx} (h : JAt w b o F ⟨x :: r, false⟩) (hs : r.length ≤ 999) (v : Value)
    (hC : ∀ W, (Instr.typeAssert v 20 59 true).run Tryd.prog W = .ok (.tuple #[.agg #[], .bool true]) W) :
    Calls Tryd.prog 24 #[.pointer (some ⟨b, o, none⟩), v] w fun q w' => q = .returned (.string ⟨#[if x.map = true then 125 else 93]⟩) ∧ JAt w' b o F ⟨r, r.isEmpty⟩ ∧ Jf b o F F w w' := by
  have HE : Hid (∀ X, Calls Tryd.prog 39 #[.pointer (some ⟨b, o, none⟩)] (w.alloc X) fun q w' => q = .returned (.string ⟨#[if x.map = true then 125 else 93]⟩) ∧ JAt w' b o F ⟨r, r.isEmpty⟩ ∧ Jf b o F F w w') := Lib.hid (fun X => by
    refine (endO (h.alloc X) hs).mono ?_
    rintro q w' ⟨h1, h2, h3⟩
    exact ⟨h1, h2, (Jf.of (up_alloc (Below.refl _ _) X) h.lt).trans h3⟩)
  obtain ⟨Z, hZ⟩ : ∃ Z : ByteArray, (⟨#[if x.map = true then 125 else 93]⟩ : ByteArray) = Z := ⟨_, rfl⟩
  rw [hZ] at HE ⊢
  clear h hZ
  go_enter Tryd.func24, Tryd.ntmps24
  go_wp2_with fail
  refine (HE.out _).mono ?_
  rintro q w1 ⟨rfl, hj⟩
  have HJ := Lib.hid hj
  clear hj
  go_wp2
  go_ret
  exact ⟨rfl, HJ.out⟩
set_option maxRecDepth 100000 in
set_option maxHeartbeats 2000000 in
theorem write_open {w : World} {b o : Nat} {F : List Nat} {q : Os} (h : JAt w b o F q) (hd : q.dn = false) (hs : q.s.length ≤ 1000) (hk : keyB q.s = false) (v : Value) (m : Bool) (c : Int)
    (hC : ∀ W, (Instr.typeAssert v 20 59 true).run Tryd.prog W = .ok (.tuple #[.agg #[], .bool false]) W)
    (hB : ∀ W, (Instr.typeAssert v 20 56 true).run Tryd.prog W = .ok (.tuple #[.agg #[.bool m, .int .i64 c], .bool true]) W) :
    Calls Tryd.prog 24 #[.pointer (some ⟨b, o, none⟩), v] w fun r w' => r = .returned (.string (⟨(sepW q.s).toArray⟩ ++ ⟨#[if m = true then 123 else 91]⟩)) ∧ ∃ F', JAt w' b o F' ⟨⟨m, c, 0⟩ :: incB q.s, false⟩ ∧ Jf b o F F' w w' := by
  have HS : Hid (∀ X, Calls Tryd.prog 40 #[.pointer (some ⟨b, o, none⟩)] (w.alloc X) fun r w' => r = .returned (.string ⟨(sepW q.s).toArray⟩) ∧ w.alloc X = w') := Lib.hid (fun X => signO (h.alloc X) hd)
  have HE : Hid (∀ X Y, Calls Tryd.prog 41 #[.pointer (some ⟨b, o, none⟩), .bool m] ((w.alloc X).alloc Y) fun r w' => r = .returned (.string ⟨#[if m = true then 123 else 91]⟩) ∧ ∃ F', JAt w' b o F' ⟨⟨m, c, 0⟩ :: incB q.s, false⟩ ∧ Jf b o F F' w w') := Lib.hid (fun X Y => by
    refine (beginO ((h.alloc X).alloc Y) hd hs hk m c).mono ?_
    rintro r w' ⟨h1, F', h2, h3⟩
    exact ⟨h1, F', h2, (Jf.of (up_alloc (up_alloc (Below.refl _ _) X) Y) h.lt).trans h3⟩)
  have hz1 := sepW_size q.s
  obtain ⟨S, hS⟩ : ∃ S : ByteArray, (⟨(sepW q.s).toArray⟩ : ByteArray) = S := ⟨_, rfl⟩
  obtain ⟨Z, hZ⟩ : ∃ Z : ByteArray, (⟨#[if m = true then 123 else 91]⟩ : ByteArray) = Z := ⟨_, rfl⟩
  have hz2 : Z.size = 1 := by rw [← hZ]; rfl
  rw [hS] at HS hz1 ⊢
  rw [hZ] at HE ⊢
  have z1 : ¬ 9223372036854775807 < S.size + Z.size := by omega
  clear h hS hZ hz1 hz2
  go_enter Tryd.func24, Tryd.ntmps24
  go_wp2_with fail
  refine (HS.out _).mono ?_
  rintro r w1 ⟨rfl, rfl⟩
  go_wp2_with fail
  refine (HE.out _ _).mono ?_
  rintro r w2 ⟨rfl, hj⟩
  have HJ := Lib.hid hj
  clear hj
  go_wp2
  go_ret
  exact ⟨rfl, HJ.out⟩
theorem pl_val (s : List Bx) : plO ⟨incB s, s.isEmpty⟩ = if keyB s = true then 1 else 2 := by
  cases s with
  | nil => rfl
  | cons x r =>
    obtain ⟨m, c, n⟩ := x
    have hp : plO ⟨incB (⟨m, c, n⟩ :: r), (⟨m, c, n⟩ :: r : List Bx).isEmpty⟩ = if m = true ∧ (n + 1) % 2 = 1 then 1 else if n + 1 = 0 then 0 else 2 := rfl
    rw [hp]
    cases m with
    | false =>
      have hk : keyB (⟨false, c, n⟩ :: r) = false := rfl
      rw [hk, if_neg (fun h => by cases h.1), if_neg (by omega), if_neg (by simp)]
    | true =>
      by_cases h : n % 2 = 0
      · have hk : keyB (⟨true, c, n⟩ :: r) = true := by simp [keyB, h]
        rw [hk, if_pos ⟨rfl, by omega⟩, if_pos rfl]
      · have hk : keyB (⟨true, c, n⟩ :: r) = false := by simp [keyB]; omega
        rw [hk, if_neg (fun hh => by omega), if_neg (by omega), if_neg (by simp)]
set_option maxRecDepth 100000 in
set_option maxHeartbeats 4000000 in
theorem write_val {w : World} {b o : Nat} {F : List Nat} {s : List Bx} (h : JAt w b o F ⟨s, false⟩) (hs : s.length ≤ 1000) (v : Value) (T : ByteArray) (hTs : T.size ≤ 100000)
    (hC : ∀ W, (Instr.typeAssert v 20 59 true).run Tryd.prog W = .ok (.tuple #[.agg #[], .bool false]) W)
    (hB : ∀ W, (Instr.typeAssert v 20 56 true).run Tryd.prog W = .ok (.tuple #[.agg #[.bool false, .int .i64 0], .bool false]) W)
    (hX : ∀ W, Below w.heap.size w W ∨ Jf b o F F w W → Calls Tryd.prog 42 #[v] W fun r w' => r = .returned (.string T) ∧ Below W.heap.size W w') :
    Calls Tryd.prog 24 #[.pointer (some ⟨b, o, none⟩), v] w fun r w' => r = .returned (.string (⟨(sepW s).toArray⟩ ++ T)) ∧ JAt w' b o F ⟨incB s, s.isEmpty⟩ ∧ Jf b o F F w w' := by
  have HS : Hid (∀ X, Calls Tryd.prog 40 #[.pointer (some ⟨b, o, none⟩)] (w.alloc X) fun r w' => r = .returned (.string ⟨(sepW s).toArray⟩) ∧ w.alloc X = w') := Lib.hid (fun X => signO (h.alloc X) rfl)
  obtain ⟨K, hK⟩ : ∃ K, keyB s = K := ⟨_, rfl⟩
  have HA : Hid (∀ X Y, Calls Tryd.prog 38 #[.pointer (some ⟨b, o, none⟩)] ((w.alloc X).alloc Y) fun r w' => r = .returned (.bool K) ∧ (w.alloc X).alloc Y = w') := Lib.hid (fun X Y => hK ▸ at_keyO ((h.alloc X).alloc Y) hs)
  have hp := pl_val s
  rw [hK] at hp
  have hfin : ∀ X Y, ((∃ u, ((w.alloc X).alloc Y).cell? ⟨b, o, none⟩ = some u) ∧ ((w.alloc X).alloc Y).frozen? ⟨b, o, none⟩ = false) ∧ (Jf b o F F w (((w.alloc X).alloc Y).setCell ⟨b, o, none⟩ (.int .i64 ((if K = true then 1 else 2 : Nat) : Int)))) ∧
      ∀ w', Below (((w.alloc X).alloc Y).setCell ⟨b, o, none⟩ (.int .i64 ((if K = true then 1 else 2 : Nat) : Int))).heap.size (((w.alloc X).alloc Y).setCell ⟨b, o, none⟩ (.int .i64 ((if K = true then 1 else 2 : Nat) : Int))) w' → JAt w' b o F ⟨incB s, s.isEmpty⟩ ∧ Jf b o F F w w' := by
    intro X Y
    have h2 := (h.alloc X).alloc Y
    obtain ⟨a, cp, hA, _, _⟩ := h2.cells
    obtain ⟨⟨c0, f0⟩, _⟩ := oat_two hA
    obtain ⟨p1, p2⟩ := h2.place (q' := ⟨incB s, s.isEmpty⟩) (by rw [mapsO_incB]) (fun e => by cases s <;> simp_all [incB]) h.wf.inc
    rw [hp] at p1 p2
    have hj : Jf b o F F w ((w.alloc X).alloc Y) := Jf.of (up_alloc (up_alloc (Below.refl _ _) X) Y) h.lt
    refine ⟨⟨⟨_, c0⟩, f0⟩, hj.trans p2, fun w' k => ⟨p1.go k, (hj.trans p2).up h.lt k⟩⟩
  have HFI := Lib.hid hfin
  have hz1 := sepW_size s
  obtain ⟨S, hS⟩ : ∃ S : ByteArray, (⟨(sepW s).toArray⟩ : ByteArray) = S := ⟨_, rfl⟩
  rw [hS] at HS hz1 ⊢
  have z1 : ¬ 9223372036854775807 < S.size + T.size := by omega
  have HX := Lib.hid hX
  clear h hS hz1 hX hfin hp hK hTs
  cases K with
  | true =>
    simp only [if_true] at HFI
    go_enter Tryd.func24, Tryd.ntmps24
    go_wp2_with fail
    refine (HS.out _).mono ?_
    rintro r w1 ⟨rfl, rfl⟩
    go_wp2_with fail
    refine (HA.out _ _).mono ?_
    rintro r w1 ⟨rfl, rfl⟩
    obtain ⟨⟨⟨u, c0⟩, f0⟩, hj, hg⟩ := HFI.out (.cells #[] 59) (.cells #[.bool false, .int .i64 0] 56)
    have HJ := Lib.hid hj
    have HG := Lib.hid hg
    clear hj hg
    go_wp2_with fail
    refine (HX.out _ (.inr HJ.out)).mono ?_
    rintro r w2 ⟨rfl, hb⟩
    have HK := Lib.hid (HG.out _ hb)
    clear hb
    go_wp2
    go_ret
    exact ⟨rfl, HK.out⟩
  | false =>
    simp only [Bool.false_eq_true, if_false] at HFI
    go_enter Tryd.func24, Tryd.ntmps24
    go_wp2_with fail
    refine (HS.out _).mono ?_
    rintro r w1 ⟨rfl, rfl⟩
    go_wp2_with fail
    refine (HA.out _ _).mono ?_
    rintro r w1 ⟨rfl, rfl⟩
    obtain ⟨⟨⟨u, c0⟩, f0⟩, hj, hg⟩ := HFI.out (.cells #[] 59) (.cells #[.bool false, .int .i64 0] 56)
    have HJ := Lib.hid hj
    have HG := Lib.hid hg
    clear hj hg
    go_wp2_with fail
    refine (HX.out _ (.inr HJ.out)).mono ?_
    rintro r w2 ⟨rfl, hb⟩
    have HK := Lib.hid (HG.out _ hb)
    clear hb
    go_wp2
    go_ret
    exact ⟨rfl, HK.out⟩
/-- STEP: of what is no part. -/
theorem jo_other {w : World} {b o : Nat} {F : List Nat} {q : Os} (h : JAt w b o F q) (v : Value) (X : Ev) (hP : ∀ W, Calls Tryd.prog 36 #[v] W fun r w' => r = .returned (.tuple #[evV X, .bool false]) ∧ Below W.heap.size W w') :
    Calls Tryd.prog 11 #[.pointer (some ⟨b, o, none⟩), v] w fun r w' => r = .returned (.tuple #[.string ⟨#[]⟩, .int .i64 14]) ∧ JAt w' b o F q ∧ Jf b o F F w w' := by
  have HR := Lib.hid (refuses_other (w := w) (b := b) (o := o) v X hP)
  have HF : Hid (∀ w', Below w.heap.size w w' → JAt w' b o F q ∧ Jf b o F F w w') := Lib.hid (fun w' k => ⟨h.go k, Jf.of k h.lt⟩)
  clear h hP
  go_enter Tryd.func11, Tryd.ntmps11
  go_wp2_with fail
  refine HR.out.mono ?_
  rintro r w1 ⟨rfl, b1⟩
  have H1 := Lib.hid (HF.out _ b1)
  clear b1
  go_wp2
  go_ret2
  exact ⟨rfl, H1.out⟩
set_option maxRecDepth 100000 in
set_option maxHeartbeats 2000000 in
theorem jo_err {w : World} {b o : Nat} {F : List Nat} {q : Os} (h : JAt w b o F q) (v : Value) (n : Nat) (hn : n = 14 ∨ n = 8)
    (hR : Calls Tryd.prog 23 #[.pointer (some ⟨b, o, none⟩), v] w fun r w' => r = .returned (.int .i64 n) ∧ Below w.heap.size w w') :
    Calls Tryd.prog 11 #[.pointer (some ⟨b, o, none⟩), v] w fun r w' => r = .returned (.tuple #[.string ⟨#[]⟩, .int .i64 n]) ∧ JAt w' b o F q ∧ Jf b o F F w w' := by
  have HR := Lib.hid hR
  have HF : Hid (∀ w', Below w.heap.size w w' → JAt w' b o F q ∧ Jf b o F F w w') := Lib.hid (fun w' k => ⟨h.go k, Jf.of k h.lt⟩)
  clear h hR
  rcases hn with rfl | rfl
  all_goals
    go_enter Tryd.func11, Tryd.ntmps11
    go_wp2_with fail
    refine HR.out.mono ?_
    rintro r w1 ⟨rfl, b1⟩
    have H1 := Lib.hid (HF.out _ b1)
    clear b1
    go_wp2
    go_ret2
    exact ⟨rfl, H1.out⟩
set_option maxRecDepth 100000 in
set_option maxHeartbeats 2000000 in
theorem jo_ok {w : World} {b o : Nat} {F : List Nat} {q : Os} (h : JAt w b o F q) (v : Value) (T : ByteArray) (q' : Os)
    (hR : Calls Tryd.prog 23 #[.pointer (some ⟨b, o, none⟩), v] w fun r w' => r = .returned (.int .i64 0) ∧ Below w.heap.size w w')
    (hW : ∀ W, Below w.heap.size w W → Calls Tryd.prog 24 #[.pointer (some ⟨b, o, none⟩), v] W fun r w' => r = .returned (.string T) ∧ ∃ F', JAt w' b o F' q' ∧ Jf b o F F' W w') :
    Calls Tryd.prog 11 #[.pointer (some ⟨b, o, none⟩), v] w fun r w' => r = .returned (.tuple #[.string T, .int .i64 0]) ∧ ∃ F', JAt w' b o F' q' ∧ Jf b o F F' w w' := by
  have HR := Lib.hid hR
  have HW := Lib.hid hW
  have hb := h.lt
  clear h hR hW
  have HB := Lib.hid hb
  clear hb
  go_enter Tryd.func11, Tryd.ntmps11
  go_wp2_with fail
  refine HR.out.mono ?_
  rintro r w1 ⟨rfl, b1⟩
  have H1 := Lib.hid b1
  clear b1
  go_wp2_with fail
  refine (HW.out _ H1.out).mono ?_
  rintro r w2 ⟨rfl, F', hj, hf⟩
  have H2 : Hid (∃ F', JAt w2 b o F' q' ∧ Jf b o F F' w w2) := Lib.hid ⟨F', hj, (Jf.of H1.out HB.out).trans hf⟩
  clear hj hf
  go_wp2
  go_ret2
  exact ⟨rfl, H2.out⟩
/-- STEP: of a part, whether it may come now or not. -/
theorem jo_step {w : World} {b o : Nat} {F : List Nat} {q : Os} (h : JAt w b o F q) (hs : q.s.length ≤ 900) (e : Ev) (hm : mayE e) (hmag : e.m < 18446744073709551616) (ht : e.t.size ≤ 1000) {w0 : World} (hT : Tab w0) (lo : w0.heap.size ≤ b) (row : ∀ k ∈ F, w0.heap.size ≤ k) (bel : Below w0.heap.size w0 w) :
    Calls Tryd.prog 11 #[.pointer (some ⟨b, o, none⟩), valE e] w fun r w' => r = .returned (.tuple #[.string ⟨(stepO q e).1.1.toArray⟩, .int .i64 ((stepO q e).1.2 : Nat)]) ∧ ∃ F', JAt w' b o F' (stepO q e).2 ∧ Jf b o F F' w w' := by
  have hR := refusesO h (by omega) e hm
  have bad : ∀ n : Nat, (n = 14 ∨ n = 8) → stepO q e = (([], n), q) → Calls Tryd.prog 11 #[.pointer (some ⟨b, o, none⟩), valE e] w fun r w' => r = .returned (.tuple #[.string ⟨(stepO q e).1.1.toArray⟩, .int .i64 ((stepO q e).1.2 : Nat)]) ∧ ∃ F', JAt w' b o F' (stepO q e).2 ∧ Jf b o F F' w w' := by
    intro n hn hq
    rw [hq] at hR ⊢
    refine (jo_err h (valE e) n hn hR).mono ?_
    rintro r w' ⟨h1, h2, h3⟩
    exact ⟨h1, F, h2, h3⟩
  have hC := as_close e hm
  have hB := as_begin e hm
  have hf := h.fin
  obtain ⟨s, dn⟩ := q
  simp only at hs
  cases dn with
  | true => exact bad 14 (.inl rfl) (stepO_bad ⟨s, true⟩ e (.inr rfl))
  | false =>
    by_cases h7 : e.k = 7
    · cases s with
      | nil => exact bad 14 (.inl rfl) (stepO_none hm h7)
      | cons x r =>
        by_cases ho : x.map = true ∧ x.have_ % 2 = 1
        · exact bad 14 (.inl rfl) (stepO_odd hm h7 ho)
        · rw [stepO_end hm h7 ho] at hR ⊢
          rw [decide_eq_true h7] at hC
          refine jo_ok h (valE e) _ _ hR (fun W k => ?_)
          refine (write_end (h.go k) (by simp only [List.length_cons] at hs; omega) (valE e) hC).mono ?_
          rintro q w' ⟨h1, h2, h3⟩
          exact ⟨h1, F, h2, h3⟩
    · rw [decide_eq_false h7] at hC
      by_cases hk : keyB s = true ∧ e.k ≠ 3
      · exact bad 8 (.inr rfl) (stepO_key hm h7 hk.1 hk.2)
      · by_cases h56 : e.k = 5 ∨ e.k = 6
        · have hkf : keyB s = false := by
            cases hq : keyB s with
            | false => rfl
            | true => exact absurd ⟨hq, by omega⟩ hk
          rw [decide_eq_true h56, if_pos h56] at hB
          rw [stepO_open hm h56 hkf] at hR ⊢
          refine jo_ok h (valE e) _ _ hR (fun W k => ?_)
          refine (write_open (h.go k) rfl (by show s.length ≤ 1000; omega) hkf (valE e) (decide (e.k = 6)) e.c hC hB).mono ?_
          rintro q w' ⟨h1, F', h2, h3⟩
          refine ⟨?_, F', h2, h3⟩
          rw [h1, ← cat_of]
          by_cases h6 : e.k = 6
          · rw [decide_eq_true h6, if_pos rfl, if_pos h6]
          · rw [decide_eq_false h6, if_neg (by simp), if_neg h6]
        · rw [decide_eq_false h56, if_neg h56, decide_eq_false (by omega : ¬ e.k = 6)] at hB
          have hk5 : e.k = 0 ∨ e.k = 1 ∨ e.k = 2 ∨ e.k = 3 ∨ e.k = 4 := by
            have := kind8 hm
            omega
          rw [stepO_val hm h7 h56 hk] at hR ⊢
          refine jo_ok h (valE e) _ _ hR (fun W k => ?_)
          have hX : ∀ W', Below W.heap.size W W' ∨ Jf b o F F W W' → Calls Tryd.prog 42 #[valE e] W' fun r w' => r = .returned (.string ⟨(outB e).toArray⟩) ∧ Below W'.heap.size W' w' := by
            intro W' hW'
            refine text_of e hk5 hmag ht W' ?_
            have k0 : Below w0.heap.size w0 W := bel.trans (k.mono bel.size)
            refine hT.below (k0.trans ?_)
            rcases hW' with hW' | hW'
            · exact hW'.mono k0.size
            · exact hW'.below lo row k0.size
          refine (write_val (h.go k) (by omega) (valE e) _ (outB_size e hk5 hmag ht) hC hB hX).mono ?_
          rintro q w' ⟨h1, h2, h3⟩
          refine ⟨?_, F, h2, h3⟩
          rw [h1, cat_of]
/-- A Writer that a law made: all its blocks are new since w0. -/
structure JW (w0 w : World) (b : Nat) (F : List Nat) (q : Os) : Prop where
  at_ : JAt w b 0 F q
  lo : w0.heap.size ≤ b
  row : ∀ k ∈ F, w0.heap.size ≤ k
  bel : Below w0.heap.size w0 w
  typ : ∃ cs fr, w.heap[b]? = some (.cells cs 27 fr)
theorem JW.go {w0 w w' : World} {b : Nat} {F : List Nat} {q : Os} (h : JW w0 w b F q) (k : Below w.heap.size w w') : JW w0 w' b F q := by
  obtain ⟨cs, fr, hc⟩ := h.typ
  exact ⟨h.at_.go k, h.lo, h.row, h.bel.trans (k.mono h.bel.size), cs, fr, (k.block b h.at_.lt).trans hc⟩
theorem JW.next {w0 w w' : World} {b : Nat} {F F' : List Nat} {q q' : Os} (h : JW w0 w b F q) (hj : JAt w' b 0 F' q') (k : Jf b 0 F F' w w') : JW w0 w' b F' q' := by
  have h1 := k.step.low (B := w0.heap.size) (fun i hi => (List.mem_cons.1 hi).elim (fun e => e ▸ h.lo) (fun hi => h.row i hi)) h.bel.size
  obtain ⟨cs, fr, hc⟩ := h.typ
  obtain ⟨c', hc', _⟩ := k.shape _ _ _ hc
  exact ⟨hj, h.lo, fun i hi => h1 i (List.mem_cons_of_mem _ hi), h.bel.trans (k.below h.lo h.row h.bel.size), c', fr, hc'⟩
/-- STEP, within a law. -/
theorem jw_step {w0 w : World} {b : Nat} {F : List Nat} {q : Os} (h : JW w0 w b F q) (hT : Tab w0) (hs : q.s.length ≤ 900) (e : Ev) (hm : mayE e) (hmag : e.m < 18446744073709551616) (ht : e.t.size ≤ 1000) :
    Calls Tryd.prog 11 #[.pointer (some ⟨b, 0, none⟩), valE e] w fun r w' => r = .returned (.tuple #[.string ⟨(stepO q e).1.1.toArray⟩, .int .i64 ((stepO q e).1.2 : Nat)]) ∧ ∃ F', JW w0 w' b F' (stepO q e).2 ∧ Jf b 0 F F' w w' := by
  refine (jo_step h.at_ hs e hm hmag ht hT h.lo h.row h.bel).mono ?_
  rintro r w' ⟨h1, F', h2, h3⟩
  exact ⟨h1, F', h.next h2 h3, h3⟩
theorem jat_block {w : World} {b : Nat} {c : Array Value} {t : TypeId} (h : w.heap[b]? = some (.cells c t (0, 0))) : At w b 0 c.toList := fun j u hj => by
  refine ⟨?_, ?_⟩
  · unfold World.cell?
    simp only [h]
    simpa using hj
  · unfold World.frozen?
    simp only [h]
    simp
theorem jw_new (w0 w : World) (hb : Below w0.heap.size w0 w) : JW w0 (w.alloc (.cells #[.int .i64 0, .slice none 0 0] 27)) w.heap.size [] ⟨[], false⟩ :=
  ⟨⟨⟨none, 0, jat_block (heap_alloc_new w _), Win.nil_ _ _ _, rfl⟩, ⟨_, _, _, heap_alloc_new w _, by decide⟩, fun e => (by cases e), trivial⟩, hb.size, fun k hk => (by simp at hk), up_alloc hb _, _, _, heap_alloc_new w _⟩
/-- What lies in blocks of other types. -/
theorem JW.off {w0 w w' : World} {b : Nat} {F F' : List Nat} {q : Os} (h : JW w0 w b F q) (k : Jf b 0 F F' w w') : Off [27, 4] w w' := by
  intro i c t fr hi ht
  have hlt := (Array.getElem?_eq_some_iff.1 hi).1
  rw [k.step.block i hlt ?_]
  · exact hi
  · intro hm
    rcases List.mem_cons.1 hm with e | hm
    · subst e
      obtain ⟨cs, fr', hc⟩ := h.typ
      rw [hi] at hc
      cases hc
      exact ht (by simp)
    · obtain ⟨_, _, cur, hc⟩ := h.at_.row i hm
      rw [hi] at hc
      cases hc
      exact ht (by simp)
/-- A step of others, in blocks of other types. -/
theorem JW.kept {w0 w w' : World} {b : Nat} {F : List Nat} {q : Os} {ts : List Nat} (h : JW w0 w b F q) (k : Off ts w w') (h1 : 27 ∉ ts) (h2 : 4 ∉ ts) (hb : Below w0.heap.size w w') : JW w0 w' b F q := by
  obtain ⟨cs, fr, hc⟩ := h.typ
  refine ⟨h.at_.keep fun i hi => ?_, h.lo, h.row, h.bel.trans hb, cs, fr, k _ _ _ _ hc h1⟩
  rcases hi with rfl | hi
  · rw [hc, k _ _ _ _ hc h1]
  · obtain ⟨_, _, cur, hr⟩ := h.at_.row i hi
    rw [hr, k _ _ _ _ hr h2]
theorem isB_off {B b : Nat} {bs : List UInt8} {w w' : World} {ts : List Nat} (h : IsB B b bs w) (k : Off ts w w') (h1 : 75 ∉ ts) (h2 : 5 ∉ ts) : IsB B b bs w' := by
  have one : ∀ p, Lib.BuilderAtF 75 5 B b p (Lib.byteCells bs) w → Lib.BuilderAtF 75 5 B b p (Lib.byteCells bs) w' := by
    rintro p ⟨hB, v, hb, ⟨hl, hown⟩, hv⟩
    refine ⟨hB, v, k _ _ _ _ hb h1, ⟨hl, ?_⟩, hv⟩
    rcases hown with h0 | ⟨g, cap, cur, fz, hv', hg, hc, r⟩
    · exact .inl h0
    · exact .inr ⟨g, cap, cur, fz, hv', hg, k _ _ _ _ hc h2, r⟩
  rcases h with h | h
  · exact .inl (one _ h)
  · exact .inr (one _ h)
theorem IsB.typ {B b : Nat} {bs : List UInt8} {w : World} (h : IsB B b bs w) : ∃ cs fr, w.heap[b]? = some (.cells cs 75 fr) := by
  rcases h with ⟨_, v, hb, _⟩ | ⟨_, v, hb, _⟩ <;> exact ⟨_, _, hb⟩
/-- A step of a Builder. -/
theorem off_kept {B b : Nat} {bs : List UInt8} {w w' : World} (h : IsB B b bs w) (k : Lib.OthersKept 5 (some b) w w') : Off [75, 5] w w' := by
  intro i c t fr hi ht
  refine k i _ hi ?_ ?_
  · intro e
    cases e
    obtain ⟨cs, fr', hc⟩ := h.typ
    rw [hi] at hc
    cases hc
    exact ht (by simp)
  · intro c' fz e
    cases e
    exact ht (by simp)
end Go.Proofs.YtkolebnjhndmkaaDoor
/-
  CONTRACT of jsonout.All: as the machine of JoutPure over all parts.
-/
namespace Go.Proofs.YtkolebnjhndmkaaDoor
open Go.RowKit
open Go.Lib
theorem ostep_len (q : Os) (e : Ev) : (stepO q e).2.s.length ≤ q.s.length + 1 := by
  have hi : (incB q.s).length = q.s.length := by cases q.s <;> rfl
  unfold stepO
  split
  · simp
  · split
    · split
      · simp
      · split
        · simp
        · simp_all; omega
    · split
      · simp
      · split
        · simp [hi]
        · simp [hi]
theorem step_size (q : Os) (e : Ev) (hm : mayE e) (hmag : e.m < 18446744073709551616) (ht : e.t.size ≤ 1000) : (stepO q e).1.1.length ≤ 100001 := by
  have hs : (sepW q.s).length ≤ 1 := by
    unfold sepW
    repeat' split
    all_goals simp
  unfold stepO
  split
  · simp
  · split
    · split
      · simp
      · split <;> simp
    · rename_i h7
      split
      · simp
      · split
        · simp; omega
        · rename_i h56
          have hk5 : e.k = 0 ∨ e.k = 1 ∨ e.k = 2 ∨ e.k = 3 ∨ e.k = 4 := by
            have := kind8 hm
            omega
          have := outB_length e hk5 hmag ht
          simp only [List.length_append]
          omega
/-- In the midst of all parts. -/
structure OAllI (w0 wr : World) (L : List Ev) (j : Nat) (q : Os) (F : List Nat) (acc : List UInt8) : Prop where
  jw : JW w0 wr w0.heap.size F q
  bld : IsB w0.heap.size (w0.heap.size + 1) acc wr
  eq : allO ⟨[], false⟩ L = (acc ++ (allO q (L.drop j)).1, (allO q (L.drop j)).2)
  len : acc.length ≤ 100001 * j
  dep : q.s.length ≤ j
theorem ojdrop_at {L : List Ev} {j : Nat} (h : j < L.length) : L.drop j = L[j] :: L.drop (j + 1) := List.drop_eq_getElem_cons h
theorem allO_cons_bad {q : Os} {e : Ev} {l : List Ev} (h : ¬ mayE e) : allO q (e :: l) = ([], 1) := by
  unfold allO
  rw [if_pos h]
theorem allO_cons_err {q : Os} {e : Ev} {l : List Ev} (h : mayE e) (h2 : (stepO q e).1.2 ≠ 0) : allO q (e :: l) = ([], (stepO q e).1.2) := by
  unfold allO
  rw [if_neg (fun hh => hh h), if_pos h2]
theorem allO_cons_ok {q : Os} {e : Ev} {l : List Ev} (h : mayE e) (h2 : (stepO q e).1.2 = 0) : allO q (e :: l) = ((stepO q e).1.1 ++ (allO (stepO q e).2 l).1, (allO (stepO q e).2 l).2) := by
  conv => lhs; unfold allO
  rw [if_neg (fun hh => hh h), if_neg (fun hh => hh h2)]
theorem OAllI.next {w0 wr w3 : World} {L : List Ev} {j : Nat} {q : Os} {F F' : List Nat} {acc : List UInt8} (h : OAllI w0 wr L j q F acc) (hj : j < L.length) (hm : mayE L[j]) (hmag : L[j].m < 18446744073709551616) (ht : L[j].t.size ≤ 1000) (h0 : (stepO q L[j]).1.2 = 0)
    (hw : JW w0 w3 w0.heap.size F' (stepO q L[j]).2) (hb : IsB w0.heap.size (w0.heap.size + 1) (acc ++ (stepO q L[j]).1.1) w3) : OAllI w0 w3 L (j + 1) (stepO q L[j]).2 F' (acc ++ (stepO q L[j]).1.1) := by
  have h1 := step_size q L[j] hm hmag ht
  have h2 := ostep_len q L[j]
  refine ⟨hw, hb, ?_, ?_, ?_⟩
  · have := h.eq
    rw [ojdrop_at hj, allO_cons_ok hm h0] at this
    rw [this]
    simp
  · have := h.len
    rw [List.length_append]
    omega
  · have := h.dep
    omega
set_option maxRecDepth 100000 in
set_option maxHeartbeats 8000000 in
/-- ALL. -/
theorem joall_any (A : Option Addr) (n cp : Nat) (E : Nat → Ev) (w : World) (hn : n ≤ 900) (hE : EvsAt w w.heap.size A n E) (hok : ∀ i, i < n → EvOk (E i) ∧ (E i).t.size ≤ 1000) (hT : Tab w) :
    Calls Tryd.prog 17 #[.slice A n cp] w fun r w' => r = .returned (.tuple #[.string ⟨(allO ⟨[], false⟩ (pre E n)).1.toArray⟩, .int .i64 ((allO ⟨[], false⟩ (pre E n)).2 : Nat)]) ∧ Below w.heap.size w w' := by
  have hLn : (pre E n).length = n := pre_length E n
  have hget : ∀ j (h : j < n) (h' : j < (pre E n).length), (pre E n)[j]'h' = E j := by
    intro j h h'
    simp [pre]
  have HG := Lib.hid hget
  have HL := Lib.hid hLn
  have HE := Lib.hid hE
  have HOK := Lib.hid hok
  have HT := Lib.hid hT
  obtain ⟨R, hR⟩ : ∃ R, allO ⟨[], false⟩ (pre E n) = R := ⟨_, rfl⟩
  have HR := Lib.hid hR
  have H0 : Hid (OAllI w ((w.alloc (.cells #[.int .i64 0, .slice none 0 0] 27)).alloc (.cells #[.pointer none, .slice none 0 0] 75)) (pre E n) 0 ⟨[], false⟩ [] []) := Lib.hid ⟨(jw_new w w (Below.refl _ _)).go (up_alloc (Below.refl _ _) _), isB_new _ _ _ (by omega) (by
    have := heap_alloc_new (w.alloc (.cells #[.int .i64 0, .slice none 0 0] 27)) (.cells #[.pointer none, .slice none 0 0] 75)
    simpa using this), by simp, by simp, by simp⟩
  rw [hR]
  clear hget hLn hE hok hT hR
  generalize pre E n = L at *
  go_enter Tryd.func17, Tryd.ntmps17
  go_wp2
  go_loopw [8, 9, 10, 11, 14] (fun _ _ _ _ i wr => ∃ (j : Nat) (q : Os) (F : List Nat) (acc : List UInt8), i = .int .i64 j ∧ j ≤ n ∧ Hid (OAllI w wr L j q F acc)) (fun _ _ _ _ i _ => n - (RowKit.intOf i).toNat)
  case atStart => exact ⟨0, _, _, _, rfl, by omega, H0⟩
  case round =>
    obtain ⟨j, q, F, acc, rfl, hj, HA⟩ := hrel
    clear H0
    by_cases hlt : j < n
    · have hjL : j < L.length := by rw [HL.out]; exact hlt
      have hLe : L[j] = E j := HG.out j hlt hjL
      have hOKe := HOK.out j hlt
      have HO := Lib.hid (fun W => of_any (E j) W)
      obtain ⟨g, off, rfl, hgb, x0, x1, x2, x3, x4⟩ := (HE.out.below HA.out.jw.bel).cells hlt
      have hgb2 : g < wr.heap.size := Nat.lt_of_lt_of_le hgb HA.out.jw.bel.size
      have hdep : q.s.length ≤ 900 := by have := HA.out.dep; omega
      by_cases hm : mayE (E j)
      · rw [if_pos hm, decide_eq_true hm] at HO
        have HS : Hid (∀ W', Below wr.heap.size wr W' → Calls Tryd.prog 11 #[.pointer (some ⟨w.heap.size, 0, none⟩), valE (E j)] W' fun r w' => r = .returned (.tuple #[.string ⟨(stepO q (E j)).1.1.toArray⟩, .int .i64 ((stepO q (E j)).1.2 : Nat)]) ∧ ∃ F', JW w w' w.heap.size F' (stepO q (E j)).2 ∧ IsB w.heap.size (w.heap.size + 1) acc w') := Lib.hid (fun W' k => by
          refine (jw_step (HA.out.jw.go k) HT.out hdep (E j) hm hOKe.1.2.1 hOKe.2).mono ?_
          rintro r w' ⟨h1, F', h2, h3⟩
          have hB1 : IsB w.heap.size (w.heap.size + 1) acc W' := isB_off (ts := []) HA.out.bld (fun i c t fr hi _ => by rw [k.block i (Array.getElem?_eq_some_iff.1 hi).1]; exact hi) (by simp) (by simp)
          exact ⟨h1, F', h2, isB_off hB1 ((HA.out.jw.go k).off h3) (by decide) (by decide)⟩)
        have hsz := step_size q (E j) hm hOKe.1.2.1 hOKe.2
        by_cases h0 : (stepO q (E j)).1.2 = 0
        · have HN : Hid (∀ w3 F', JW w w3 w.heap.size F' (stepO q (E j)).2 → IsB w.heap.size (w.heap.size + 1) (acc ++ (stepO q (E j)).1.1) w3 → OAllI w w3 L (j + 1) (stepO q (E j)).2 F' (acc ++ (stepO q (E j)).1.1)) := Lib.hid (fun w3 F' a b => by
            have := HA.out.next (w3 := w3) (F' := F') hjL (by rw [hLe]; exact hm) (by rw [hLe]; exact hOKe.1.2.1) (by rw [hLe]; exact hOKe.2) (by rw [hLe]; exact h0) (by rw [hLe]; exact a) (by rw [hLe]; exact b)
            rwa [hLe] at this)
          have hal := HA.out.len
          rw [h0] at HS
          generalize valE (E j) = V at HS HO
          generalize stepO q (E j) = Q at HS HN hsz h0
          obtain ⟨⟨T, e0⟩, q'⟩ := Q
          simp only at HS HN hsz h0
          obtain ⟨Z, hZ⟩ : ∃ Z : ByteArray, (⟨T.toArray⟩ : ByteArray) = Z := ⟨_, rfl⟩
          have hZl : Z.data.toList = T := by rw [← hZ]
          have hZs : Z.size ≤ 100001 := by rw [← hZ, size_of]; exact hsz
          rw [hZ] at HS
          generalize E j = e at *
          obtain ⟨k, y, m, t, c⟩ := e
          simp only [evV] at x0 x1 x2 x3 x4 HO
          have HZ := Lib.hid hZl
          have HAL := Lib.hid (And.intro hal (And.intro hZs hj))
          clear hLe hOKe hgb hdep hm hsz h0 hZ hZl hZs hal hjL
          go_wp2_with fail
          refine (HO.out _).mono ?_
          rintro r w1 ⟨rfl, b1⟩
          have B1 := Lib.hid (up_trans (up_alloc (Below.refl _ _) _) b1)
          clear b1
          go_wp2_with fail
          refine (HS.out _ B1.out).mono ?_
          rintro r w2 ⟨rfl, F', hj2, hb2⟩
          have H2 := Lib.hid (And.intro hj2 hb2)
          clear hj2 hb2
          go_wp2_with fail
          refine (sb_write w.heap.size (w.heap.size + 1) acc Z w2 H2.out.2 (by have := HAL.out; omega) H2.out.1.bel.size).mono ?_
          rintro r w3 ⟨rfl, i3, b3, k3⟩
          rw [HZ.out] at i3
          have H3 := Lib.hid (HN.out w3 F' (H2.out.1.kept (off_kept H2.out.2 k3) (by decide) (by decide) b3) i3)
          clear i3 b3 k3
          go_wp2
          go_roundw
          case rel => exact ⟨j + 1, _, _, _, rfl, hlt, H3⟩
          case measure => simp [RowKit.intOf]; omega
        · have hR : R = (acc, (stepO q (E j)).1.2) := by
            have := HA.out.eq
            rw [ojdrop_at hjL, hLe, allO_cons_err hm h0, HR.out] at this
            simpa using this
          have hn' : (((stepO q (E j)).1.2 : Int) != 0) = true := by simp; omega
          generalize valE (E j) = V at HS HO
          generalize stepO q (E j) = Q at *
          obtain ⟨⟨T, n0⟩, q'⟩ := Q
          simp only at HS hsz h0 hR hn'
          generalize E j = e at *
          obtain ⟨k, y, m, t, c⟩ := e
          simp only [evV] at x0 x1 x2 x3 x4 HO
          subst hR
          have HAc := Lib.hid HA.out.jw.bel
          generalize (⟨T.toArray⟩ : ByteArray) = Z at HS
          clear hLe hOKe hgb hdep hm hsz h0 hjL
          go_wp2_with fail
          refine (HO.out _).mono ?_
          rintro r w1 ⟨rfl, b1⟩
          have B1 := Lib.hid (up_trans (up_alloc (Below.refl _ _) _) b1)
          clear b1
          go_wp2_with fail
          refine (HS.out _ B1.out).mono ?_
          rintro r w2 ⟨rfl, F', hj2, hb2⟩
          have H2 := Lib.hid (And.intro hj2 hb2)
          clear hj2 hb2
          go_wp2_with fail
          refine (sb_string w.heap.size (w.heap.size + 1) acc w2 H2.out.2 H2.out.1.bel.size).mono ?_
          rintro r w3 ⟨rfl, i3, b3, k3⟩
          have B3 := Lib.hid (H2.out.1.bel.trans b3)
          clear i3 b3 k3
          go_wp2
          go_ret2
          exact ⟨rfl, B3.out⟩
      · have hR : R = (acc, 1) := by
          have := HA.out.eq
          rw [ojdrop_at hjL, hLe, allO_cons_bad hm, HR.out] at this
          simpa using this
        rw [if_neg hm, decide_eq_false hm] at HO
        generalize E j = e at *
        obtain ⟨k, y, m, t, c⟩ := e
        simp only [evV] at x0 x1 x2 x3 x4 HO
        subst hR
        have HBB : Hid (∀ W', Below wr.heap.size wr W' → IsB w.heap.size (w.heap.size + 1) acc W' ∧ Below w.heap.size w W') := Lib.hid (fun W' k => ⟨isB_off (ts := []) HA.out.bld (fun i c t fr hi _ => by rw [k.block i (Array.getElem?_eq_some_iff.1 hi).1]; exact hi) (by simp) (by simp), HA.out.jw.bel.trans (k.mono HA.out.jw.bel.size)⟩)
        clear hLe hOKe hgb hdep hm hjL
        go_wp2_with fail
        refine (HO.out _).mono ?_
        rintro r w1 ⟨rfl, b1⟩
        have B1 := Lib.hid (HBB.out _ (up_trans (up_alloc (Below.refl _ _) _) b1))
        clear b1
        go_wp2_with fail
        refine (sb_string w.heap.size (w.heap.size + 1) acc w1 B1.out.1 B1.out.2.size).mono ?_
        rintro r w3 ⟨rfl, i3, b3, k3⟩
        have B3 := Lib.hid (B1.out.2.trans b3)
        clear i3 b3 k3
        go_wp2
        go_ret2
        exact ⟨rfl, B3.out⟩
    · obtain rfl : j = n := by omega
      have hR : R = (acc, if q.dn = true then 0 else 3) := by
        have := HA.out.eq
        rw [List.drop_of_length_le (by rw [HL.out]; omega), HR.out] at this
        rw [this]
        simp [allO]
      have HD := Lib.hid (doneO HA.out.jw.at_)
      have HS := Lib.hid (sb_string w.heap.size (w.heap.size + 1) acc wr HA.out.bld HA.out.jw.bel.size)
      have HB := Lib.hid HA.out.jw.bel
      obtain ⟨D, hD⟩ : ∃ D, q.dn = D := ⟨_, rfl⟩
      rw [hD] at hR HD
      clear hD
      cases D with
      | true =>
        obtain rfl : R = (acc, 0) := hR
        go_wp2_with fail
        refine HD.out.mono ?_
        rintro r w1 ⟨rfl, rfl⟩
        go_wp2_with fail
        refine HS.out.mono ?_
        rintro r w3 ⟨rfl, i3, b3, k3⟩
        have B3 := Lib.hid (HB.out.trans b3)
        clear i3 b3 k3
        go_wp2
        go_ret2
        exact ⟨rfl, B3.out⟩
      | false =>
        obtain rfl : R = (acc, 3) := hR
        go_wp2_with fail
        refine HD.out.mono ?_
        rintro r w1 ⟨rfl, rfl⟩
        go_wp2_with fail
        refine HS.out.mono ?_
        rintro r w3 ⟨rfl, i3, b3, k3⟩
        have B3 := Lib.hid (HB.out.trans b3)
        clear i3 b3 k3
        go_wp2
        go_ret2
        exact ⟨rfl, B3.out⟩
end Go.Proofs.YtkolebnjhndmkaaDoor
