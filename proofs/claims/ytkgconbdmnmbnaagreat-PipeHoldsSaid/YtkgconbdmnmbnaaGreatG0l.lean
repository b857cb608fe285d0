/-
  Parts: JoutPure, Jf, JoutA, JoutB, Ev, As, JoutC, DecShelf, DecLex, DecFmt, DecDiv, DecPrint, SbS, Bld.
-/
import Derived.Test.YtkgconbdmnmbnaaGreatG0b
import Derived.Test.YtkgconbdmnmbnaaGreatG0k
import Derived.Test.YtkgconbdmnmbnaaGreatG0a
import Derived.Deep.QuietTactic
import Derived.Shelf.Small.Bits
import Derived.Shelf.Strconv.Itoa0
import Derived.Shelf.Strconv.Itoa1
import Derived.Shelf.LaysM
import Derived.Shelf.Strconv.Itoa2
import Derived.Test.YtkgconbdmnmbnaaGreatG0d
import GoSem.Op.String
import Derived.Lib.ItoaMem
import Derived.WalkKit
import Derived.WalkSpells
import Derived.Below
import Derived.BigCall
import Derived.BigGuard
import Derived.Shelf.Strings.BuilderF
import Derived.Shelf.Strings.BuilderK
import Derived.Test.YtkgconbdmnmbnaaGreatProg
set_option maxRecDepth 100000
set_option maxHeartbeats 16000000
open Go.Lib (hid)
namespace Go.Proofs.YtkgconbdmnmbnaaGreat
section
open Go.Lib
structure Os where
  s : List Bx
  dn : Bool
def outB (e : Ev) : List UInt8 := if e.k = 4 then 34 :: putS e.t.data.toList ++ [34] else outW e
def stepO (o : Os) (e : Ev) : (List UInt8 × Nat) × Os :=
  if ¬ mayE e ∨ o.dn = true then (([], 14), o)
  else if e.k = 7 then
    match o.s with
    | [] => (([], 14), o)
    | b :: r => if b.map = true ∧ b.have_ % 2 = 1 then (([], 14), o) else (([if b.map = true then 125 else 93], 0), ⟨r, r.isEmpty⟩)
  else if keyB o.s = true ∧ e.k ≠ 3 then (([], 8), o)
  else if e.k = 5 ∨ e.k = 6 then ((sepW o.s ++ [if e.k = 6 then 123 else 91], 0), ⟨⟨decide (e.k = 6), e.c, 0⟩ :: incB o.s, false⟩)
  else ((sepW o.s ++ outB e, 0), ⟨incB o.s, o.s.isEmpty⟩)
theorem stepO_bad (o : Os) (e : Ev) (h : ¬ mayE e ∨ o.dn = true) : stepO o e = (([], 14), o) := if_pos h
theorem stepO_end {b : Bx} {r : List Bx} {e : Ev} (hm : mayE e) (h7 : e.k = 7) (h : ¬ (b.map = true ∧ b.have_ % 2 = 1)) : stepO ⟨b :: r, false⟩ e = (([if b.map = true then 125 else 93], 0), ⟨r, r.isEmpty⟩) := by
  unfold stepO; rw [if_neg (by simp [hm]), if_pos h7]; simp only; rw [if_neg h]
theorem stepO_odd {b : Bx} {r : List Bx} {e : Ev} (hm : mayE e) (h7 : e.k = 7) (h : b.map = true ∧ b.have_ % 2 = 1) : stepO ⟨b :: r, false⟩ e = (([], 14), ⟨b :: r, false⟩) := by
  unfold stepO; rw [if_neg (by simp [hm]), if_pos h7]; simp only; rw [if_pos h]
theorem stepO_none {e : Ev} (hm : mayE e) (h7 : e.k = 7) : stepO ⟨[], false⟩ e = (([], 14), ⟨[], false⟩) := by
  unfold stepO; rw [if_neg (by simp [hm]), if_pos h7]
theorem stepO_key {s : List Bx} {e : Ev} (hm : mayE e) (h7 : e.k ≠ 7) (hk : keyB s = true) (h3 : e.k ≠ 3) : stepO ⟨s, false⟩ e = (([], 8), ⟨s, false⟩) := by
  unfold stepO; rw [if_neg (by simp [hm]), if_neg h7, if_pos ⟨hk, h3⟩]
theorem stepO_open {s : List Bx} {e : Ev} (hm : mayE e) (h56 : e.k = 5 ∨ e.k = 6) (hk : keyB s = false) : stepO ⟨s, false⟩ e = ((sepW s ++ [if e.k = 6 then 123 else 91], 0), ⟨⟨decide (e.k = 6), e.c, 0⟩ :: incB s, false⟩) := by
  unfold stepO; rw [if_neg (by simp [hm]), if_neg (by omega), if_neg (by simp [hk]), if_pos h56]
theorem stepO_val {s : List Bx} {e : Ev} (hm : mayE e) (h7 : e.k ≠ 7) (h56 : ¬ (e.k = 5 ∨ e.k = 6)) (hk : ¬ (keyB s = true ∧ e.k ≠ 3)) : stepO ⟨s, false⟩ e = ((sepW s ++ outB e, 0), ⟨incB s, s.isEmpty⟩) := by
  unfold stepO; rw [if_neg (by simp [hm]), if_neg h7, if_neg hk, if_neg h56]
end
section
open Go.RowKit
open Go.Lib
structure Jf (b o : Nat) (F F' : List Nat) (w w' : World) : Prop where
  step : Step (b :: F) (b :: F') w w'
  shape : ∀ (c : Array Value) (t : TypeId) (fr : Nat × Nat), w.heap[b]? = some (.cells c t fr) → ∃ c' : Array Value, w'.heap[b]? = some (.cells c' t fr) ∧ c'.size = c.size
  cell : ∀ k, (k < o ∨ o + 2 ≤ k) → w'.cell? ⟨b, k, none⟩ = w.cell? ⟨b, k, none⟩
theorem Jf.refl (b o : Nat) (F : List Nat) (w : World) : Jf b o F F w w := ⟨Step.refl _ _, fun c _ _ h => ⟨c, h, rfl⟩, fun _ _ => rfl⟩
theorem Jf.trans {b o : Nat} {F F' F'' : List Nat} {w w1 w2 : World} (h : Jf b o F F' w w1) (k : Jf b o F' F'' w1 w2) : Jf b o F F'' w w2 :=
  ⟨h.step.trans k.step, fun c t fr hc => by
    obtain ⟨c1, h1, s1⟩ := h.shape c t fr hc; obtain ⟨c2, h2, s2⟩ := k.shape c1 t fr h1; exact ⟨c2, h2, s2.trans s1⟩, fun i hi => (k.cell i hi).trans (h.cell i hi)⟩
theorem Jf.of {b o : Nat} {F : List Nat} {w w' : World} (k : Below w.heap.size w w') (hb : b < w.heap.size) : Jf b o F F w w' :=
  ⟨⟨k.os, k.tape, k.output, k.size, fun i hi _ => k.block i hi, fun _ h => .inl h⟩, fun c _ _ hc => ⟨c, (k.block b hb).trans hc, rfl⟩, fun _ _ => World.cell?_of_block (w := w) (k.block b hb)⟩
theorem Jf.drewN {b o : Nat} {F F' : List Nat} {w w' : World} (h : Jf b o F F' w w') (n : Nat) : Jf b o F F' w (w'.drewN n) := ⟨h.step.drewN n, h.shape, h.cell⟩
theorem jf_set {b o : Nat} {F : List Nat} (w : World) (k : Nat) (v : Value) (hk : o ≤ k ∧ k < o + 2) : Jf b o F F w (w.setCell ⟨b, k, none⟩ v) :=
  ⟨step_setCell _ _ _ _ (by simp), (sub_setCell (b := b) (o := o) (n := 2) w k v hk).shape, (sub_setCell (b := b) (o := o) (n := 2) w k v hk).cell⟩
theorem Jf.set {b o : Nat} {F F' : List Nat} {w w' : World} (h : Jf b o F F' w w') (k : Nat) (v : Value) (hk : o ≤ k ∧ k < o + 2) : Jf b o F F' w (w'.setCell ⟨b, k, none⟩ v) := h.trans (jf_set w' k v hk)
theorem Jf.up {b o : Nat} {F F' : List Nat} {w w1 w2 : World} (h : Jf b o F F' w w1) (hb : b < w.heap.size) (k : Below w1.heap.size w1 w2) : Jf b o F F' w w2 :=
  h.trans (Jf.of k (Nat.lt_of_lt_of_le hb h.step.size))
theorem Jf.below {b o B : Nat} {F F' : List Nat} {w w' : World} (h : Jf b o F F' w w') (hb : B ≤ b) (hF : ∀ k ∈ F, B ≤ k) (hw : B ≤ w.heap.size) : Below B w w' :=
  h.step.below (fun k hk => (List.mem_cons.1 hk).elim (fun e => e ▸ hb) (fun hk => hF k hk)) hw
theorem oat_two {w : World} {b o : Nat} {v0 v1 : Value} (h : At w b o [v0, v1]) : (w.cell? ⟨b, o, none⟩ = some v0 ∧ w.frozen? ⟨b, o, none⟩ = false) ∧ (w.cell? ⟨b, o + 1, none⟩ = some v1 ∧ w.frozen? ⟨b, o + 1, none⟩ = false) :=
  ⟨h 0 v0 rfl, h 1 v1 rfl⟩
theorem jat_block {w : World} {b : Nat} {c : Array Value} {t : TypeId} (h : w.heap[b]? = some (.cells c t (0, 0))) : At w b 0 c.toList := fun j u hj => by
  refine ⟨?_, ?_⟩
  · unfold World.cell?
    simp only [h]; simpa using hj
  · unfold World.frozen?
    simp only [h]; simp
end
section
open Go.RowKit
open Go.Lib
def plO (q : Os) : Nat :=
  match q.s with
  | [] => if q.dn = true then 2 else 0
  | b :: _ => if b.map = true ∧ b.have_ % 2 = 1 then 1 else if b.have_ = 0 then 0 else 2
def topM : List Bx → Bool
  | [] => false
  | x :: _ => x.map
def mapsO (s : List Bx) : List Value := s.reverse.map fun b => .bool b.map
theorem mapsO_length (s : List Bx) : (mapsO s).length = s.length := by simp [mapsO]
theorem mapsO_cons (b : Bx) (r : List Bx) : mapsO (b :: r) = mapsO r ++ [.bool b.map] := by simp [mapsO]
theorem mapsO_incB (s : List Bx) : mapsO (incB s) = mapsO s := by cases s <;> simp [mapsO, incB]
theorem mapsO_last (b : Bx) (r : List Bx) : (mapsO (b :: r))[r.length]? = some (.bool b.map) := by
  rw [mapsO_cons, List.getElem?_append_right (by rw [mapsO_length]; omega), mapsO_length, Nat.sub_self]; rfl
def WfO : List Bx → Prop
  | [] => True
  | _ :: r => ∀ b ∈ r, b.have_ ≠ 0 ∧ ¬ (b.map = true ∧ b.have_ % 2 = 1)
theorem WfO.inc {s : List Bx} (h : WfO s) : WfO (incB s) := by cases s <;> exact h
theorem WfO.tail {x : Bx} {r : List Bx} (h : WfO (x :: r)) : WfO r := by
  cases r with
  | nil => trivial
  | cons y r => exact fun b hb => h b (List.mem_cons_of_mem _ hb)
theorem WfO.open_ {s : List Bx} (h : WfO s) (hk : keyB s = false) (m : Bool) (c : Int) : WfO (⟨m, c, 0⟩ :: incB s) := by
  cases s with
  | nil => simp [WfO, incB]
  | cons x r =>
    intro b hb; simp only [incB, List.mem_cons] at hb; rcases hb with rfl | hb
    · refine ⟨by simp, ?_⟩
      rintro ⟨h1, h2⟩; simp only at h1 h2; simp only [keyB, h1, Bool.true_and, beq_eq_false_iff_ne] at hk; omega
    · exact h b hb
structure JAt (w : World) (b o : Nat) (F : List Nat) (q : Os) : Prop where
  cells : ∃ a cp, At w b o [.int .i64 (plO q), .slice a q.s.length cp] ∧ Win w 4 1 (.slice a q.s.length cp) q.s.length (mapsO q.s) ∧ Value.owner (.slice a q.s.length cp) = F
  blk : ∃ cs t fr, w.heap[b]? = some (.cells cs t fr) ∧ t ≠ 4
  fin : q.dn = true → q.s = []
  wf : WfO q.s
theorem JAt.lt {w : World} {b o : Nat} {F : List Nat} {q : Os} (h : JAt w b o F q) : b < w.heap.size := by
  obtain ⟨cs, t, fr, hc, _⟩ := h.blk; exact (Array.getElem?_eq_some_iff.1 hc).1
theorem JAt.row {w : World} {b o : Nat} {F : List Nat} {q : Os} (h : JAt w b o F q) : ∀ k ∈ F, k < w.heap.size ∧ k ≠ b ∧ ∃ cur, w.heap[k]? = some (.cells cur 4 (0, 0)) := by
  obtain ⟨a, cp, _, hW, hF⟩ := h.cells; obtain ⟨cs, t, fr, hc, ht⟩ := h.blk; subst hF; exact fun k hk => ⟨hW.lt k hk, fun e => hW.apart hc (fun e' => ht e'.symm) (e ▸ hk), hW.typed k hk⟩
theorem JAt.keep {w w' : World} {b o : Nat} {F : List Nat} {q : Os} (h : JAt w b o F q) (hk : ∀ k, k = b ∨ k ∈ F → w'.heap[k]? = w.heap[k]?) : JAt w' b o F q := by
  obtain ⟨a, cp, hA, hW, hF⟩ := h.cells; obtain ⟨cs, t, fr, hc, ht⟩ := h.blk; exact ⟨⟨a, cp, hA.keep (hk b (.inl rfl)), hW.keep (fun k ho => hk k (.inr (hF ▸ ho))), hF⟩, ⟨cs, t, fr, (hk b (.inl rfl)).trans hc, ht⟩, h.fin, h.wf⟩
theorem JAt.go {w w' : World} {b o : Nat} {F : List Nat} {q : Os} (h : JAt w b o F q) (k : Below w.heap.size w w') : JAt w' b o F q :=
  h.keep fun i hi => k.block i (hi.elim (fun e => e ▸ h.lt) (fun hi => (h.row i hi).1))
theorem JAt.drewN {w : World} {b o : Nat} {F : List Nat} {q : Os} (h : JAt w b o F q) (n : Nat) : JAt (w.drewN n) b o F q := h.keep fun _ _ => rfl
theorem JAt.alloc {w : World} {b o : Nat} {F : List Nat} {q : Os} (h : JAt w b o F q) (x : Obj) : JAt (w.alloc x) b o F q := h.go (up_alloc (Below.refl _ _) x)
theorem JAt.place {w : World} {b o : Nat} {F : List Nat} {q q' : Os} (h : JAt w b o F q) (hm : mapsO q'.s = mapsO q.s) (hf : q'.dn = true → q'.s = []) (hw : WfO q'.s) :
    JAt (w.setCell ⟨b, o, none⟩ (.int .i64 (plO q'))) b o F q' ∧ Jf b o F F w (w.setCell ⟨b, o, none⟩ (.int .i64 (plO q'))) := by
  obtain ⟨a, cp, hA, hW, hF⟩ := h.cells; obtain ⟨cs, t, fr, hc, ht⟩ := h.blk; have hl : q'.s.length = q.s.length := by rw [← mapsO_length, hm, mapsO_length]
  have hap : b ∉ Value.owner (.slice a q.s.length cp) := hW.apart hc (fun e => ht e.symm); have hset := hA.set 0 (by simp) (.int .i64 (plO q')); refine ⟨⟨⟨a, cp, ?_, ?_, ?_⟩, ⟨_, t, fr, heap_setCell_at w ⟨b, o, none⟩ _ _ _ _ rfl hc, ht⟩, hf, hw⟩, jf_set w o _ (by omega)⟩
  · rw [hl]
    simpa using hset
  · rw [hl, hm]
    exact hW.setCell_far hap _
  · rw [hl]
    exact hF
theorem in_mapO {w : World} {b o : Nat} {F : List Nat} {q : Os} (h : JAt w b o F q) (hs : q.s.length ≤ 1000) :
    Calls Tryz.prog 215 #[.pointer (some ⟨b, o, none⟩)] w fun r w' => r = .returned (.bool (topM q.s)) ∧ w = w' := by
  obtain ⟨a, cp, hA, hW, hF⟩ := h.cells; obtain ⟨⟨c0, _⟩, ⟨c1, _⟩⟩ := oat_two hA; obtain ⟨s, dn⟩ := q; simp only at *
  cases s with
  | nil =>
    simp only [List.length_nil] at c1; clear h hA hW hF hs c0; go_enter Tryz.func215, Tryz.ntmps215; go_wp2; go_ret; exact ⟨rfl, rfl⟩
  | cons x r =>
    obtain ⟨g, off, c2, hv, _, _, _, _, h3⟩ := hW.form (by simp); obtain ⟨y0, _⟩ := h3 r.length _ (mapsO_last x r)
    injection hv with hv1 hv2 hv3
    subst hv1 hv3; simp only [List.length_cons, topM] at c1 hs ⊢; obtain ⟨xm, xc, xh⟩ := x; simp only at y0 ⊢; generalize r.length = n at *
    have hw : IntKind.i64.wrap ((n : Int) + 1 - 1) = (n : Int) := by simp only [IntKind.wrap_i64]; omega
    have h0 : (0 < (n : Int) + 1) = True := by simp
    clear h hA hW hF h3 c0 hv2; go_enter Tryz.func215, Tryz.ntmps215; go_wp2; go_ret; exact ⟨rfl, rfl⟩
end
section
open Go.RowKit
open Go.Lib
theorem plO_key (q : Os) (hf : q.dn = true → q.s = []) : keyB q.s = true ↔ (plO q ≠ 1 ∧ topM q.s = true) := by
  obtain ⟨s, dn⟩ := q; cases s with
  | nil => simp [keyB, topM]
  | cons b r =>
    simp only [keyB, plO, topM, Bool.and_eq_true, beq_iff_eq]; constructor
    · rintro ⟨h1, h2⟩
      refine ⟨?_, h1⟩; rw [if_neg (by omega)]; split <;> omega
    · rintro ⟨h1, h2⟩
      refine ⟨h2, ?_⟩; by_cases h3 : b.have_ % 2 = 1
      · rw [if_pos ⟨h2, h3⟩] at h1
        omega
      · omega
theorem at_keyO {w : World} {b o : Nat} {F : List Nat} {q : Os} (h : JAt w b o F q) (hs : q.s.length ≤ 1000) :
    Calls Tryz.prog 210 #[.pointer (some ⟨b, o, none⟩)] w fun r w' => r = .returned (.bool (keyB q.s)) ∧ w = w' := by
  have hM0 := in_mapO h hs; have hk := plO_key q h.fin; obtain ⟨a, cp, hA, hW, hF⟩ := h.cells; obtain ⟨⟨c0, _⟩, _⟩ := oat_two hA; generalize hm : topM q.s = m at *
  have hp : plO q = 0 ∨ plO q = 1 ∨ plO q = 2 := by
    unfold plO
    repeat' split
    all_goals simp
  generalize plO q = p at *
  have hkk : keyB q.s = (decide (p ≠ 1) && m) := by
    cases hq : keyB q.s with
    | true => have := hk.1 hq; simp [this.1, this.2]
    | false =>
      cases hb : (decide (p ≠ 1) && m) with
      | false => rfl
      | true =>
        have : keyB q.s = true := hk.2 (by simpa using hb); rw [hq] at this; cases this
  rw [hkk]; have HM := hid hM0; clear h hA hW hF hk hkk hm hM0; rcases hp with rfl | rfl | rfl
  all_goals
    go_enter Tryz.func210, Tryz.ntmps210
    first
    | (go_wp2_with fail
       refine HM.out.mono ?_; rintro r w1 ⟨rfl, rfl⟩; go_wp2; go_ret; exact ⟨by simp, rfl⟩)
    | (go_wp2
       go_ret; exact ⟨by simp, rfl⟩)
theorem sign_pl (q : Os) (hf : q.dn = false) : sepW q.s = if plO q = 1 then [58] else if plO q = 2 then [44] else [] := by
  obtain ⟨s, dn⟩ := q; obtain rfl : dn = false := hf; cases s with
  | nil => simp [sepW, plO]
  | cons b r =>
    simp only [sepW]; by_cases h1 : b.map = true ∧ b.have_ % 2 = 1
    · have e : plO ⟨b :: r, false⟩ = 1 := by
        unfold plO; simp only; rw [if_pos h1]
      rw [e, if_neg (by omega), if_pos h1]; rfl
    · by_cases h0 : b.have_ = 0
      · have e : plO ⟨b :: r, false⟩ = 0 := by
          unfold plO; simp only; rw [if_neg h1, if_pos h0]
        rw [e, if_pos h0]; rfl
      · have e : plO ⟨b :: r, false⟩ = 2 := by
          unfold plO; simp only; rw [if_neg h1, if_neg h0]
        rw [e, if_neg h0, if_neg h1]; rfl
theorem signO {w : World} {b o : Nat} {F : List Nat} {q : Os} (h : JAt w b o F q) (hd : q.dn = false) :
    Calls Tryz.prog 212 #[.pointer (some ⟨b, o, none⟩)] w fun r w' => r = .returned (.string ⟨(sepW q.s).toArray⟩) ∧ w = w' := by
  rw [sign_pl q hd]; obtain ⟨a, cp, hA, hW, hF⟩ := h.cells; obtain ⟨⟨c0, _⟩, _⟩ := oat_two hA; have hp : plO q = 0 ∨ plO q = 1 ∨ plO q = 2 := by
    unfold plO
    repeat' split
    all_goals simp
  generalize plO q = p at *
  clear h hA hW hF; rcases hp with rfl | rfl | rfl
  all_goals
    go_enter Tryz.func212, Tryz.ntmps212; go_wp2; go_ret; exact ⟨rfl, rfl⟩
theorem doneO {w : World} {b o : Nat} {F : List Nat} {q : Os} (h : JAt w b o F q) :
    Calls Tryz.prog 205 #[.pointer (some ⟨b, o, none⟩)] w fun r w' => r = .returned (.bool q.dn) ∧ w = w' := by
  obtain ⟨a, cp, hA, hW, hF⟩ := h.cells; obtain ⟨⟨c0, _⟩, ⟨c1, _⟩⟩ := oat_two hA; have hf := h.fin; obtain ⟨s, dn⟩ := q; simp only at *
  clear h hA hW hF; cases s with
  | nil =>
    simp only [List.length_nil, plO] at c0 c1; cases dn with
    | true =>
      simp only [if_true] at c0; go_enter Tryz.func205, Tryz.ntmps205; go_wp2
      all_goals go_ret
      all_goals exact ⟨rfl, rfl⟩
    | false =>
      simp only [Bool.false_eq_true, if_false] at c0; go_enter Tryz.func205, Tryz.ntmps205; go_wp2
      all_goals go_ret
      all_goals exact ⟨rfl, rfl⟩
  | cons x r =>
    have hdn : dn = false := by
      cases dn with
      | false => rfl
      | true => simp at hf
    subst hdn; simp only [List.length_cons] at c1; generalize plO _ = p at *
    generalize r.length = n at *
    have hz : ((n : Int) + 1 == 0) = false := by rw [beq_eq_false_iff_ne]; omega
    go_enter Tryz.func205, Tryz.ntmps205; go_wp2
    all_goals go_ret
    all_goals exact ⟨rfl, rfl⟩
theorem info_boolr : (Tryz.prog.info? 4).map (fun i => (i.zero, i.size, i.bytes)) = some (some (.bool false), 1, 1) := by kernel_rfl
theorem beginO {w : World} {b o : Nat} {F : List Nat} {q : Os} (h : JAt w b o F q) (_hd : q.dn = false) (hs : q.s.length ≤ 1000) (hk : keyB q.s = false) (m : Bool) (c : Int) :
    Calls Tryz.prog 213 #[.pointer (some ⟨b, o, none⟩), .bool m] w fun r w' => r = .returned (.string ⟨#[if m = true then 123 else 91]⟩) ∧ ∃ F', JAt w' b o F' ⟨⟨m, c, 0⟩ :: incB q.s, false⟩ ∧ Jf b o F F' w w' := by
  obtain ⟨a, cp, hA, hW, hF⟩ := h.cells; obtain ⟨⟨c0, f0⟩, ⟨c1, f1⟩⟩ := oat_two hA; have HH := hid h; have HA := hid hA; have HF := hid hF; obtain ⟨n, hn⟩ : ∃ n, q.s.length = n := ⟨_, rfl⟩
  rw [hn] at c1 hW hs; have Hn := hid hn; have HW := hid hW; have hfin : ∀ (v3 : Value) (w3 : World), Hid (Win w3 4 1 v3 (n + 1) (mapsO q.s ++ [.bool m])) → Hid ((w.alloc (.cells #[.bool m] 4)).grownBy w3 (Value.slice a n cp).ownBlock) →
      Hid (v3.ownBlock = (Value.slice a n cp).ownBlock ∨ v3.ownBlock = some (w.heap.size + 1) ∧ w.heap.size + 1 < w3.heap.size) →
      ∃ a3 c3, v3 = .slice a3 (n + 1) c3 ∧ ((∃ u, w3.cell? ⟨b, o, none⟩ = some u ∧ w3.frozen? ⟨b, o, none⟩ = false) ∧ (∃ u, w3.cell? ⟨b, o + 1, none⟩ = some u) ∧ w3.frozen? ⟨b, o + 1, none⟩ = false) ∧
      Hid (∃ F', JAt ((w3.setCell ⟨b, o + 1, none⟩ (.slice a3 (n + 1) c3)).setCell ⟨b, o, none⟩ (.int .i64 0)) b o F' ⟨⟨m, c, 0⟩ :: incB q.s, false⟩ ∧ Jf b o F F' w ((w3.setCell ⟨b, o + 1, none⟩ (.slice a3 (n + 1) c3)).setCell ⟨b, o, none⟩ (.int .i64 0))) := by
    intro v3 w3 hW3 hG3 hO3; obtain ⟨a3, c3, rfl, _, _⟩ := Win.slice_form hW3.out; obtain ⟨cs, t, fr, hc, ht⟩ := HH.out.blk; have hbl := HH.out.lt; have hap : b ∉ Value.owner (.slice a n cp) := HW.out.apart hc (fun e => ht e.symm); have hblk : w3.heap[b]? = w.heap[b]? := (hG3.out.block b (by simp; omega) (fun e => hap ((ob_iff _ _).1 e.symm))).trans (Below.heap_alloc w _ b hbl); have A3 := HA.out.keep hblk; obtain ⟨⟨p0, g0⟩, ⟨p1, g1⟩⟩ := oat_two A3; have hw3 : w3.heap[b]? = some (.cells cs t fr) := hblk.trans hc; have hap3 : b ∉ Value.owner (.slice a3 (n + 1) c3) := hW3.out.apart hw3 (fun e => ht e.symm); refine ⟨a3, c3, rfl, ⟨⟨_, p0, g0⟩, ⟨_, p1⟩, g1⟩, hid ⟨Value.owner (.slice a3 (n + 1) c3), ?_, ?_⟩⟩
    · have hset := (A3.set 1 (by simp) (.slice a3 (n + 1) c3)).set 0 (by simp) (.int .i64 0)
      have hl : ((⟨m, c, 0⟩ : Bx) :: incB q.s).length = n + 1 := by rw [← Hn.out, List.length_cons]; cases q.s <;> rfl
      refine ⟨⟨a3, c3, ?_, ?_, ?_⟩, ⟨_, t, fr, heap_setCell_at _ ⟨b, o, none⟩ _ _ _ _ rfl (heap_setCell_at w3 ⟨b, o + 1, none⟩ _ _ _ _ rfl hw3), ht⟩, fun e => (by cases e), HH.out.wf.open_ hk m c⟩
      · simp only [hl]
        have hpl : plO ⟨⟨m, c, 0⟩ :: incB q.s, false⟩ = 0 := by simp [plO]
        rw [hpl]; simpa using hset
      · simp only [hl]
        rw [mapsO_cons, mapsO_incB]; exact (hW3.out.setCell_far hap3 _).setCell_far hap3 _
      · simp only [hl]
    · have hstep : Step (b :: F) (b :: Value.owner (.slice a3 (n + 1) c3)) w w3 := by
        refine ⟨hG3.out.os, hG3.out.tape, hG3.out.output, Nat.le_trans (by simp) hG3.out.size, fun k hk hkF => ?_, fun k hk => ?_⟩
        · refine (hG3.out.block k (by simp; omega) (fun e => hkF ?_)).trans (Below.heap_alloc w _ k hk)
          refine List.mem_cons_of_mem _ ?_; rw [← HF.out, Hn.out]; exact (ob_iff _ _).1 e.symm
        · rcases List.mem_cons.1 hk with rfl | hk
          · exact .inl (by simp)
          · rcases hO3.out with e | ⟨e, _⟩
            · left
              refine List.mem_cons_of_mem _ ?_; rw [← HF.out, Hn.out]; exact (ob_iff _ _).1 (e ▸ (ob_iff _ _).2 hk)
            · right
              have := (ob_iff _ _).2 hk; rw [e] at this; cases this; omega
      have hj : Jf b o F (Value.owner (.slice a3 (n + 1) c3)) w w3 := ⟨hstep, fun c1 t1 fr1 h1 => ⟨c1, hblk.trans h1, rfl⟩, fun k _ => World.cell?_of_block (w := w) hblk⟩
      exact (hj.set (o + 1) _ (by omega)).set o _ (by omega)
  have FIN := hid hfin; clear h hA hF hn hfin hW hk; cases m with
  | false =>
    go_enter Tryz.func213, Tryz.ntmps213
    go_wp2_with (at_builtin; refine wpList_append_win rfl _ _ _ rfl Tryz.underlying93 info_boolr rfl rfl (HW.out.alloc _) _ rfl 1 [.bool false] (src_one _ Tryz.underlying93 _ _ _ rfl rfl) ?e1 ?e2 ?_)
    case e1 => unfold maxLen; omega
    case e2 => omega
    intro v3 w3 hW3 hG3 hO3; obtain ⟨a3, c3, rfl, ⟨⟨u0, p0, g0⟩, ⟨u1, p1⟩, g1⟩, HFI⟩ := FIN.out v3 w3 hW3 hG3 (hid (by simpa using hO3.out)); clear hW3 hG3 hO3; go_wp2; go_ret; exact ⟨rfl, HFI.out⟩
  | true =>
    go_enter Tryz.func213, Tryz.ntmps213
    go_wp2_with (at_builtin; refine wpList_append_win rfl _ _ _ rfl Tryz.underlying93 info_boolr rfl rfl (HW.out.alloc _) _ rfl 1 [.bool true] (src_one _ Tryz.underlying93 _ _ _ rfl rfl) ?e1 ?e2 ?_)
    case e1 => unfold maxLen; omega
    case e2 => omega
    intro v3 w3 hW3 hG3 hO3; obtain ⟨a3, c3, rfl, ⟨⟨u0, p0, g0⟩, ⟨u1, p1⟩, g1⟩, HFI⟩ := FIN.out v3 w3 hW3 hG3 (hid (by simpa using hO3.out)); clear hW3 hG3 hO3; go_wp2; go_ret; exact ⟨rfl, HFI.out⟩
theorem pl_end {x : Bx} {r : List Bx} (h : WfO (x :: r)) : plO ⟨r, r.isEmpty⟩ = 2 := by
  cases r with
  | nil => rfl
  | cons y r =>
    obtain ⟨h1, h2⟩ := h y (by simp); simp only [plO]; rw [if_neg h2, if_neg h1]
theorem end_at {w : World} {b o : Nat} {F : List Nat} {x : Bx} {r : List Bx} {a' : Option Addr} {c' : Nat} (h : JAt w b o F ⟨x :: r, false⟩) (hW : Win w 4 1 (.slice a' r.length c') r.length (mapsO r)) (hO : Value.owner (.slice a' r.length c') = F) :
    JAt ((w.setCell ⟨b, o + 1, none⟩ (.slice a' r.length c')).setCell ⟨b, o, none⟩ (.int .i64 2)) b o F ⟨r, r.isEmpty⟩ ∧ Jf b o F F w ((w.setCell ⟨b, o + 1, none⟩ (.slice a' r.length c')).setCell ⟨b, o, none⟩ (.int .i64 2)) := by
  obtain ⟨a, cp, hA, _, _⟩ := h.cells; obtain ⟨cs, t, fr, hc, ht⟩ := h.blk; have hap : b ∉ Value.owner (.slice a' r.length c') := hW.apart hc (fun e => ht e.symm); have hset := (hA.set 1 (by simp) (.slice a' r.length c')).set 0 (by simp) (.int .i64 2); refine ⟨⟨⟨a', c', ?_, (hW.setCell_far hap _).setCell_far hap _, hO⟩, ⟨_, t, fr, heap_setCell_at _ ⟨b, o, none⟩ _ _ _ _ rfl (heap_setCell_at w ⟨b, o + 1, none⟩ _ _ _ _ rfl hc), ht⟩, fun e => ?_, h.wf.tail⟩, ((Jf.refl b o F w).set (o + 1) _ (by omega)).set o _ (by omega)⟩
  · have hp := pl_end h.wf
    simp only at hp ⊢; rw [hp]; simpa using hset
  · simpa using e
theorem endO {w : World} {b o : Nat} {F : List Nat} {x : Bx} {r : List Bx} (h : JAt w b o F ⟨x :: r, false⟩) (hs : r.length ≤ 999) :
    Calls Tryz.prog 211 #[.pointer (some ⟨b, o, none⟩)] w fun q w' => q = .returned (.string ⟨#[if x.map = true then 125 else 93]⟩) ∧ JAt w' b o F ⟨r, r.isEmpty⟩ ∧ Jf b o F F w w' := by
  have HM := hid (in_mapO h (by simpa using hs)); simp only [topM] at HM; have HJ := hid h; have hfin : ∃ a cp, (w.drew.cell? ⟨b, o + 1, none⟩ = some (.slice a (r.length + 1) cp) ∧ w.drew.frozen? ⟨b, o + 1, none⟩ = false ∧ (∃ u, w.drew.cell? ⟨b, o, none⟩ = some u) ∧ w.drew.frozen? ⟨b, o, none⟩ = false) ∧
      ∃ a' c', (∀ W, (Instr.slice 93 (.slice a (r.length + 1) cp) none (some (.int .i64 (r.length : Int))) none).run Tryz.prog W = .ok (.slice a' r.length c') W) ∧
        ∀ W, W = ((w.setCell ⟨b, o + 1, none⟩ (.slice a' r.length c')).setCell ⟨b, o, none⟩ (.int .i64 2)).drew → JAt W b o F ⟨r, r.isEmpty⟩ ∧ Jf b o F F w W := by
    obtain ⟨a, cp, hA, hW, hF⟩ := h.cells; obtain ⟨⟨c0, f0⟩, ⟨c1, f1⟩⟩ := oat_two hA; obtain ⟨v', hsl, hw', ho'⟩ := hW.hi (P := Tryz.prog) (t := 93) Tryz.underlying93 (fun w => by kernel_rfl) r.length (by simp); simp only at hw' hsl; rw [Nat.mul_one, mapsO_cons, ← mapsO_length, List.take_left, mapsO_length] at hw'; obtain ⟨a', c', rfl, _, _⟩ := hw'.slice_form; refine ⟨a, cp, ⟨c1, f1, ⟨_, c0⟩, f0⟩, a', c', hsl, fun W e => ?_⟩; subst e; have hk := end_at h hw' (ho'.trans hF); exact ⟨hk.1.drewN 1, hk.2.drewN 1⟩
  have HFI := hid hfin; obtain ⟨xm, xc, xh⟩ := x; simp only at *
  have hl : IntKind.i64.wrap (r.length : Int) = (r.length : Int) := by simp only [IntKind.wrap_i64]; omega
  generalize r.length = n' at *
  clear h hfin; cases xm with
  | false =>
    go_enter Tryz.func211, Tryz.ntmps211; (go_wp2_with fail); refine HM.out.mono ?_; rintro e w1 ⟨rfl, rfl⟩; obtain ⟨a, cp, ⟨x1, x2, ⟨u, x3⟩, x4⟩, a', c', hsl, hE⟩ := HFI.out; have y1 : w.cell? ⟨b, o + 1, none⟩ = some (.slice a (n' + 1) cp) := x1; have y2 : w.frozen? ⟨b, o + 1, none⟩ = false := x2; have y3 : w.cell? ⟨b, o, none⟩ = some u := x3; have y4 : w.frozen? ⟨b, o, none⟩ = false := x4; have HE := hid hE; clear hE; (go_wp2_with fail); refine wp_region_tail 12 (by kernel_rfl) (by kernel_rfl) ?_; simp only [List.take_succ_cons, List.take_zero, List.drop_succ_cons, List.drop_zero]
    repeat still_step
    refine wpStill_nil ?_; go_wp2; go_ret; exact ⟨rfl, HE.out _ rfl⟩
  | true =>
    go_enter Tryz.func211, Tryz.ntmps211; (go_wp2_with fail); refine HM.out.mono ?_; rintro e w1 ⟨rfl, rfl⟩; obtain ⟨a, cp, ⟨x1, x2, ⟨u, x3⟩, x4⟩, a', c', hsl, hE⟩ := HFI.out; have y1 : w.cell? ⟨b, o + 1, none⟩ = some (.slice a (n' + 1) cp) := x1; have y2 : w.frozen? ⟨b, o + 1, none⟩ = false := x2; have y3 : w.cell? ⟨b, o, none⟩ = some u := x3; have y4 : w.frozen? ⟨b, o, none⟩ = false := x4; have HE := hid hE; clear hE; (go_wp2_with fail); refine wp_region_tail 12 (by kernel_rfl) (by kernel_rfl) ?_; simp only [List.take_succ_cons, List.take_zero, List.drop_succ_cons, List.drop_zero]
    repeat still_step
    refine wpStill_nil ?_; go_wp2; go_ret; exact ⟨rfl, HE.out _ rfl⟩
end
section
open Go.RowKit
open Go.Lib
theorem plain_begin (b : Bool) (c : Int) (w : World) : Calls Tryz.prog 63 #[.agg #[.bool b, .int .i64 c]] w fun r w' => r = .returned (.tuple #[if -1 ≤ c then evV ⟨if b then 6 else 5, false, 0, ⟨#[]⟩, c⟩ else evV evZ, .bool (decide (-1 ≤ c))]) ∧ Below w.heap.size w w' := by
  by_cases h : -1 ≤ c
  · have h1 : (-1 ≤ c) = True := by simp [h]
    cases b
    all_goals
      go_enter Tryz.func63, Tryz.ntmps63; go_wp2
      all_goals simp [bodyPost, results, Tryz.results63, go_sem, evV]
      all_goals exact ((Below.refl _ _).alloc (Nat.le_refl _) _).alloc (by simp) _
  · have h1 : (-1 ≤ c) = False := by simp; omega
    go_enter Tryz.func63, Tryz.ntmps63; go_wp2
    all_goals simp [bodyPost, results, Tryz.results63, go_sem, evV, evZ]
    all_goals exact ((Below.refl _ _).alloc (Nat.le_refl _) _).alloc (by simp) _
theorem plain_in_begin (b : Bool) (c : Int) (w : World) : Calls Tryz.prog 60 #[.iface 163 (.agg #[.bool b, .int .i64 c])] w fun r w' => r = .returned (.tuple #[if -1 ≤ c then evV ⟨if b then 6 else 5, false, 0, ⟨#[]⟩, c⟩ else evV evZ, .bool (decide (-1 ≤ c))]) ∧ Below w.heap.size w w' := by
  have n0 := nil_not; have n1 := nil_is; have a1 := is_bool; have a2 := is_whole; have a3 := is_word; have a4 := is_blob; have a5 := is_begin; have a6 := is_close; have b1 := fun d h => not_bool d h
  have b2 := fun d h => not_whole d h
  have b3 := fun d h => not_word d h
  have b4 := fun d h => not_blob d h
  have b5 := fun d h => not_begin d h
  obtain ⟨X, hX⟩ : ∃ X : Ev, X = if -1 ≤ c then ⟨if b then 6 else 5, false, 0, ⟨#[]⟩, c⟩ else evZ := ⟨_, rfl⟩
  have hV : (if -1 ≤ c then evV ⟨if b then 6 else 5, false, 0, ⟨#[]⟩, c⟩ else evV evZ) = evV X := by rw [hX]; split <;> rfl
  have hP : ∀ w, Calls Tryz.prog 63 #[.agg #[.bool b, .int .i64 c]] w fun r w' => r = .returned (.tuple #[evV X, .bool (decide (-1 ≤ c))]) ∧ Below w.heap.size w w' := fun w => by
    have := plain_begin b c w; rw [hV] at this; exact this
  rw [hV]; clear hX hV; generalize decide (-1 ≤ c) = D at *
  obtain ⟨k, y, m, t, c'⟩ := X; have HP := hid hP; clear hP; go_enter Tryz.func60, Tryz.ntmps60; (go_wp2_with fail); refine (HP.out _).mono ?_; rintro e w1 ⟨rfl, hb⟩; obtain ⟨⟨z0, z1, z2, z3, z4⟩, ⟨y0, y1, y2, y3, y4⟩⟩ := ((((blk_new w _ _).alloc _).alloc _).go hb).ev; have h1 := hid hb; clear hb; simp only [evV]; go_wp2; simp [bodyPost, results, Tryz.results60, go_sem, z0, z1, z2, z3, z4]; refine ⟨rfl, up_set5 ?_ _ _ _ _ _⟩; exact up_trans (up_alloc (up_alloc (up_alloc (Below.refl _ _) _) _) _) h1.out
theorem plain_in (e : Ev) (he : mayE e) (w : World) : Calls Tryz.prog 60 #[valE e] w fun r w' => r = .returned (.tuple #[evV (tidyE e), .bool true]) ∧ Below w.heap.size w w' := by
  have n0 := nil_not; have n1 := nil_is; have a1 := is_bool; have a2 := is_whole; have a3 := is_word; have a4 := is_blob; have a5 := is_begin; have a6 := is_close; have b1 := fun d h => not_bool d h
  have b2 := fun d h => not_whole d h
  have b3 := fun d h => not_word d h
  have b4 := fun d h => not_blob d h
  have b5 := fun d h => not_begin d h
  obtain ⟨k, y, m, t, c⟩ := e; have hk : k = 5 ∨ k = 6 ∨ k = 0 ∨ k = 1 ∨ k = 2 ∨ k = 3 ∨ k = 4 ∨ k = 7 := by
    have h1 : 0 ≤ k := he.1; have h2 : k ≤ 7 := he.2.1; omega
  have hc : k = 5 ∨ k = 6 → -1 ≤ c := he.2.2; clear he; rcases hk with rfl | rfl | hk
  · have h := plain_in_begin false c w
    rw [if_pos (hc (by decide)), decide_eq_true (hc (by decide))] at h; exact h
  · have h := plain_in_begin true c w
    rw [if_pos (hc (by decide)), decide_eq_true (hc (by decide))] at h; exact h
  clear hc; rcases hk with rfl | rfl | rfl | rfl | rfl | rfl
  all_goals simp only [valE, tidyE]
  all_goals
    go_enter Tryz.func60, Tryz.ntmps60; go_wp2
  all_goals try simp [bodyPost, results, Tryz.results60, go_sem, evV]
  all_goals repeat (first | exact Below.refl _ _ | assumption | refine up_alloc ?_ _)
theorem plain_by (v : Value) (X : Ev) (D : Bool) (hP : ∀ w, Calls Tryz.prog 60 #[v] w fun r w' => r = .returned (.tuple #[evV X, .bool D]) ∧ Below w.heap.size w w') (w : World) :
    Calls Tryz.prog 56 #[v] w fun r w' => r = .returned (.tuple #[evV X, .bool D]) ∧ Below w.heap.size w w' := by
  obtain ⟨k, y, m, t, c'⟩ := X; have HP := hid hP; clear hP; go_enter Tryz.func56, Tryz.ntmps56; (go_wp2_with fail); refine (HP.out _).mono ?_; rintro e w1 ⟨rfl, hb⟩; obtain ⟨⟨z0, z1, z2, z3, z4⟩, ⟨y0, y1, y2, y3, y4⟩⟩ := ((blk_new w _ _).go hb).ev; have h1 := hid hb; clear hb; simp only [evV]; go_wp2; simp [bodyPost, results, Tryz.results56, go_sem, z0, z1, z2, z3, z4]; refine ⟨rfl, up_set5 ?_ _ _ _ _ _⟩; exact up_trans (up_alloc (Below.refl _ _) _) h1.out
theorem plain_any (e : Ev) (he : mayE e) (w : World) : Calls Tryz.prog 56 #[valE e] w fun r w' => r = .returned (.tuple #[evV (tidyE e), .bool true]) ∧ Below w.heap.size w w' :=
  plain_by _ _ _ (plain_in e he) w
end
section
open Go.RowKit
open Go.Lib
theorem kind8 {e : Ev} (hm : mayE e) : e.k = 0 ∨ e.k = 1 ∨ e.k = 2 ∨ e.k = 3 ∨ e.k = 4 ∨ e.k = 5 ∨ e.k = 6 ∨ e.k = 7 := by
  have h1 := hm.1; have h2 := hm.2.1; omega
theorem as_close (e : Ev) (hm : mayE e) (W : World) : (Instr.typeAssert (valE e) 20 166 true).run Tryz.prog W = .ok (.tuple #[.agg #[], .bool (decide (e.k = 7))]) W := by
  obtain ⟨k, y, m, t, c⟩ := e; rcases kind8 hm with h | h | h | h | h | h | h | h <;> (simp only at h; subst h)
  · kernel_rfl
  · exact not_close _ (by decide) _ _
  · exact not_close _ (by decide) _ _
  · exact not_close _ (by decide) _ _
  · exact not_close _ (by decide) _ _
  · exact not_close _ (by decide) _ _
  · exact not_close _ (by decide) _ _
  · exact is_close _ _
theorem as_word (e : Ev) (hm : mayE e) (W : World) : (Instr.typeAssert (valE e) 20 176 true).run Tryz.prog W = .ok (.tuple #[.string (if e.k = 3 then e.t else ⟨#[]⟩), .bool (decide (e.k = 3))]) W := by
  obtain ⟨k, y, m, t, c⟩ := e; rcases kind8 hm with h | h | h | h | h | h | h | h <;> (simp only at h; subst h)
  · kernel_rfl
  · exact not_word _ (by decide) _ _
  · exact not_word _ (by decide) _ _
  · exact is_word _ _
  · exact not_word _ (by decide) _ _
  · exact not_word _ (by decide) _ _
  · exact not_word _ (by decide) _ _
  · exact not_word _ (by decide) _ _
theorem as_begin (e : Ev) (hm : mayE e) (W : World) : (Instr.typeAssert (valE e) 20 163 true).run Tryz.prog W = .ok (.tuple #[.agg #[.bool (decide (e.k = 6)), .int .i64 (if e.k = 5 ∨ e.k = 6 then e.c else 0)], .bool (decide (e.k = 5 ∨ e.k = 6))]) W := by
  obtain ⟨k, y, m, t, c⟩ := e; rcases kind8 hm with h | h | h | h | h | h | h | h <;> (simp only at h; subst h)
  · kernel_rfl
  · exact not_begin _ (by decide) _ _
  · exact not_begin _ (by decide) _ _
  · exact not_begin _ (by decide) _ _
  · exact not_begin _ (by decide) _ _
  · exact is_begin _ _
  · exact is_begin _ _
  · exact not_begin _ (by decide) _ _
end
section
open Go.RowKit
open Go.Lib
theorem ref_endO {w : World} {b o : Nat} {F : List Nat} {q : Os} (h : JAt w b o F q) (n : Nat) (hn : n = if q.s = [] ∨ plO q = 1 then 14 else 0) :
    Calls Tryz.prog 209 #[.pointer (some ⟨b, o, none⟩)] w fun r w' => r = .returned (.int .i64 n) ∧ w = w' := by
  obtain ⟨a, cp, hA, hW, hF⟩ := h.cells; obtain ⟨⟨c0, _⟩, ⟨c1, _⟩⟩ := oat_two hA; have hp : plO q = 0 ∨ plO q = 1 ∨ plO q = 2 := by
    unfold plO
    repeat' split
    all_goals simp
  obtain ⟨s, dn⟩ := q; simp only at *
  clear h hA hW hF; cases s with
  | nil =>
    rw [if_pos (.inl rfl)] at hn; subst hn; simp only [List.length_nil] at c1; generalize plO _ = p at *
    go_enter Tryz.func209, Tryz.ntmps209; go_wp2; go_ret; exact ⟨rfl, rfl⟩
  | cons x r =>
    simp only [List.length_cons] at c1; have hn1 : plO ⟨x :: r, dn⟩ = 1 → n = 14 := fun e => by rw [hn, if_pos (.inr e)]
    have hn0 : plO ⟨x :: r, dn⟩ ≠ 1 → n = 0 := fun e => by rw [hn, if_neg (fun h => h.elim (fun h => by cases h) e)]
    clear hn; generalize plO _ = p at *
    generalize r.length = n' at *
    have hz : ((n' : Int) + 1 == 0) = false := by rw [beq_eq_false_iff_ne]; omega
    rcases hp with rfl | rfl | rfl
    · obtain rfl : n = 0 := hn0 (by omega)
      clear hn0 hn1; go_enter Tryz.func209, Tryz.ntmps209; go_wp2; go_ret; exact ⟨rfl, rfl⟩
    · obtain rfl : n = 14 := hn1 rfl
      clear hn0 hn1; go_enter Tryz.func209, Tryz.ntmps209; go_wp2; go_ret; exact ⟨rfl, rfl⟩
    · obtain rfl : n = 0 := hn0 (by omega)
      clear hn0 hn1; go_enter Tryz.func209, Tryz.ntmps209; go_wp2; go_ret; exact ⟨rfl, rfl⟩
theorem refuses_gen {w : World} {b o : Nat} {F : List Nat} {q : Os} (h : JAt w b o F q) (hs : q.s.length ≤ 1000) (v : Value) (X : Ev) (hP : ∀ W, Calls Tryz.prog 56 #[v] W fun r w' => r = .returned (.tuple #[evV X, .bool true]) ∧ Below W.heap.size W w')
    (isC isW : Bool) (S : ByteArray) (hC : ∀ W, (Instr.typeAssert v 20 166 true).run Tryz.prog W = .ok (.tuple #[.agg #[], .bool isC]) W)
    (hW : ∀ W, (Instr.typeAssert v 20 176 true).run Tryz.prog W = .ok (.tuple #[.string S, .bool isW]) W) (n : Nat)
    (hn : n = if q.dn = true then 14 else if isC = true then (if q.s = [] ∨ plO q = 1 then 14 else 0) else if isW = true then 0 else if keyB q.s = true then 8 else 0) :
    Calls Tryz.prog 207 #[.pointer (some ⟨b, o, none⟩), v] w fun r w' => r = .returned (.int .i64 n) ∧ Below w.heap.size w w' := by
  have HP := hid hP; have HJ := hid h; have HC := hid hC; have HW := hid hW; obtain ⟨k, y, m, t, c⟩ := X; simp only [evV] at HP; have HJ' : Hid (∀ w', Below w.heap.size w w' → JAt w' b o F q) := hid (fun w' k => h.go k); obtain ⟨D, hD⟩ : ∃ D, q.dn = D := ⟨_, rfl⟩
  obtain ⟨K, hK⟩ : ∃ K, keyB q.s = K := ⟨_, rfl⟩
  rw [hD, hK] at hn; have HD : Hid (∀ w', Below w.heap.size w w' → Calls Tryz.prog 205 #[.pointer (some ⟨b, o, none⟩)] w' fun r w2 => r = .returned (.bool D) ∧ w' = w2) := hid (fun w' k => hD ▸ doneO (h.go k)); have HA : Hid (∀ w', Below w.heap.size w w' → Calls Tryz.prog 210 #[.pointer (some ⟨b, o, none⟩)] w' fun r w2 => r = .returned (.bool K) ∧ w' = w2) := hid (fun w' k => hK ▸ at_keyO (h.go k) hs); obtain ⟨n2, hn2⟩ : ∃ n2 : Nat, n2 = if q.s = [] ∨ plO q = 1 then 14 else 0 := ⟨_, rfl⟩
  rw [← hn2] at hn; have HE : Hid (∀ w', Below w.heap.size w w' → Calls Tryz.prog 209 #[.pointer (some ⟨b, o, none⟩)] w' fun r w2 => r = .returned (.int .i64 n2) ∧ w' = w2) := hid (fun w' k => ref_endO (h.go k) n2 hn2); clear hP h hC hW hD hK hn2 HJ HJ'; cases D with
  | true =>
    obtain rfl : n = 14 := by rw [hn, if_pos rfl]
    clear hn; go_enter Tryz.func207, Tryz.ntmps207; (go_wp2_with fail); refine (HP.out _).mono ?_; rintro r w1 ⟨rfl, b1⟩; have B1 := hid (up_alloc b1 (.cells #[.int .i64 k, .bool y, .int .u64 m, .string t, .int .i64 c] 43)); clear b1; (go_wp2_with fail); refine (HD.out _ B1.out).mono ?_; rintro r w2 ⟨rfl, rfl⟩; go_wp2; go_ret; exact ⟨rfl, B1.out⟩
  | false =>
    rw [if_neg (by simp)] at hn; cases isC with
    | true =>
      rw [if_pos rfl] at hn; subst hn; have hC := HC.out; go_enter Tryz.func207, Tryz.ntmps207; (go_wp2_with fail); refine (HP.out _).mono ?_; rintro r w1 ⟨rfl, b1⟩; have B1 := hid (up_alloc b1 (.cells #[.int .i64 k, .bool y, .int .u64 m, .string t, .int .i64 c] 43)); clear b1; (go_wp2_with fail); refine (HD.out _ B1.out).mono ?_; rintro r w2 ⟨rfl, rfl⟩; (go_wp2_with fail); refine (HE.out _ (up_alloc B1.out _)).mono ?_; rintro r w3 ⟨rfl, rfl⟩; go_wp2; go_ret; exact ⟨rfl, up_alloc B1.out _⟩
    | false =>
      rw [if_neg (by simp)] at hn; have hC := HC.out; have hW := HW.out; cases isW with
      | true =>
        rw [if_pos rfl] at hn; subst hn; go_enter Tryz.func207, Tryz.ntmps207; (go_wp2_with fail); refine (HP.out _).mono ?_; rintro r w1 ⟨rfl, b1⟩; have B1 := hid (up_alloc b1 (.cells #[.int .i64 k, .bool y, .int .u64 m, .string t, .int .i64 c] 43)); clear b1; (go_wp2_with fail); refine (HD.out _ B1.out).mono ?_; rintro r w2 ⟨rfl, rfl⟩; go_wp2; go_ret; exact ⟨rfl, up_alloc B1.out _⟩
      | false =>
        rw [if_neg (by simp)] at hn; have fin : ∀ n' : Nat, n = n' → (K = true → n' = 8) → (K = false → n' = 0) → Calls Tryz.prog 207 #[.pointer (some ⟨b, o, none⟩), v] w fun r w' => r = .returned (.int .i64 n') ∧ Below w.heap.size w w' := by
          intro n' _ h1 h2; cases K with
          | true =>
            obtain rfl := h1 rfl; clear h1 h2; go_enter Tryz.func207, Tryz.ntmps207; (go_wp2_with fail); refine (HP.out _).mono ?_; rintro r w1 ⟨rfl, b1⟩; have B1 := hid (up_alloc b1 (.cells #[.int .i64 k, .bool y, .int .u64 m, .string t, .int .i64 c] 43)); clear b1; (go_wp2_with fail); refine (HD.out _ B1.out).mono ?_; rintro r w2 ⟨rfl, rfl⟩; (go_wp2_with fail); refine (HA.out _ (up_alloc B1.out _)).mono ?_; rintro r w3 ⟨rfl, rfl⟩; go_wp2; go_ret; exact ⟨rfl, up_alloc B1.out _⟩
          | false =>
            obtain rfl := h2 rfl; clear h1 h2; go_enter Tryz.func207, Tryz.ntmps207; (go_wp2_with fail); refine (HP.out _).mono ?_; rintro r w1 ⟨rfl, b1⟩; have B1 := hid (up_alloc b1 (.cells #[.int .i64 k, .bool y, .int .u64 m, .string t, .int .i64 c] 43)); clear b1; (go_wp2_with fail); refine (HD.out _ B1.out).mono ?_; rintro r w2 ⟨rfl, rfl⟩; (go_wp2_with fail); refine (HA.out _ (up_alloc B1.out _)).mono ?_; rintro r w3 ⟨rfl, rfl⟩; go_wp2; go_ret; exact ⟨rfl, up_alloc B1.out _⟩
        exact fin n rfl (fun e => by rw [hn, if_pos e]) (fun e => by rw [hn, if_neg (by simp [e])])
theorem step_err_val {q : Os} {e : Ev} (hm : mayE e) (hf : q.dn = true → q.s = []) :
    (stepO q e).1.2 = if q.dn = true then 14 else if decide (e.k = 7) = true then (if q.s = [] ∨ plO q = 1 then 14 else 0) else if decide (e.k = 3) = true then 0 else if keyB q.s = true then 8 else 0 := by
  obtain ⟨s, dn⟩ := q; cases dn with
  | true => rw [stepO_bad ⟨s, true⟩ e (.inr rfl), if_pos rfl]
  | false =>
    rw [if_neg (by simp)]; by_cases h7 : e.k = 7
    · rw [if_pos (decide_eq_true h7)]
      cases s with
      | nil => rw [stepO_none hm h7, if_pos (.inl rfl)]
      | cons x r =>
        by_cases ho : x.map = true ∧ x.have_ % 2 = 1
        · have hp : plO ⟨x :: r, false⟩ = 1 := by
            unfold plO; simp only; rw [if_pos ho]
          rw [stepO_odd hm h7 ho, if_pos (.inr hp)]
        · have hp : plO ⟨x :: r, false⟩ ≠ 1 := by
            unfold plO; simp only; rw [if_neg ho]; split <;> omega
          rw [stepO_end hm h7 ho]; exact (if_neg (fun h => h.elim (fun h => by cases h) hp)).symm
    · rw [if_neg (by simpa using h7)]
      by_cases hk : keyB s = true ∧ e.k ≠ 3
      · rw [stepO_key hm h7 hk.1 hk.2, if_neg (by simpa using hk.2), if_pos hk.1]
      · have hz : (if decide (e.k = 3) = true then 0 else if keyB s = true then 8 else 0) = 0 := by
          by_cases h3 : e.k = 3
          · rw [if_pos (decide_eq_true h3)]
          · rw [if_neg (by simpa using h3), if_neg (fun h => hk ⟨h, h3⟩)]
        rw [hz]; by_cases h56 : e.k = 5 ∨ e.k = 6
        · have hkf : keyB s = false := by
            cases hq : keyB s with
            | false => rfl
            | true => exact absurd ⟨hq, by omega⟩ hk
          rw [stepO_open hm h56 hkf]
        · rw [stepO_val hm h7 h56 hk]
theorem refusesO {w : World} {b o : Nat} {F : List Nat} {q : Os} (h : JAt w b o F q) (hs : q.s.length ≤ 1000) (e : Ev) (hm : mayE e) :
    Calls Tryz.prog 207 #[.pointer (some ⟨b, o, none⟩), valE e] w fun r w' => r = .returned (.int .i64 ((stepO q e).1.2 : Nat)) ∧ Below w.heap.size w w' :=
  refuses_gen h hs (valE e) (tidyE e) (plain_any e hm) _ _ _ (as_close e hm) (as_word e hm) _ (step_err_val hm h.fin)
end
section
open Go.Shelf
def lays134_ren : Go.Shelf.Ren := ⟨fun | 134 => 229 | 129 => 235 | n => n, fun | 53 => 41 | 3 => 3 | 4 => 4 | 46 => 85 | 5 => 5 | 9 => 9 | n => n, fun | n => n⟩
theorem lays134 : Go.Proofs.Lays.n134 Tryz.prog lays134_ren := {
  mixed := by kernel_rfl
  f129 := Tryz.func235.trans (congrArg some (by kernel_rfl))
  f134 := Tryz.func229.trans (congrArg some (by kernel_rfl))
  t3 := Tryz.underlying3
  a3 := Tryz.isAgg3
  z3 := Tryz.sizeOf3
  v3 := Tryz.zeroValue3
  t4 := Tryz.underlying4
  a4 := Tryz.isAgg4
  z4 := Tryz.sizeOf4
  v4 := Tryz.zeroValue4
  t5 := Tryz.underlying5
  a5 := Tryz.isAgg5
  z5 := Tryz.sizeOf5
  v5 := Tryz.zeroValue5
  t9 := Tryz.underlying9
  a9 := Tryz.isAgg9
  z9 := Tryz.sizeOf9
  v9 := Tryz.zeroValue9
  t46 := Tryz.underlying85
  a46 := Tryz.isAgg85
  z46 := Tryz.sizeOf85
  v46 := Tryz.zeroValue85
  t53 := Tryz.underlying41
  a53 := Tryz.isAgg41
  z53 := Tryz.sizeOf41
  v53 := Tryz.zeroValue41 }
theorem bits_LeadingZeros64 (x : Int) (w : World) (h0 : 0 ≤ x) (h1 : x ≤ 18446744073709551615) :
    Calls Tryz.prog 229 #[.int .u64 x] w fun e w' => e = .returned (.int .i64 (64 - (Lib.bitLen x.toNat : Int))) ∧ w' = w := Any.bits_LeadingZeros64 lays134 x w h0 h1
def lays283_ren : Go.Shelf.Ren := ⟨fun | 283 => 231 | n => n, fun | 3 => 3 | 9 => 9 | 4 => 4 | n => n, fun | n => n⟩
theorem lays283 : Go.Proofs.Lays.n283 Tryz.prog lays283_ren := {
  mixed := by kernel_rfl
  f283 := Tryz.func231.trans (congrArg some (by kernel_rfl))
  t3 := Tryz.underlying3
  a3 := Tryz.isAgg3
  z3 := Tryz.sizeOf3
  v3 := Tryz.zeroValue3
  t4 := Tryz.underlying4
  a4 := Tryz.isAgg4
  z4 := Tryz.sizeOf4
  v4 := Tryz.zeroValue4
  t9 := Tryz.underlying9
  a9 := Tryz.isAgg9
  z9 := Tryz.sizeOf9
  v9 := Tryz.zeroValue9 }
open Go.Lib in
theorem internal_strconv_small (i : Nat) (h : i < 100) (w : World) :
    Calls Tryz.prog 231 #[.int .i64 i] w fun e w' => e = .returned (.string ⟨(Lib.decDigits i).toArray⟩) ∧ w' = w := Any.internal_strconv_small lays283 i h w
def laysM284_ren : Go.Shelf.Ren := ⟨fun | 284 => 232 | 129 => 235 | 317 => 237 | 318 => 238 | n => n, fun | 53 => 41 | 3 => 3 | 212 => 272 | 0 => 0 | 4 => 4 | 46 => 85 | 5 => 5 | 9 => 9 | n => n, fun | 17 => 2 | n => n⟩
theorem laysM284 : Go.Proofs.LaysM.n284 Tryz.prog laysM284_ren := {
  mixed := by kernel_rfl
  f129 := Tryz.func235.trans (congrArg some (by kernel_rfl))
  f284 := Tryz.func232.trans (congrArg some (by kernel_rfl))
  f317 := Tryz.func237.trans (congrArg some (by kernel_rfl))
  f318 := Tryz.func238.trans (congrArg some (by kernel_rfl))
  t0 := Tryz.underlying0
  a0 := Tryz.isAgg0
  z0 := Tryz.sizeOf0
  v0 := Tryz.zeroValue0
  t3 := Tryz.underlying3
  a3 := Tryz.isAgg3
  z3 := Tryz.sizeOf3
  v3 := Tryz.zeroValue3
  t4 := Tryz.underlying4
  a4 := Tryz.isAgg4
  z4 := Tryz.sizeOf4
  v4 := Tryz.zeroValue4
  t5 := Tryz.underlying5
  a5 := Tryz.isAgg5
  z5 := Tryz.sizeOf5
  v5 := Tryz.zeroValue5
  t9 := Tryz.underlying9
  a9 := Tryz.isAgg9
  z9 := Tryz.sizeOf9
  v9 := Tryz.zeroValue9
  t46 := Tryz.underlying85
  a46 := Tryz.isAgg85
  z46 := Tryz.sizeOf85
  v46 := Tryz.zeroValue85
  t53 := Tryz.underlying41
  a53 := Tryz.isAgg41
  z53 := Tryz.sizeOf41
  v53 := Tryz.zeroValue41
  t212 := Tryz.underlying272
  a212 := Tryz.isAgg272
  z212 := Tryz.sizeOf272
  v212 := Tryz.zeroValue272
  g17 := by kernel_rfl
  i0 := by kernel_rfl
  i3 := by kernel_rfl
  i4 := by kernel_rfl
  i5 := by kernel_rfl
  i9 := by kernel_rfl
  i46 := by kernel_rfl
  i53 := by kernel_rfl
  i212 := by kernel_rfl
  m17 := by kernel_rfl }
end
section
open Go.Lib
theorem nDigits_mono : ∀ b a : Nat, b ≤ a → nDigits b ≤ nDigits a := by
  intro b
  induction b using Nat.strongRecOn with
  | _ b ih =>
    intro a h; by_cases hb : b < 10
    · rw [nDigits_small hb]; exact nDigits_pos a
    · rw [nDigits_big hb, nDigits_big (show ¬ a < 10 by omega)]
      have := ih (b / 10) (by omega) (a / 10) (by omega); omega
theorem nDigits_le (u : Nat) (h : u < 100000000000000000000) : nDigits u ≤ 20 := by
  have : nDigits u ≤ nDigits 99999999999999999999 := nDigits_mono _ _ (by omega); rw [show nDigits 99999999999999999999 = 20 from nDigits_unique 19 _ (by decide) (by decide)] at this; exact this
theorem print_len (w : Bool × Nat) (h : w.2 < 18446744073709551616) : (printD w).length ≤ 21 := by
  obtain ⟨m, v⟩ := w; unfold printD; have h : v < 18446744073709551616 := h; cases m with
  | true =>
    simp only [if_true, List.length_cons, decDigits_length]; have := nDigits_le (v + 1) (by omega); omega
  | false =>
    simp only [Bool.false_eq_true, if_false, decDigits_length]; have := nDigits_le v (by omega); omega
end
section
open Go.RowKit Go.Sort
open Go.Lib
def Tab (w : World) : Prop := Lib.TabIs Tryz.prog w "internal/strconv.uint64pow10" .u64 Lib.pow10Tab
theorem holds_zero0 (w : World) (T : TypeId) (nd : Nat) (hs : nd ≤ 24) : Holds (fun (b : UInt8) => Value.int .u8 (b.toNat : Int)) (w.alloc (.cells Lib.zeros24 T)) w.heap.size 0 (Array.replicate nd (0 : UInt8)) := fun j hj => by
  have hj' : j < nd := by simpa using hj
  refine ⟨?_, World.frozen?_alloc_new _ _ _ _⟩; rw [World.cell?_alloc_new, Lib.zeros24_at _ (by omega), getElem!_pos _ j hj]; simp
theorem below_grow (w : World) (os : Array Obj) (k : Nat) : Below w.heap.size w ((grow w os).drewN k) :=
  ⟨rfl, rfl, rfl, by simp [grow], fun i hi => by
    show (w.heap ++ os)[i]? = w.heap[i]?; rw [Array.getElem?_append_left hi]⟩
theorem below_putRow (w : World) (o : Obj) (dk : Array UInt8) (k : Nat) : Below w.heap.size w ((putRow (fun (b : UInt8) => Value.int .u8 (b.toNat : Int)) (w.alloc o) w.heap.size 0 dk).drewN k) := by
  rw [alloc_eq_grow]; obtain ⟨os', _, e⟩ := putRow_grow_new (fun (b : UInt8) => Value.int .u8 (b.toNat : Int)) w #[o] w.heap.size 0 dk (Nat.le_refl _); rw [e]; exact below_grow w os' k
end
section
open Go.RowKit
open Go.Lib
theorem div_small (u : Nat) (hu : u < 18446744073709551616) (w : World) :
    Calls Tryz.prog 223 #[.int .u64 0, .int .u64 u, .int .u64 10] w fun e w' => e = .returned (.tuple #[.int .u64 ((u / 10 : Nat) : Int), .int .u64 ((u % 10 : Nat) : Int)]) ∧ ∃ q, w' = w.drewN q := by
  go_enter Tryz.func223, Tryz.ntmps223; go_wp2
  go_quiet (fail)
  go_wp2; go_ret2; exact ⟨by simp, _, rfl⟩
theorem lz10 (w : World) : Calls Tryz.prog 229 #[.int .u64 10] w fun e w' => e = .returned (.int .i64 60) ∧ w' = w := by
  have h := bits_LeadingZeros64 10 w (by omega) (by omega); rw [show (64 - (Lib.bitLen (10 : Int).toNat : Int)) = 60 by decide] at h; exact h
theorem div_big (w : World) :
    Calls Tryz.prog 223 #[.int .u64 1, .int .u64 0, .int .u64 10] w fun e w' => e = .returned (.tuple #[.int .u64 1844674407370955161, .int .u64 6]) ∧ w' = w := by
  have b1 : bits .and .u64 11529215046068469760 4294967295 = 0 := by decide
  have b2 : bits .or .u64 1152921504606846976 0 = 1152921504606846976 := by decide
  have b3 : bits .and .u64 0 4294967295 = 0 := by decide
  go_enter Tryz.func223, Tryz.ntmps223
  go_wp2_with (go_at_call 229; refine (lz10 _).mono ?_; rintro e w' ⟨rfl, rfl⟩)
  refine wp_loop_once ?_; go_wp2; refine wp_loop_once ?_; go_wp2; go_ret2; exact ⟨rfl, rfl⟩
end
section
open Go.RowKit
open Go.Lib
end
section
open Go.Shelf
open Go.RowKit
def lays169_ren : Go.Shelf.Ren := ⟨fun | 169 => 30 | n => n,
  fun | 0 => 0 | 3 => 3 | 5 => 5 | 9 => 9 | 37 => 51 | 70 => 70 | 72 => 72 | 127 => 112 | n => n, fun | n => n⟩
theorem lays169 : Go.Proofs.Lays.n169 Tryz.prog lays169_ren := {
  mixed := by kernel_rfl
  f169 := Tryz.func30.trans (congrArg some (by kernel_rfl))
  t0 := Tryz.underlying0
  a0 := Tryz.isAgg0
  z0 := Tryz.sizeOf0
  v0 := Tryz.zeroValue0
  t3 := Tryz.underlying3
  a3 := Tryz.isAgg3
  z3 := Tryz.sizeOf3
  v3 := Tryz.zeroValue3
  t9 := Tryz.underlying9
  a9 := Tryz.isAgg9
  z9 := Tryz.sizeOf9
  v9 := Tryz.zeroValue9
  t37 := Tryz.underlying51
  a37 := Tryz.isAgg51
  z37 := Tryz.sizeOf51
  v37 := Tryz.zeroValue51
  t70 := Tryz.underlying70
  a70 := Tryz.isAgg70
  z70 := Tryz.sizeOf70
  v70 := Tryz.zeroValue70
  t72 := Tryz.underlying72
  a72 := Tryz.isAgg72
  z72 := Tryz.sizeOf72
  v72 := Tryz.zeroValue72
  t127 := Tryz.underlying112
  a127 := Tryz.isAgg112
  z127 := Tryz.sizeOf112
  v127 := Tryz.zeroValue112 }
theorem builder_Extra169 : Builder.Extra Tryz.prog lays169_ren where
  sizeBuilder := by kernel_rfl
  liesBuilder := by kernel_rfl
  t5 := Tryz.underlying5
  a5 := Tryz.isAgg5
  z5 := Tryz.sizeOf5
  v5 := Tryz.zeroValue5
  infoByte := by kernel_rfl
  cellsByte := by kernel_rfl
  sizeByte := by kernel_rfl
  neB5 := by decide
abbrev IsB (B b : Nat) (bs : List UInt8) (w : World) : Prop := Lib.IsBuilderF 72 5 B b (Lib.byteCells bs) w
theorem isB_new (B b : Nat) (w : World) (hB : B ≤ b) (h : w.heap[b]? = some (.cells #[.pointer none, .slice none 0 0] 72 (0, 0))) : IsB B b [] w :=
  .inl ⟨hB, .slice none 0 0, h, World.ownsRowF_nil _ _ _ _, by simp [Value.ownBlock]⟩
theorem sb_string (B b : Nat) (l : List UInt8) (w : World) (h : IsB B b l w) (hBw : B ≤ w.heap.size) :
    Calls Tryz.prog 30 #[.pointer (some ⟨b, 0, none⟩)] w fun e w' => e = .returned (.string ⟨l.toArray⟩) ∧ (IsB B b l w' ∧ Below B w w' ∧ Lib.OthersKept 5 (some b) w w') := Any.Builder_String_any_k lays169 builder_Extra169 B b l w h hBw
end
section
open Go.Shelf
open Go.RowKit
def lays166_ren : Go.Shelf.Ren := ⟨fun | 166 => 29 | 240 => 41 | 276 => 47 | n => n,
  fun | 0 => 0 | 3 => 3 | 4 => 4 | 5 => 5 | 9 => 9 | 20 => 20 | 37 => 51 | 70 => 70 | 72 => 72 | 75 => 74 | 80 => 77 | 164 => 153 | n => n, fun | n => n⟩
theorem lays166 : Go.Proofs.Lays.n166 Tryz.prog lays166_ren := {
  mixed := by kernel_rfl
  f166 := Tryz.func29.trans (congrArg some (by kernel_rfl))
  f240 := Tryz.func41.trans (congrArg some (by kernel_rfl))
  f276 := Tryz.func47.trans (congrArg some (by kernel_rfl))
  t0 := Tryz.underlying0
  a0 := Tryz.isAgg0
  z0 := Tryz.sizeOf0
  v0 := Tryz.zeroValue0
  t3 := Tryz.underlying3
  a3 := Tryz.isAgg3
  z3 := Tryz.sizeOf3
  v3 := Tryz.zeroValue3
  t4 := Tryz.underlying4
  a4 := Tryz.isAgg4
  z4 := Tryz.sizeOf4
  v4 := Tryz.zeroValue4
  t9 := Tryz.underlying9
  a9 := Tryz.isAgg9
  z9 := Tryz.sizeOf9
  v9 := Tryz.zeroValue9
  t20 := Tryz.underlying20
  a20 := Tryz.isAgg20
  z20 := Tryz.sizeOf20
  v20 := Tryz.zeroValue20
  t37 := Tryz.underlying51
  a37 := Tryz.isAgg51
  z37 := Tryz.sizeOf51
  v37 := Tryz.zeroValue51
  t70 := Tryz.underlying70
  a70 := Tryz.isAgg70
  z70 := Tryz.sizeOf70
  v70 := Tryz.zeroValue70
  t72 := Tryz.underlying72
  a72 := Tryz.isAgg72
  z72 := Tryz.sizeOf72
  v72 := Tryz.zeroValue72
  t75 := Tryz.underlying74
  a75 := Tryz.isAgg74
  z75 := Tryz.sizeOf74
  v75 := Tryz.zeroValue74
  t164 := Tryz.underlying153
  a164 := Tryz.isAgg153
  z164 := Tryz.sizeOf153
  v164 := Tryz.zeroValue153 }
theorem builder_Extra166 : Builder.Extra Tryz.prog lays166_ren where
  sizeBuilder := by kernel_rfl
  liesBuilder := by kernel_rfl
  t5 := Tryz.underlying5
  a5 := Tryz.isAgg5
  z5 := Tryz.sizeOf5
  v5 := Tryz.zeroValue5
  infoByte := by kernel_rfl
  cellsByte := by kernel_rfl
  sizeByte := by kernel_rfl
  neB5 := by decide
theorem sb_write (B b : Nat) (bs : List UInt8) (s : ByteArray) (w : World) (h : IsB B b bs w) (hlen : bs.length + s.size ≤ 140737488355328) (hBw : B ≤ w.heap.size) :
    Calls Tryz.prog 29 #[.pointer (some ⟨b, 0, none⟩), .string s] w fun e w' => e = .returned (.tuple #[.int .i64 s.size, .nilIface]) ∧ (IsB B b (bs ++ s.data.toList) w' ∧ Below B w w' ∧ Lib.OthersKept 5 (some b) w w') := by
  refine (Any.Builder_WriteString_k lays166 builder_Extra166 B b (Lib.byteCells bs) s w h (by rw [Lib.byteCells_length]; exact hlen) hBw).mono ?_; rintro e w' ⟨rfl, h1, h2, h3⟩; refine ⟨rfl, ?_, h2, h3⟩; have : Lib.byteCells (bs ++ s.data.toList) = Lib.byteCells bs ++ Lib.strCells s := by
    rw [Lib.byteCells_append]; rfl
  unfold IsB; rw [this]; exact .inr h1
end
end Go.Proofs.YtkgconbdmnmbnaaGreat
