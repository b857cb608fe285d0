/-
  CONTRACT of package event's take: a part, as the machine of the open containers takes it.
-/
import Derived.Test.YtebnhelejebobaaG0c
/-
  CONTRACT of package event's take: a part, as the machine of the open containers takes it.
-/
namespace Go.Proofs.Ytebnhelejebobaa
open Go.RowKit
open Go.Lib
/-- A document that is going on, or at its end. -/
def CkAt (M B : Nat) (w : World) (d : Nat) : Ck → Prop
  | .bad _ => False
  | .live s => ∃ v, Doc M B w d s false v
  | .done => ∃ v, Doc M B w d [] true v
def errS : Ck → Nat
  | .bad f => f
  | _ => 0
theorem Doc.up {M B : Nat} {w : World} {d : Nat} {s : List Bx} {wh : Bool} {v : Value} (h : Doc M B w d s wh v) (hM : M + 1 ≤ 1000) : Doc (M + 1) B w d s wh v :=
  ⟨h.own, h.win, h.dB, h.vB, fun b hb => ⟨(h.ok b hb).1, Nat.le_succ_of_le (h.ok b hb).2⟩, h.deep, hM⟩
/-- A part more in the last container. -/
theorem Doc.inc {M B : Nat} {w : World} {d : Nat} {b : Bx} {r : List Bx} {wh : Bool} {g off cap N : Nat} (h : Doc M B w d (b :: r) wh (.slice (some ⟨g, off, none⟩) N cap)) (hM : M + 1 ≤ 1000) (hN : N = r.length + 1) :
    Doc (M + 1) B (w.setCell ⟨g, off + r.length * 3 + 2, none⟩ (.int .i64 ((b.have_ : Int) + 1))) d (incB (b :: r)) wh (.slice (some ⟨g, off, none⟩) N cap) ∧ g ≠ d ∧ B ≤ g := by
  subst hN
  have hgd : g ≠ d := fun e => h.apart (by simp [Value.owner, e])
  have hw := h.win.store (r.length * 3 + 2) (by rw [bxsL_length]; simp; omega) (.int .i64 ((b.have_ : Int) + 1))
  have hx : (bxsL (b :: r)).set (r.length * 3 + 2) (.int .i64 ((b.have_ : Int) + 1)) = bxsL (incB (b :: r)) := by
    simp only [bxsL, incB]
    rw [← bxsL_length, List.set_append, if_neg (by omega), Nat.add_sub_cancel_left]
    rfl
  rw [hx, ← Nat.add_assoc] at hw
  refine ⟨⟨h.own.far (Ne.symm hgd) _, hw, h.dB, h.vB, fun x hx => ?_, h.deep, hM⟩, hgd, h.vB g (by simp [Value.owner])⟩
  simp only [incB, List.mem_cons] at hx
  rcases hx with rfl | hx
  · have := h.ok b (by simp)
    exact ⟨this.1, by simp only; omega⟩
  · have := h.ok x (List.mem_cons_of_mem _ hx)
    exact ⟨this.1, by omega⟩

/-- A container more. -/
theorem Doc.push {M B : Nat} {w w2 : World} {d : Nat} {s : List Bx} {wh : Bool} {v v' : Value} (h : Doc M B w d s wh v) (nb : Bx) (hc : -1 ≤ nb.c ∧ nb.c ≤ 9223372036854775807) (h0 : nb.have_ = 0) (hs : s.length + 1 ≤ 16) {N : Nat} (hN : N = s.length)
    (hW : Win w2 95 3 v' (N + 1) (bxsL s ++ bxL nb)) (hG : w.grownBy w2 v.ownBlock) (hO : v'.ownBlock = v.ownBlock ∨ v'.ownBlock = some w.heap.size ∧ w.heap.size < w2.heap.size) :
    Doc M B (w2.setCell ⟨d, 0, none⟩ v') d (nb :: s) wh v' ∧ Below B w (w2.setCell ⟨d, 0, none⟩ v') := by
  subst hN
  have hr : v.ownBlock ≠ some d := fun e => h.apart ((ob_iff _ _).1 e)
  have ho := h.own.lift hG hr
  have hB : Below B w w2 := (Below.refl B w).grown hG h.lt (fun k hk => h.vB k ((ob_iff _ _).1 hk))
  have hv : ∀ k ∈ Value.owner v', B ≤ k := fun k hk => by
    rcases hO with e | ⟨e, _⟩
    · exact h.vB k ((ob_iff _ _).1 (e ▸ (ob_iff _ _).2 hk))
    · have := (ob_iff _ _).2 hk
      rw [e] at this
      cases this
      exact h.lt
  have ha : d ∉ Value.owner v' := hW.apart ho (by decide)
  refine ⟨⟨ho.set 0 _, hW.setCell_far ha _, h.dB, hv, fun x hx => ?_, hs, h.most⟩, hB.setCell h.dB _⟩
  rcases List.mem_cons.1 hx with rfl | hx
  · exact ⟨hc, by omega⟩
  · exact h.ok x hx
theorem Doc.alloc {M B : Nat} {w : World} {d : Nat} {s : List Bx} {wh : Bool} {v : Value} (h : Doc M B w d s wh v) (o : Obj) : Doc M B (w.alloc o) d s wh v := h.go (up_alloc (Below.refl _ _) _)
theorem Doc.drew {M B : Nat} {w : World} {d : Nat} {s : List Bx} {wh : Bool} {v : Value} (h : Doc M B w d s wh v) : Doc M B w.drew d s wh v := ⟨h.own, h.win, h.dB, h.vB, h.ok, h.deep, h.most⟩
theorem info_box : (Try.prog.info? 95).map (fun i => (i.zero, i.size, i.bytes)) = some (some (.agg #[.bool false, .int .i64 0, .int .i64 0]), 3, 24) := by kernel_rfl
theorem takes_none (M B : Nat) (w : World) (d : Nat) (s : List Bx) (wh : Bool) (v : Value) (hD : Doc M B w d s wh v) (k : Int) (y : Bool) (m : Nat) (t : ByteArray) (c : Int) (X : Value)
    (hO : ∀ w, Calls Try.prog 39 #[evV ⟨k, y, m, t, c⟩] w fun r w' => r = .returned (.tuple #[X, .bool false]) ∧ Below w.heap.size w w') :
    Calls Try.prog 27 #[.pointer (some ⟨d, 0, none⟩), evV ⟨k, y, m, t, c⟩] w fun r w' => r = .returned (.int .i64 2) ∧ Below B w w' := by
  have HO := Lib.hid hO
  clear hO
  simp only [evV] at HO ⊢
  obtain ⟨a, cap, rfl, _, _⟩ := hD.win.slice_form
  go_enter Try.func27, Try.ntmps27
  go_wp2_with fail
  refine (HO.out _).mono ?_
  rintro e w1 ⟨rfl, hb⟩
  have D1 := Lib.hid ((hD.go (up_alloc (Below.refl _ _) _)).go hb)
  obtain ⟨⟨e0, e1, e2, e3, e4⟩, _⟩ := ((blk_new w _ _).go hb).ev
  have B1 := Lib.hid ((up_trans (up_alloc (Below.refl _ _) _) hb).mono hD.lt)
  have k0 := D1.out.own.cell 0
  have k1 := D1.out.own.cell 1
  clear hb hD
  go_wp2
  go_ret
  exact ⟨rfl, B1.out⟩
theorem take_over (M B : Nat) (w : World) (d : Nat) (s : List Bx) (v : Value) (hD : Doc M B w d s true v) (k : Int) (y : Bool) (m : Nat) (t : ByteArray) (c : Int) (X : Value)
    (hO : ∀ w, Calls Try.prog 39 #[evV ⟨k, y, m, t, c⟩] w fun r w' => r = .returned (.tuple #[X, .bool true]) ∧ Below w.heap.size w w') :
    Calls Try.prog 27 #[.pointer (some ⟨d, 0, none⟩), evV ⟨k, y, m, t, c⟩] w fun r w' => r = .returned (.int .i64 2) ∧ Below B w w' := by
  have HO := Lib.hid hO
  clear hO
  simp only [evV] at HO ⊢
  obtain ⟨a, cap, rfl, _, _⟩ := hD.win.slice_form
  go_enter Try.func27, Try.ntmps27
  go_wp2_with fail
  refine (HO.out _).mono ?_
  rintro e w1 ⟨rfl, hb⟩
  have D1 := Lib.hid ((hD.go (up_alloc (Below.refl _ _) _)).go hb)
  obtain ⟨⟨e0, e1, e2, e3, e4⟩, _⟩ := ((blk_new w _ _).go hb).ev
  have B1 := Lib.hid ((up_trans (up_alloc (Below.refl _ _) _) hb).mono hD.lt)
  have k0 := D1.out.own.cell 0
  have k1 := D1.out.own.cell 1
  clear hb hD
  go_wp2
  go_ret
  exact ⟨rfl, B1.out⟩
/-- The end of a container, by what end makes of it. -/
theorem takes_end (M B : Nat) (w : World) (d : Nat) (s : List Bx) (v : Value) (hD : Doc M B w d s false v) (y : Bool) (m : Nat) (t : ByteArray) (c : Int) (X : Value)
    (hO : ∀ w, Calls Try.prog 39 #[evV ⟨7, y, m, t, c⟩] w fun r w' => r = .returned (.tuple #[X, .bool true]) ∧ Below w.heap.size w w') (f : Int) (R : World → Prop)
    (hE : ∀ w1, Below w.heap.size w w1 → Calls Try.prog 40 #[.pointer (some ⟨d, 0, none⟩)] w1 fun r w' => r = .returned (.int .i64 f) ∧ Below B w1 w' ∧ R w') :
    Calls Try.prog 27 #[.pointer (some ⟨d, 0, none⟩), evV ⟨7, y, m, t, c⟩] w fun r w' => r = .returned (.int .i64 f) ∧ Below B w w' ∧ R w' := by
  have HO := Lib.hid hO
  clear hO
  simp only [evV] at HO ⊢
  have HE := Lib.hid hE
  clear hE
  obtain ⟨a, cap, rfl, _, _⟩ := hD.win.slice_form
  go_enter Try.func27, Try.ntmps27
  go_wp2_with fail
  refine (HO.out _).mono ?_
  rintro e w1 ⟨rfl, hb⟩
  have D1 := Lib.hid ((hD.go (up_alloc (Below.refl _ _) _)).go hb)
  obtain ⟨⟨e0, e1, e2, e3, e4⟩, _⟩ := ((blk_new w _ _).go hb).ev
  have B1 := Lib.hid ((up_trans (up_alloc (Below.refl _ _) _) hb).mono hD.lt)
  have L1 := Lib.hid (up_trans (up_alloc (Below.refl _ _) _) hb)
  have k0 := D1.out.own.cell 0
  have k1 := D1.out.own.cell 1
  clear hb hD
  go_wp2_with fail
  refine (HE.out _ L1.out).mono ?_
  rintro e w2 ⟨rfl, hb, hR⟩
  have B2 := Lib.hid (B1.out.trans hb)
  have R2 := Lib.hid hR
  clear hb hR
  go_wp2
  go_ret
  exact ⟨rfl, B2.out, R2.out⟩
/-- Where a key must be, and none comes. -/
theorem take_key (M B : Nat) (w : World) (d : Nat) (s : List Bx) (v : Value) (hD : Doc M B w d s false v) (k : Int) (y : Bool) (m : Nat) (t : ByteArray) (c : Int) (X : Value)
    (hO : ∀ w, Calls Try.prog 39 #[evV ⟨k, y, m, t, c⟩] w fun r w' => r = .returned (.tuple #[X, .bool true]) ∧ Below w.heap.size w w') (h7 : k ≠ 7) (h3 : k ≠ 3) (hk : keyB s = true) :
    Calls Try.prog 27 #[.pointer (some ⟨d, 0, none⟩), evV ⟨k, y, m, t, c⟩] w fun r w' => r = .returned (.int .i64 8) ∧ Below B w w' := by
  have HO := Lib.hid hO
  clear hO
  simp only [evV] at HO ⊢
  have q7 : (k == 7) = false := by simpa using h7
  have q3 : (k != 3) = true := by simpa using h3
  clear h7 h3
  obtain ⟨a, cap, rfl, _, _⟩ := hD.win.slice_form
  go_enter Try.func27, Try.ntmps27
  go_wp2_with fail
  refine (HO.out _).mono ?_
  rintro e w1 ⟨rfl, hb⟩
  have D1 := Lib.hid ((hD.go (up_alloc (Below.refl _ _) _)).go hb)
  obtain ⟨⟨e0, e1, e2, e3, e4⟩, _⟩ := ((blk_new w _ _).go hb).ev
  have B1 := Lib.hid ((up_trans (up_alloc (Below.refl _ _) _) hb).mono hD.lt)
  have k0 := D1.out.own.cell 0
  have k1 := D1.out.own.cell 1
  clear hb hD
  have HK := Lib.hid (at_key M B w1 d s false _ D1.out)
  simp only [hk] at HK
  go_wp2_with fail
  refine HK.out.mono ?_
  rintro e w2 ⟨rfl, rfl⟩
  go_wp2
  go_ret
  exact ⟨rfl, B1.out⟩
theorem take_text_nil (M B : Nat) (w : World) (d : Nat) (v : Value) (hD : Doc M B w d [] false v) (y : Bool) (m : Nat) (t : ByteArray) (c : Int) (X : Value)
    (hO : ∀ w, Calls Try.prog 39 #[evV ⟨3, y, m, t, c⟩] w fun r w' => r = .returned (.tuple #[X, .bool true]) ∧ Below w.heap.size w w') (hM : M + 1 ≤ 1000) :
    Calls Try.prog 27 #[.pointer (some ⟨d, 0, none⟩), evV ⟨3, y, m, t, c⟩] w fun r w' => r = .returned (.int .i64 0) ∧ Below B w w' ∧ CkAt (M + 1) B w' d .done := by
  have HO := Lib.hid hO
  clear hO
  simp only [evV] at HO ⊢
  obtain ⟨a, cap, rfl, _, _⟩ := hD.win.slice_form
  have HM := Lib.hid hM
  clear hM
  go_enter Try.func27, Try.ntmps27
  go_wp2_with fail
  refine (HO.out _).mono ?_
  rintro e w1 ⟨rfl, hb⟩
  have D1 := Lib.hid ((hD.go (up_alloc (Below.refl _ _) _)).go hb)
  obtain ⟨⟨e0, e1, e2, e3, e4⟩, _⟩ := ((blk_new w _ _).go hb).ev
  have B1 := Lib.hid ((up_trans (up_alloc (Below.refl _ _) _) hb).mono hD.lt)
  have k0 := D1.out.own.cell 0
  have k1 := D1.out.own.cell 1
  have z1 := D1.out.own.froz 1
  clear hb hD
  go_wp2
  go_ret
  exact ⟨rfl, B1.out.setCell D1.out.dB _, _, D1.out.own.set 1 _, D1.out.win.setCell_far D1.out.apart _, D1.out.dB, D1.out.vB, (fun _ h => by cases h), (by simp), HM.out⟩
set_option maxHeartbeats 1000000 in
theorem take_text_in (M B : Nat) (w : World) (d : Nat) (b : Bx) (l : List Bx) (v : Value) (hD : Doc M B w d (b :: l) false v) (y : Bool) (m : Nat) (t : ByteArray) (c : Int) (X : Value)
    (hO : ∀ w, Calls Try.prog 39 #[evV ⟨3, y, m, t, c⟩] w fun r w' => r = .returned (.tuple #[X, .bool true]) ∧ Below w.heap.size w w') (hM : M + 1 ≤ 1000) :
    Calls Try.prog 27 #[.pointer (some ⟨d, 0, none⟩), evV ⟨3, y, m, t, c⟩] w fun r w' => r = .returned (.int .i64 0) ∧ Below B w w' ∧ CkAt (M + 1) B w' d (.live (incB (b :: l))) := by
  have HO := Lib.hid hO
  clear hO
  simp only [evV] at HO ⊢
  obtain ⟨g, off, N, cap, rfl, hN, hN2, hx, hy⟩ := hD.last
  clear hx hy
  have hl : (N : Int) - 1 = (l.length : Int) := by omega
  have hl3 : l.length < N := by omega
  have hl4 : ((N : Int) == 0) = false := by rw [beq_eq_false_iff_ne]; omega
  have hl5 : (0 < (N : Int)) = True := by simp; omega
  have hq : (b.have_ : Int) ≤ 1000 := by have := Nat.le_trans (hD.ok b (by simp)).2 hD.most; omega
  have HM := Lib.hid hM
  have HN := Lib.hid hN
  clear hM hN
  go_enter Try.func27, Try.ntmps27
  go_wp2_with fail
  refine (HO.out _).mono ?_
  rintro e w1 ⟨rfl, hb⟩
  have D1 := Lib.hid ((hD.go (up_alloc (Below.refl _ _) _)).go hb)
  obtain ⟨⟨e0, e1, e2, e3, e4⟩, _⟩ := ((blk_new w _ _).go hb).ev
  have B1 := Lib.hid ((up_trans (up_alloc (Below.refl _ _) _) hb).mono hD.lt)
  have k0 := D1.out.own.cell 0
  have k1 := D1.out.own.cell 1
  obtain ⟨_, _, _, _, hv, hNa, hNb, ⟨x0, x1, x2⟩, ⟨y0, y1, y2⟩⟩ := D1.out.last
  simp only [Value.slice.injEq, Option.some.injEq, Addr.mk.injEq, and_true] at hv
  obtain ⟨⟨rfl, rfl⟩, rfl, rfl⟩ := hv
  obtain ⟨i1, i2, i3⟩ := D1.out.inc HM.out HN.out
  have I1 := Lib.hid i1
  have I2 := Lib.hid i2
  have I3 := Lib.hid i3
  have j0 := I1.out.own.cell 0
  have z0 := I1.out.own.froz 0
  have j1 := I1.out.own.cell 1
  have z1 := I1.out.own.froz 1
  clear i1 i2 i3 hb hNa hNb hD
  obtain ⟨m', c', q⟩ := b
  simp only at *
  generalize hn : l.length = n at *
  have Hn := Lib.hid hn
  clear hn
  go_wp2
  go_ret
  exact ⟨rfl, (B1.out.setCell I3.out _).setCell D1.out.dB _, _, I1.out.own.set 1 _, I1.out.win.setCell_far I1.out.apart _, I1.out.dB, I1.out.vB, I1.out.ok, I1.out.deep, I1.out.most⟩
theorem take_other_nil (M B : Nat) (w : World) (d : Nat) (v : Value) (hD : Doc M B w d [] false v) (k : Int) (y : Bool) (m : Nat) (t : ByteArray) (c : Int) (X : Value)
    (hO : ∀ w, Calls Try.prog 39 #[evV ⟨k, y, m, t, c⟩] w fun r w' => r = .returned (.tuple #[X, .bool true]) ∧ Below w.heap.size w w') (h7 : k ≠ 7) (h3 : k ≠ 3) (h5 : k ≠ 5) (h6 : k ≠ 6) (hk : keyB [] = false) (hM : M + 1 ≤ 1000) :
    Calls Try.prog 27 #[.pointer (some ⟨d, 0, none⟩), evV ⟨k, y, m, t, c⟩] w fun r w' => r = .returned (.int .i64 0) ∧ Below B w w' ∧ CkAt (M + 1) B w' d .done := by
  have HO := Lib.hid hO
  clear hO
  simp only [evV] at HO ⊢
  have q7 : (k == 7) = false := by simpa using h7
  have q3 : (k != 3) = true := by simpa using h3
  have q5 : (k == 5) = false := by simpa using h5
  have q6 : (k == 6) = false := by simpa using h6
  clear h7 h3 h5 h6
  obtain ⟨a, cap, rfl, _, _⟩ := hD.win.slice_form
  have HM := Lib.hid hM
  clear hM
  go_enter Try.func27, Try.ntmps27
  go_wp2_with fail
  refine (HO.out _).mono ?_
  rintro e w1 ⟨rfl, hb⟩
  have D1 := Lib.hid ((hD.go (up_alloc (Below.refl _ _) _)).go hb)
  obtain ⟨⟨e0, e1, e2, e3, e4⟩, _⟩ := ((blk_new w _ _).go hb).ev
  have B1 := Lib.hid ((up_trans (up_alloc (Below.refl _ _) _) hb).mono hD.lt)
  have k0 := D1.out.own.cell 0
  have k1 := D1.out.own.cell 1
  have z1 := D1.out.own.froz 1
  clear hb hD
  have HK := Lib.hid (at_key M B w1 d [] false _ D1.out)
  simp only [hk] at HK
  go_wp2_with fail
  refine HK.out.mono ?_
  rintro e w2 ⟨rfl, rfl⟩
  go_wp2
  go_ret
  exact ⟨rfl, B1.out.setCell D1.out.dB _, _, D1.out.own.set 1 _, D1.out.win.setCell_far D1.out.apart _, D1.out.dB, D1.out.vB, (fun _ h => by cases h), (by simp), HM.out⟩
set_option maxHeartbeats 1000000 in
theorem take_other_in (M B : Nat) (w : World) (d : Nat) (b : Bx) (l : List Bx) (v : Value) (hD : Doc M B w d (b :: l) false v) (k : Int) (y : Bool) (m : Nat) (t : ByteArray) (c : Int) (X : Value)
    (hO : ∀ w, Calls Try.prog 39 #[evV ⟨k, y, m, t, c⟩] w fun r w' => r = .returned (.tuple #[X, .bool true]) ∧ Below w.heap.size w w') (h7 : k ≠ 7) (h3 : k ≠ 3) (h5 : k ≠ 5) (h6 : k ≠ 6) (hk : keyB (b :: l) = false) (hM : M + 1 ≤ 1000) :
    Calls Try.prog 27 #[.pointer (some ⟨d, 0, none⟩), evV ⟨k, y, m, t, c⟩] w fun r w' => r = .returned (.int .i64 0) ∧ Below B w w' ∧ CkAt (M + 1) B w' d (.live (incB (b :: l))) := by
  have HO := Lib.hid hO
  clear hO
  simp only [evV] at HO ⊢
  have q7 : (k == 7) = false := by simpa using h7
  have q3 : (k != 3) = true := by simpa using h3
  have q5 : (k == 5) = false := by simpa using h5
  have q6 : (k == 6) = false := by simpa using h6
  clear h7 h3 h5 h6
  obtain ⟨g, off, N, cap, rfl, hN, hN2, hx, hy⟩ := hD.last
  clear hx hy
  have hl : (N : Int) - 1 = (l.length : Int) := by omega
  have hl3 : l.length < N := by omega
  have hl4 : ((N : Int) == 0) = false := by rw [beq_eq_false_iff_ne]; omega
  have hl5 : (0 < (N : Int)) = True := by simp; omega
  have hq : (b.have_ : Int) ≤ 1000 := by have := Nat.le_trans (hD.ok b (by simp)).2 hD.most; omega
  have HM := Lib.hid hM
  have HN := Lib.hid hN
  clear hM hN
  go_enter Try.func27, Try.ntmps27
  go_wp2_with fail
  refine (HO.out _).mono ?_
  rintro e w1 ⟨rfl, hb⟩
  have D1 := Lib.hid ((hD.go (up_alloc (Below.refl _ _) _)).go hb)
  obtain ⟨⟨e0, e1, e2, e3, e4⟩, _⟩ := ((blk_new w _ _).go hb).ev
  have B1 := Lib.hid ((up_trans (up_alloc (Below.refl _ _) _) hb).mono hD.lt)
  have k0 := D1.out.own.cell 0
  have k1 := D1.out.own.cell 1
  obtain ⟨_, _, _, _, hv, hNa, hNb, ⟨x0, x1, x2⟩, ⟨y0, y1, y2⟩⟩ := D1.out.last
  simp only [Value.slice.injEq, Option.some.injEq, Addr.mk.injEq, and_true] at hv
  obtain ⟨⟨rfl, rfl⟩, rfl, rfl⟩ := hv
  obtain ⟨i1, i2, i3⟩ := D1.out.inc HM.out HN.out
  have I1 := Lib.hid i1
  have I2 := Lib.hid i2
  have I3 := Lib.hid i3
  have j0 := I1.out.own.cell 0
  have z0 := I1.out.own.froz 0
  have j1 := I1.out.own.cell 1
  have z1 := I1.out.own.froz 1
  clear i1 i2 i3 hb hNa hNb hD
  have HK := Lib.hid (at_key M B w1 d (b :: l) false _ D1.out)
  simp only [hk] at HK
  go_wp2_with fail
  refine HK.out.mono ?_
  rintro e w2 ⟨rfl, rfl⟩
  obtain ⟨m', c', q⟩ := b
  simp only at *
  clear hk
  generalize hn : l.length = n at *
  have Hn := Lib.hid hn
  clear hn
  go_wp2
  go_ret
  exact ⟨rfl, (B1.out.setCell I3.out _).setCell D1.out.dB _, _, I1.out.own.set 1 _, I1.out.win.setCell_far I1.out.apart _, I1.out.dB, I1.out.vB, I1.out.ok, I1.out.deep, I1.out.most⟩
theorem take_deep_5 (M B : Nat) (w : World) (d : Nat) (s : List Bx) (v : Value) (hD : Doc M B w d s false v) (y : Bool) (m : Nat) (t : ByteArray) (c : Int) (X : Value)
    (hO : ∀ w, Calls Try.prog 39 #[evV ⟨5, y, m, t, c⟩] w fun r w' => r = .returned (.tuple #[X, .bool true]) ∧ Below w.heap.size w w') (hk : keyB s = false) (hs : s.length = 16) :
    Calls Try.prog 27 #[.pointer (some ⟨d, 0, none⟩), evV ⟨5, y, m, t, c⟩] w fun r w' => r = .returned (.int .i64 4) ∧ Below B w w' := by
  have HO := Lib.hid hO
  clear hO
  simp only [evV] at HO ⊢
  obtain ⟨a, cap, rfl, _, _⟩ := hD.win.slice_form
  have hs2 : (((s.length : Nat) : Int) == 16) = true := by rw [hs]; rfl
  clear hs
  go_enter Try.func27, Try.ntmps27
  go_wp2_with fail
  refine (HO.out _).mono ?_
  rintro e w1 ⟨rfl, hb⟩
  have D1 := Lib.hid ((hD.go (up_alloc (Below.refl _ _) _)).go hb)
  obtain ⟨⟨e0, e1, e2, e3, e4⟩, _⟩ := ((blk_new w _ _).go hb).ev
  have B1 := Lib.hid ((up_trans (up_alloc (Below.refl _ _) _) hb).mono hD.lt)
  have k0 := D1.out.own.cell 0
  have k1 := D1.out.own.cell 1
  clear hb hD
  have HK := Lib.hid (at_key M B w1 d s false _ D1.out)
  simp only [hk] at HK
  go_wp2_with fail
  refine HK.out.mono ?_
  rintro e w2 ⟨rfl, rfl⟩
  go_wp2
  go_ret
  exact ⟨rfl, B1.out⟩
set_option maxHeartbeats 1000000 in
theorem take_open_5 (M B : Nat) (w : World) (d : Nat) (v : Value) (hD : Doc M B w d [] false v) (y : Bool) (m : Nat) (t : ByteArray) (c : Int) (X : Value)
    (hO : ∀ w, Calls Try.prog 39 #[evV ⟨5, y, m, t, c⟩] w fun r w' => r = .returned (.tuple #[X, .bool true]) ∧ Below w.heap.size w w') (hM : M + 1 ≤ 1000) (hc : -1 ≤ c ∧ c ≤ 9223372036854775807) :
    Calls Try.prog 27 #[.pointer (some ⟨d, 0, none⟩), evV ⟨5, y, m, t, c⟩] w fun r w' => r = .returned (.int .i64 0) ∧ Below B w w' ∧ CkAt (M + 1) B w' d (.live [⟨false, c, 0⟩]) := by
  have HO := Lib.hid hO
  clear hO
  simp only [evV] at HO ⊢
  obtain ⟨a, cap, rfl, _, _⟩ := hD.win.slice_form
  have HM := Lib.hid hM
  have HC := Lib.hid hc
  clear hM hc
  go_enter Try.func27, Try.ntmps27
  go_wp2_with fail
  refine (HO.out _).mono ?_
  rintro e w1 ⟨rfl, hb⟩
  have D1 := Lib.hid ((hD.go (up_alloc (Below.refl _ _) _)).go hb)
  obtain ⟨⟨e0, e1, e2, e3, e4⟩, _⟩ := ((blk_new w _ _).go hb).ev
  have B1 := Lib.hid ((up_trans (up_alloc (Below.refl _ _) _) hb).mono hD.lt)
  have k0 := D1.out.own.cell 0
  have k1 := D1.out.own.cell 1
  have E1 := Lib.hid ((blk_new w _ _).go hb)
  clear hb hD
  have HK := Lib.hid (at_key M B w1 d [] false _ D1.out)
  have hk : keyB [] = false := rfl
  simp only [hk] at HK
  go_wp2_with fail
  refine HK.out.mono ?_
  rintro e w2 ⟨rfl, rfl⟩
  clear HK hk
  go_wp2
  simp only [List.length_nil] at D1 k0 k1
  have DD := fun o => Lib.hid (Doc.drew (Doc.alloc D1.out o))
  have f0 : ∀ o, (w2.alloc o).cell? ⟨w.heap.size, 0, none⟩ = some (.int .i64 5) := fun o => (E1.out.alloc o).cell 0
  have f4 : ∀ o, (w2.alloc o).cell? ⟨w.heap.size, 4, none⟩ = some (.int .i64 c) := fun o => (E1.out.alloc o).cell 4
  have f5 : ∀ o, (w2.alloc o).cell? ⟨d, 0, none⟩ = some (.slice a 0 cap) := fun o => (D1.out.own.alloc o).cell 0
  go_region_law (first
    | (refine step_append_win rfl _ _ _ rfl Try.underlying62 info_box rfl rfl (DD _).out.win _ rfl 1 _ (src_new _ Try.underlying62 3 1 (bxL ⟨false, c, 0⟩) 95 _ rfl (bxsL_one [⟨false, c, 0⟩]) (heap_alloc_new w2 _)) (by unfold maxLen; simp) (by simp) ?_; intro v3 w3 hW3 hG3 hO3; obtain ⟨a3, c3, rfl, _, _⟩ := Win.slice_form hW3.out; have O3 := (DD _).out.own.lift hG3.out (fun e => D1.out.apart ((ob_iff _ _).1 e)); have g0 := O3.cell 0; have g1 := O3.froz 0; have g2 := O3.cell 1; have g3 := O3.froz 1; clear O3; have HP := Lib.hid ((DD _).out.push ⟨false, c, 0⟩ HC.out rfl (by simp) rfl hW3.out hG3.out hO3.out); clear hW3 hG3 hO3))
  all_goals
    simp only [List.length_nil, Nat.zero_add] at HP
    go_wp2
    go_ret
    have DU := HP.out.1.up HM.out
    exact ⟨rfl, (B1.out.trans ((below_drw ((Below.refl B w2).alloc D1.out.lt _)).trans HP.out.2)).setCell D1.out.dB _, _, DU.own.set 1 _, DU.win.setCell_far DU.apart _, DU.dB, DU.vB, DU.ok, DU.deep, DU.most⟩
theorem take_deep_6 (M B : Nat) (w : World) (d : Nat) (s : List Bx) (v : Value) (hD : Doc M B w d s false v) (y : Bool) (m : Nat) (t : ByteArray) (c : Int) (X : Value)
    (hO : ∀ w, Calls Try.prog 39 #[evV ⟨6, y, m, t, c⟩] w fun r w' => r = .returned (.tuple #[X, .bool true]) ∧ Below w.heap.size w w') (hk : keyB s = false) (hs : s.length = 16) :
    Calls Try.prog 27 #[.pointer (some ⟨d, 0, none⟩), evV ⟨6, y, m, t, c⟩] w fun r w' => r = .returned (.int .i64 4) ∧ Below B w w' := by
  have HO := Lib.hid hO
  clear hO
  simp only [evV] at HO ⊢
  obtain ⟨a, cap, rfl, _, _⟩ := hD.win.slice_form
  have hs2 : (((s.length : Nat) : Int) == 16) = true := by rw [hs]; rfl
  clear hs
  go_enter Try.func27, Try.ntmps27
  go_wp2_with fail
  refine (HO.out _).mono ?_
  rintro e w1 ⟨rfl, hb⟩
  have D1 := Lib.hid ((hD.go (up_alloc (Below.refl _ _) _)).go hb)
  obtain ⟨⟨e0, e1, e2, e3, e4⟩, _⟩ := ((blk_new w _ _).go hb).ev
  have B1 := Lib.hid ((up_trans (up_alloc (Below.refl _ _) _) hb).mono hD.lt)
  have k0 := D1.out.own.cell 0
  have k1 := D1.out.own.cell 1
  clear hb hD
  have HK := Lib.hid (at_key M B w1 d s false _ D1.out)
  simp only [hk] at HK
  go_wp2_with fail
  refine HK.out.mono ?_
  rintro e w2 ⟨rfl, rfl⟩
  go_wp2
  go_ret
  exact ⟨rfl, B1.out⟩
set_option maxHeartbeats 1000000 in
theorem take_open_6 (M B : Nat) (w : World) (d : Nat) (v : Value) (hD : Doc M B w d [] false v) (y : Bool) (m : Nat) (t : ByteArray) (c : Int) (X : Value)
    (hO : ∀ w, Calls Try.prog 39 #[evV ⟨6, y, m, t, c⟩] w fun r w' => r = .returned (.tuple #[X, .bool true]) ∧ Below w.heap.size w w') (hM : M + 1 ≤ 1000) (hc : -1 ≤ c ∧ c ≤ 9223372036854775807) :
    Calls Try.prog 27 #[.pointer (some ⟨d, 0, none⟩), evV ⟨6, y, m, t, c⟩] w fun r w' => r = .returned (.int .i64 0) ∧ Below B w w' ∧ CkAt (M + 1) B w' d (.live [⟨true, c, 0⟩]) := by
  have HO := Lib.hid hO
  clear hO
  simp only [evV] at HO ⊢
  obtain ⟨a, cap, rfl, _, _⟩ := hD.win.slice_form
  have HM := Lib.hid hM
  have HC := Lib.hid hc
  clear hM hc
  go_enter Try.func27, Try.ntmps27
  go_wp2_with fail
  refine (HO.out _).mono ?_
  rintro e w1 ⟨rfl, hb⟩
  have D1 := Lib.hid ((hD.go (up_alloc (Below.refl _ _) _)).go hb)
  obtain ⟨⟨e0, e1, e2, e3, e4⟩, _⟩ := ((blk_new w _ _).go hb).ev
  have B1 := Lib.hid ((up_trans (up_alloc (Below.refl _ _) _) hb).mono hD.lt)
  have k0 := D1.out.own.cell 0
  have k1 := D1.out.own.cell 1
  have E1 := Lib.hid ((blk_new w _ _).go hb)
  clear hb hD
  have HK := Lib.hid (at_key M B w1 d [] false _ D1.out)
  have hk : keyB [] = false := rfl
  simp only [hk] at HK
  go_wp2_with fail
  refine HK.out.mono ?_
  rintro e w2 ⟨rfl, rfl⟩
  clear HK hk
  go_wp2
  simp only [List.length_nil] at D1 k0 k1
  have DD := fun o => Lib.hid (Doc.drew (Doc.alloc D1.out o))
  have f0 : ∀ o, (w2.alloc o).cell? ⟨w.heap.size, 0, none⟩ = some (.int .i64 6) := fun o => (E1.out.alloc o).cell 0
  have f4 : ∀ o, (w2.alloc o).cell? ⟨w.heap.size, 4, none⟩ = some (.int .i64 c) := fun o => (E1.out.alloc o).cell 4
  have f5 : ∀ o, (w2.alloc o).cell? ⟨d, 0, none⟩ = some (.slice a 0 cap) := fun o => (D1.out.own.alloc o).cell 0
  go_region_law (first
    | (refine step_append_win rfl _ _ _ rfl Try.underlying62 info_box rfl rfl (DD _).out.win _ rfl 1 _ (src_new _ Try.underlying62 3 1 (bxL ⟨true, c, 0⟩) 95 _ rfl (bxsL_one [⟨true, c, 0⟩]) (heap_alloc_new w2 _)) (by unfold maxLen; simp) (by simp) ?_; intro v3 w3 hW3 hG3 hO3; obtain ⟨a3, c3, rfl, _, _⟩ := Win.slice_form hW3.out; have O3 := (DD _).out.own.lift hG3.out (fun e => D1.out.apart ((ob_iff _ _).1 e)); have g0 := O3.cell 0; have g1 := O3.froz 0; have g2 := O3.cell 1; have g3 := O3.froz 1; clear O3; have HP := Lib.hid ((DD _).out.push ⟨true, c, 0⟩ HC.out rfl (by simp) rfl hW3.out hG3.out hO3.out); clear hW3 hG3 hO3))
  all_goals
    simp only [List.length_nil, Nat.zero_add] at HP
    go_wp2
    go_ret
    have DU := HP.out.1.up HM.out
    exact ⟨rfl, (B1.out.trans ((below_drw ((Below.refl B w2).alloc D1.out.lt _)).trans HP.out.2)).setCell D1.out.dB _, _, DU.own.set 1 _, DU.win.setCell_far DU.apart _, DU.dB, DU.vB, DU.ok, DU.deep, DU.most⟩
end Go.Proofs.Ytebnhelejebobaa
