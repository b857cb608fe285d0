/-
  CONTRACTS of event.Check.
-/
import Derived.Test.YtacngbngljfedaaGe
import Derived.Deep.DeepCutAuto
import Derived.Deep.RegionLaw
import Derived.Deep.Light
/-
  CONTRACTS of package event's machine: a container's mayEnd; a document's atKey, end, take; Check.
-/
namespace Go.Proofs.Ytacngbngljfedaa
open Go.RowKit
open Go.Lib
/-- A document that is going on. -/
structure Doc (M B : Nat) (w : World) (d : Nat) (s : List Bx) (wh : Bool) (v : Value) : Prop where
  own : Blk w d #[v, .bool wh] 62
  win : Win w 99 3 v s.length (bxsL s)
  dB : B ≤ d
  vB : ∀ k ∈ Value.owner v, B ≤ k
  ok : ∀ b ∈ s, (-1 ≤ b.c ∧ b.c ≤ 9223372036854775807) ∧ b.have_ ≤ M
  deep : s.length ≤ 16
  most : M ≤ 1000
/-- The last container's cells. -/
theorem Doc.last {M B : Nat} {w : World} {d : Nat} {b : Bx} {r : List Bx} {wh : Bool} {v : Value} (h : Doc M B w d (b :: r) wh v) :
    ∃ g off N cap, v = .slice (some ⟨g, off, none⟩) N cap ∧ N = r.length + 1 ∧ N ≤ 9223372036854775807 ∧
      (w.cell? ⟨g, off + r.length * 3, none⟩ = some (.bool b.map) ∧ w.cell? ⟨g, off + r.length * 3 + 1, none⟩ = some (.int .i64 b.c) ∧ w.cell? ⟨g, off + r.length * 3 + 2, none⟩ = some (.int .i64 (b.have_ : Int))) ∧
      (w.frozen? ⟨g, off + r.length * 3, none⟩ = false ∧ w.frozen? ⟨g, off + r.length * 3 + 1, none⟩ = false ∧ w.frozen? ⟨g, off + r.length * 3 + 2, none⟩ = false) := by
  obtain ⟨g, off, cap, rfl, h1, h2, _, _, h3⟩ := h.win.form (by simp)
  have hl := bxsL_length r
  have hx : ∀ j u, (bxL b)[j]? = some u → w.cell? ⟨g, off + (r.length * 3 + j), none⟩ = some u ∧ w.frozen? ⟨g, off + (r.length * 3 + j), none⟩ = false := fun j u hu => by
    refine h3 _ u ?_
    rw [bxsL, ← hl, List.getElem?_append_right (by omega), Nat.add_sub_cancel_left]
    exact hu
  have x0 := hx 0 _ rfl
  have x1 := hx 1 _ rfl
  have x2 := hx 2 _ rfl
  simp only [← Nat.add_assoc, Nat.add_zero] at x0 x1 x2
  refine ⟨g, off, _, cap, rfl, by simp, ?_, ⟨x0.1, x1.1, x2.1⟩, ⟨x0.2, x1.2, x2.2⟩⟩
  unfold maxLen at h2
  simp only [List.length_cons] at h1 ⊢
  omega
theorem at_key (M B : Nat) (w : World) (d : Nat) (s : List Bx) (wh : Bool) (v : Value) (h : Doc M B w d s wh v) :
    Calls Try.prog 39 #[.pointer (some ⟨d, 0, none⟩)] w fun r w' => r = .returned (.bool (keyB s)) ∧ w' = w := by
  have c0 := h.own.cell 0
  cases s with
  | nil =>
    obtain ⟨a, cap, rfl, _, _⟩ := h.win.slice_form
    clear h
    go_enter Try.func39, Try.ntmps39
    go_wp2
    go_ret
    exact ⟨rfl, rfl⟩
  | cons b r =>
    have hr := Nat.le_trans (h.ok b (by simp)).2 h.most
    obtain ⟨g, off, N, cap, rfl, hN, hN2, ⟨x0, x1, x2⟩, ⟨y0, y1, y2⟩⟩ := h.last
    have hl : (N : Int) - 1 = (r.length : Int) := by omega
    have hl2 : 0 < N := by omega
    have hl3 : r.length < N := by omega
    have hm : (((b.have_ : Int) % 2 == 0) : Bool) = (b.have_ % 2 == 0) := by rw [Bool.eq_iff_iff, beq_iff_eq, beq_iff_eq]; omega
    have hk : keyB (b :: r) = (b.map && (b.have_ % 2 == 0)) := rfl
    rw [hk]
    obtain ⟨m, c, q⟩ := b
    simp only at *
    generalize (q % 2 == 0) = Q at *
    clear h hk hr hN
    generalize r.length = n at *
    cases m
    · go_enter Try.func39, Try.ntmps39
      go_wp2
      go_ret
      exact ⟨rfl, rfl⟩
    · go_enter Try.func39, Try.ntmps39
      go_wp2
      go_ret
      exact ⟨rfl, rfl⟩
theorem may_end (b : Bx) (hc : -1 ≤ b.c) (hq : b.have_ ≤ 1000) (w : World) :
    Calls Try.prog 51 #[.agg #[.bool b.map, .int .i64 b.c, .int .i64 (b.have_ : Int)]] w fun r w' => r = .returned (.bool (decide (¬ shutB b))) ∧ Below w.heap.size w w' := by
  obtain ⟨m, c, q⟩ := b
  have h1 := Lib.hid (up_alloc (Below.refl w.heap.size w) (.cells #[.bool m, .int .i64 c, .int .i64 (q : Int)] 99))
  simp only at *
  have hs : shutB ⟨m, c, q⟩ ↔ (0 ≤ c ∧ (q : Int) ≠ (if m then 2 * c else c)) ∨ (m = true ∧ q % 2 = 1) := Iff.rfl
  cases m
  · simp only [Bool.false_eq_true, if_false, false_and, or_false] at hs
    by_cases h : c = -1
    · subst h
      rw [decide_eq_true (p := ¬ shutB ⟨false, -1, q⟩) (fun h => by rw [hs] at h; omega)]
      clear hs
      go_enter Try.func51, Try.ntmps51
      go_wp2
      go_ret
      exact ⟨rfl, h1.out⟩
    · have e : decide (¬ shutB ⟨false, c, q⟩) = (c == (q : Int)) := by
        rw [Bool.eq_iff_iff, decide_eq_true_iff, beq_iff_eq, hs]
        omega
      rw [e]
      have hz : (c == -1) = false := by simpa using h
      clear hs h e
      go_enter Try.func51, Try.ntmps51
      go_wp2
      go_ret
      exact ⟨rfl, h1.out⟩
  · simp only [if_true, true_and] at hs
    by_cases h2 : q % 2 = 1
    · rw [decide_not, decide_eq_true (hs.2 (.inr h2)), Bool.not_true]
      have hz : (((q : Int) % 2) != 0) = true := by simp; omega
      clear hs h2
      go_enter Try.func51, Try.ntmps51
      go_wp2
      go_ret
      exact ⟨rfl, h1.out⟩
    · have hz : (((q : Int) % 2) != 0) = false := by simp; omega
      by_cases h : c = -1
      · subst h
        rw [decide_eq_true (p := ¬ shutB ⟨true, -1, q⟩) (fun h => by rw [hs] at h; omega)]
        clear hs h2
        go_enter Try.func51, Try.ntmps51
        go_wp2
        go_ret
        exact ⟨rfl, h1.out⟩
      · have e : decide (¬ shutB ⟨true, c, q⟩) = (c == (q : Int) / 2) := by
          rw [Bool.eq_iff_iff, decide_eq_true_iff, beq_iff_eq, hs]
          omega
        rw [e]
        have hz2 : (c == -1) = false := by simpa using h
        clear hs h e h2
        go_enter Try.func51, Try.ntmps51
        go_wp2
        go_ret
        exact ⟨rfl, h1.out⟩
theorem Doc.go {M B : Nat} {w w' : World} {d : Nat} {s : List Bx} {wh : Bool} {v : Value} (h : Doc M B w d s wh v) (k : Below w.heap.size w w') : Doc M B w' d s wh v :=
  ⟨h.own.go k, h.win.keep fun g hg => k.block g (h.win.lt g hg), h.dB, h.vB, h.ok, h.deep, h.most⟩
theorem Doc.apart {M B : Nat} {w : World} {d : Nat} {s : List Bx} {wh : Bool} {v : Value} (h : Doc M B w d s wh v) : d ∉ Value.owner v := h.win.apart h.own (by decide)
theorem Doc.lt {M B : Nat} {w : World} {d : Nat} {s : List Bx} {wh : Bool} {v : Value} (h : Doc M B w d s wh v) : B ≤ w.heap.size := Nat.le_trans h.dB (Nat.le_of_lt h.own.lt)
theorem ends_none (M B : Nat) (w : World) (d : Nat) (wh : Bool) (v : Value) (h : Doc M B w d [] wh v) :
    Calls Try.prog 38 #[.pointer (some ⟨d, 0, none⟩)] w fun r w' => r = .returned (.int .i64 2) ∧ Below w.heap.size w w' := by
  have c0 := h.own.cell 0
  obtain ⟨a, cap, rfl, _, _⟩ := h.win.slice_form
  clear h
  go_enter Try.func38, Try.ntmps38
  go_wp2
  go_ret
  exact ⟨rfl, Below.refl _ _⟩
set_option maxHeartbeats 1000000 in
theorem end_shut (M B : Nat) (w : World) (d : Nat) (b : Bx) (r : List Bx) (wh : Bool) (v : Value) (h : Doc M B w d (b :: r) wh v) (hs : shutB b) :
    Calls Try.prog 38 #[.pointer (some ⟨d, 0, none⟩)] w fun r w' => r = .returned (.int .i64 2) ∧ Below w.heap.size w w' := by
  have c0 := h.own.cell 0
  have hE := fun w => may_end b (h.ok b (by simp)).1.1 (Nat.le_trans (h.ok b (by simp)).2 h.most) w
  rw [decide_not, decide_eq_true hs, Bool.not_true] at hE
  obtain ⟨g, off, N, cap, rfl, hN, hN2, ⟨x0, x1, x2⟩, ⟨y0, y1, y2⟩⟩ := h.last
  have hl : (N : Int) - 1 = (r.length : Int) := by omega
  have hl3 : r.length < N := by omega
  obtain ⟨m, c, q⟩ := b
  simp only at *
  clear h hN hs
  have HE := Lib.hid hE
  clear hE
  generalize r.length = n at *
  go_enter Try.func38, Try.ntmps38
  go_wp2_with (go_at_call 51; refine (HE.out _).mono ?_; rintro e w1 ⟨rfl, hb⟩)
  go_ret
  exact ⟨rfl, hb⟩
set_option maxHeartbeats 1000000 in
theorem end_ok (M B : Nat) (w : World) (d : Nat) (b : Bx) (r : List Bx) (wh : Bool) (v : Value) (h : Doc M B w d (b :: r) wh v) (hs : ¬ shutB b) :
    Calls Try.prog 38 #[.pointer (some ⟨d, 0, none⟩)] w fun e w' => e = .returned (.int .i64 0) ∧ Below B w w' ∧ ∃ v', Doc M B w' d r (decide (r = [])) v' := by
  have hE := fun w => may_end b (h.ok b (by simp)).1.1 (Nat.le_trans (h.ok b (by simp)).2 h.most) w
  rw [decide_eq_true hs] at hE
  obtain ⟨v', hsl, hw', ho'⟩ := h.win.hi (P := Try.prog) (t := 60) Try.underlying60 (fun w => by kernel_rfl) r.length (by simp)
  rw [bxsL, ← bxsL_length, List.take_left] at hw'
  obtain ⟨a', cap', rfl, _, _⟩ := hw'.slice_form
  obtain ⟨g, off, N, cap, rfl, hN, hN2, ⟨x0, x1, x2⟩, ⟨y0, y1, y2⟩⟩ := h.last
  have c0 := h.own.cell 0
  have hl : (N : Int) - 1 = (r.length : Int) := by omega
  have hl3 : r.length < N := by omega
  have hr0 : (((r.length : Nat) : Int) == 0) = decide (r = []) := by
    cases r
    · rfl
    · simp; omega
  have H := Lib.hid h
  have HW := Lib.hid hw'
  have HO := Lib.hid ho'
  obtain ⟨m, c, q⟩ := b
  simp only at *
  clear h hN hs hw' ho'
  have HE := Lib.hid hE
  clear hE
  generalize hR : decide (r = []) = R at *
  generalize hn : r.length = n at *
  have HR := Lib.hid hR
  have HN := Lib.hid hn
  clear hR hn
  go_enter Try.func38, Try.ntmps38
  go_wp2_with fail
  refine (HE.out _).mono ?_
  rintro e w1 ⟨rfl, hb⟩
  have D1 := Lib.hid (H.out.go hb)
  have k0 := D1.out.own.cell 0
  have k1 := D1.out.own.cell 1
  have z0 := D1.out.own.froz 0
  have z1 := D1.out.own.froz 1
  have HB := Lib.hid (hb.mono H.out.lt)
  have HW1 := Lib.hid (HW.out.keep fun k hk => hb.block k (HW.out.lt k hk))
  clear hb
  go_wp2
  go_ret
  have b2 : Below B w ((w1.setCell ⟨d, 0, none⟩ (.slice a' n cap')).setCell ⟨d, 1, none⟩ (.bool R)) := (HB.out.setCell D1.out.dB _).setCell D1.out.dB _
  have hv : ∀ k ∈ Value.owner (.slice a' n cap'), B ≤ k := fun k hk => D1.out.vB k (HO.out ▸ hk)
  have ha : d ∉ Value.owner (.slice a' n cap') := fun hk => D1.out.apart (HO.out ▸ hk)
  refine ⟨rfl, b2, .slice a' n cap', ?_, ?_, D1.out.dB, hv, fun b hb => H.out.ok b (List.mem_cons_of_mem _ hb), Nat.le_trans (Nat.le_succ _) H.out.deep, H.out.most⟩
  · exact (D1.out.own.set 0 _).set 1 _
  · rw [HN.out]
    exact (HW1.out.setCell_far ha _).setCell_far ha _
end Go.Proofs.Ytacngbngljfedaa
/-
  CONTRACT of package event's take: a part, as the machine of the open containers takes it.
-/
namespace Go.Proofs.Ytacngbngljfedaa
open Go.RowKit
open Go.Lib
/-- A document that is going on, or at its end. -/
def CkAt (M B : Nat) (w : World) (d : Nat) : Ck → Prop
  | .bad _ => False
  | .live s => ∃ v, Doc M B w d s false v
  | .done => ∃ v, Doc M B w d [] true v
def errS : Ck → Nat
  | .bad f => f
  | _ => 0
theorem Doc.up {M B : Nat} {w : World} {d : Nat} {s : List Bx} {wh : Bool} {v : Value} (h : Doc M B w d s wh v) (hM : M + 1 ≤ 1000) : Doc (M + 1) B w d s wh v :=
  ⟨h.own, h.win, h.dB, h.vB, fun b hb => ⟨(h.ok b hb).1, Nat.le_succ_of_le (h.ok b hb).2⟩, h.deep, hM⟩
/-- A part more in the last container. -/
theorem Doc.inc {M B : Nat} {w : World} {d : Nat} {b : Bx} {r : List Bx} {wh : Bool} {g off cap N : Nat} (h : Doc M B w d (b :: r) wh (.slice (some ⟨g, off, none⟩) N cap)) (hM : M + 1 ≤ 1000) (hN : N = r.length + 1) :
    Doc (M + 1) B (w.setCell ⟨g, off + r.length * 3 + 2, none⟩ (.int .i64 ((b.have_ : Int) + 1))) d (incB (b :: r)) wh (.slice (some ⟨g, off, none⟩) N cap) ∧ g ≠ d ∧ B ≤ g := by
  subst hN
  have hgd : g ≠ d := fun e => h.apart (by simp [Value.owner, e])
  have hw := h.win.store (r.length * 3 + 2) (by rw [bxsL_length]; simp; omega) (.int .i64 ((b.have_ : Int) + 1))
  have hx : (bxsL (b :: r)).set (r.length * 3 + 2) (.int .i64 ((b.have_ : Int) + 1)) = bxsL (incB (b :: r)) := by
    simp only [bxsL, incB]
    rw [← bxsL_length, List.set_append, if_neg (by omega), Nat.add_sub_cancel_left]
    rfl
  rw [hx, ← Nat.add_assoc] at hw
  refine ⟨⟨h.own.far (Ne.symm hgd) _, hw, h.dB, h.vB, fun x hx => ?_, h.deep, hM⟩, hgd, h.vB g (by simp [Value.owner])⟩
  simp only [incB, List.mem_cons] at hx
  rcases hx with rfl | hx
  · have := h.ok b (by simp)
    exact ⟨this.1, by simp only; omega⟩
  · have := h.ok x (List.mem_cons_of_mem _ hx)
    exact ⟨this.1, by omega⟩

/-- A container more. -/
theorem Doc.push {M B : Nat} {w w2 : World} {d : Nat} {s : List Bx} {wh : Bool} {v v' : Value} (h : Doc M B w d s wh v) (nb : Bx) (hc : -1 ≤ nb.c ∧ nb.c ≤ 9223372036854775807) (h0 : nb.have_ = 0) (hs : s.length + 1 ≤ 16) {N : Nat} (hN : N = s.length)
    (hW : Win w2 99 3 v' (N + 1) (bxsL s ++ bxL nb)) (hG : w.grownBy w2 v.ownBlock) (hO : v'.ownBlock = v.ownBlock ∨ v'.ownBlock = some w.heap.size ∧ w.heap.size < w2.heap.size) :
    Doc M B (w2.setCell ⟨d, 0, none⟩ v') d (nb :: s) wh v' ∧ Below B w (w2.setCell ⟨d, 0, none⟩ v') := by
  subst hN
  have hr : v.ownBlock ≠ some d := fun e => h.apart ((ob_iff _ _).1 e)
  have ho := h.own.lift hG hr
  have hB : Below B w w2 := (Below.refl B w).grown hG h.lt (fun k hk => h.vB k ((ob_iff _ _).1 hk))
  have hv : ∀ k ∈ Value.owner v', B ≤ k := fun k hk => by
    rcases hO with e | ⟨e, _⟩
    · exact h.vB k ((ob_iff _ _).1 (e ▸ (ob_iff _ _).2 hk))
    · have := (ob_iff _ _).2 hk
      rw [e] at this
      cases this
      exact h.lt
  have ha : d ∉ Value.owner v' := hW.apart ho (by decide)
  refine ⟨⟨ho.set 0 _, hW.setCell_far ha _, h.dB, hv, fun x hx => ?_, hs, h.most⟩, hB.setCell h.dB _⟩
  rcases List.mem_cons.1 hx with rfl | hx
  · exact ⟨hc, by omega⟩
  · exact h.ok x hx
theorem Doc.alloc {M B : Nat} {w : World} {d : Nat} {s : List Bx} {wh : Bool} {v : Value} (h : Doc M B w d s wh v) (o : Obj) : Doc M B (w.alloc o) d s wh v := h.go (up_alloc (Below.refl _ _) _)
theorem Doc.drew {M B : Nat} {w : World} {d : Nat} {s : List Bx} {wh : Bool} {v : Value} (h : Doc M B w d s wh v) : Doc M B w.drew d s wh v := ⟨h.own, h.win, h.dB, h.vB, h.ok, h.deep, h.most⟩
theorem info_box : (Try.prog.info? 99).map (fun i => (i.zero, i.size, i.bytes)) = some (some (.agg #[.bool false, .int .i64 0, .int .i64 0]), 3, 24) := by kernel_rfl
theorem takes_none (M B : Nat) (w : World) (d : Nat) (s : List Bx) (wh : Bool) (v : Value) (hD : Doc M B w d s wh v) (k : Int) (y : Bool) (m : Nat) (t : ByteArray) (c : Int) (X : Value)
    (hO : ∀ w, Calls Try.prog 37 #[evV ⟨k, y, m, t, c⟩] w fun r w' => r = .returned (.tuple #[X, .bool false]) ∧ Below w.heap.size w w') :
    Calls Try.prog 21 #[.pointer (some ⟨d, 0, none⟩), evV ⟨k, y, m, t, c⟩] w fun r w' => r = .returned (.int .i64 2) ∧ Below B w w' := by
  have HO := Lib.hid hO
  clear hO
  simp only [evV] at HO ⊢
  obtain ⟨a, cap, rfl, _, _⟩ := hD.win.slice_form
  go_enter Try.func21, Try.ntmps21
  go_wp2_with fail
  refine (HO.out _).mono ?_
  rintro e w1 ⟨rfl, hb⟩
  have D1 := Lib.hid ((hD.go (up_alloc (Below.refl _ _) _)).go hb)
  obtain ⟨⟨e0, e1, e2, e3, e4⟩, _⟩ := ((blk_new w _ _).go hb).ev
  have B1 := Lib.hid ((up_trans (up_alloc (Below.refl _ _) _) hb).mono hD.lt)
  have k0 := D1.out.own.cell 0
  have k1 := D1.out.own.cell 1
  clear hb hD
  go_wp2
  go_ret
  exact ⟨rfl, B1.out⟩
theorem take_over (M B : Nat) (w : World) (d : Nat) (s : List Bx) (v : Value) (hD : Doc M B w d s true v) (k : Int) (y : Bool) (m : Nat) (t : ByteArray) (c : Int) (X : Value)
    (hO : ∀ w, Calls Try.prog 37 #[evV ⟨k, y, m, t, c⟩] w fun r w' => r = .returned (.tuple #[X, .bool true]) ∧ Below w.heap.size w w') :
    Calls Try.prog 21 #[.pointer (some ⟨d, 0, none⟩), evV ⟨k, y, m, t, c⟩] w fun r w' => r = .returned (.int .i64 2) ∧ Below B w w' := by
  have HO := Lib.hid hO
  clear hO
  simp only [evV] at HO ⊢
  obtain ⟨a, cap, rfl, _, _⟩ := hD.win.slice_form
  go_enter Try.func21, Try.ntmps21
  go_wp2_with fail
  refine (HO.out _).mono ?_
  rintro e w1 ⟨rfl, hb⟩
  have D1 := Lib.hid ((hD.go (up_alloc (Below.refl _ _) _)).go hb)
  obtain ⟨⟨e0, e1, e2, e3, e4⟩, _⟩ := ((blk_new w _ _).go hb).ev
  have B1 := Lib.hid ((up_trans (up_alloc (Below.refl _ _) _) hb).mono hD.lt)
  have k0 := D1.out.own.cell 0
  have k1 := D1.out.own.cell 1
  clear hb hD
  go_wp2
  go_ret
  exact ⟨rfl, B1.out⟩
/-- The end of a container, by what end makes of it. -/
theorem takes_end (M B : Nat) (w : World) (d : Nat) (s : List Bx) (v : Value) (hD : Doc M B w d s false v) (y : Bool) (m : Nat) (t : ByteArray) (c : Int) (X : Value)
    (hO : ∀ w, Calls Try.prog 37 #[evV ⟨7, y, m, t, c⟩] w fun r w' => r = .returned (.tuple #[X, .bool true]) ∧ Below w.heap.size w w') (f : Int) (R : World → Prop)
    (hE : ∀ w1, Below w.heap.size w w1 → Calls Try.prog 38 #[.pointer (some ⟨d, 0, none⟩)] w1 fun r w' => r = .returned (.int .i64 f) ∧ Below B w1 w' ∧ R w') :
    Calls Try.prog 21 #[.pointer (some ⟨d, 0, none⟩), evV ⟨7, y, m, t, c⟩] w fun r w' => r = .returned (.int .i64 f) ∧ Below B w w' ∧ R w' := by
  have HO := Lib.hid hO
  clear hO
  simp only [evV] at HO ⊢
  have HE := Lib.hid hE
  clear hE
  obtain ⟨a, cap, rfl, _, _⟩ := hD.win.slice_form
  go_enter Try.func21, Try.ntmps21
  go_wp2_with fail
  refine (HO.out _).mono ?_
  rintro e w1 ⟨rfl, hb⟩
  have D1 := Lib.hid ((hD.go (up_alloc (Below.refl _ _) _)).go hb)
  obtain ⟨⟨e0, e1, e2, e3, e4⟩, _⟩ := ((blk_new w _ _).go hb).ev
  have B1 := Lib.hid ((up_trans (up_alloc (Below.refl _ _) _) hb).mono hD.lt)
  have L1 := Lib.hid (up_trans (up_alloc (Below.refl _ _) _) hb)
  have k0 := D1.out.own.cell 0
  have k1 := D1.out.own.cell 1
  clear hb hD
  go_wp2_with fail
  refine (HE.out _ L1.out).mono ?_
  rintro e w2 ⟨rfl, hb, hR⟩
  have B2 := Lib.hid (B1.out.trans hb)
  have R2 := Lib.hid hR
  clear hb hR
  go_wp2
  go_ret
  exact ⟨rfl, B2.out, R2.out⟩
/-- Where a key must be, and none comes. -/
theorem take_key (M B : Nat) (w : World) (d : Nat) (s : List Bx) (v : Value) (hD : Doc M B w d s false v) (k : Int) (y : Bool) (m : Nat) (t : ByteArray) (c : Int) (X : Value)
    (hO : ∀ w, Calls Try.prog 37 #[evV ⟨k, y, m, t, c⟩] w fun r w' => r = .returned (.tuple #[X, .bool true]) ∧ Below w.heap.size w w') (h7 : k ≠ 7) (h3 : k ≠ 3) (hk : keyB s = true) :
    Calls Try.prog 21 #[.pointer (some ⟨d, 0, none⟩), evV ⟨k, y, m, t, c⟩] w fun r w' => r = .returned (.int .i64 8) ∧ Below B w w' := by
  have HO := Lib.hid hO
  clear hO
  simp only [evV] at HO ⊢
  have q7 : (k == 7) = false := by simpa using h7
  have q3 : (k != 3) = true := by simpa using h3
  clear h7 h3
  obtain ⟨a, cap, rfl, _, _⟩ := hD.win.slice_form
  go_enter Try.func21, Try.ntmps21
  go_wp2_with fail
  refine (HO.out _).mono ?_
  rintro e w1 ⟨rfl, hb⟩
  have D1 := Lib.hid ((hD.go (up_alloc (Below.refl _ _) _)).go hb)
  obtain ⟨⟨e0, e1, e2, e3, e4⟩, _⟩ := ((blk_new w _ _).go hb).ev
  have B1 := Lib.hid ((up_trans (up_alloc (Below.refl _ _) _) hb).mono hD.lt)
  have k0 := D1.out.own.cell 0
  have k1 := D1.out.own.cell 1
  clear hb hD
  have HK := Lib.hid (at_key M B w1 d s false _ D1.out)
  simp only [hk] at HK
  go_wp2_with fail
  refine HK.out.mono ?_
  rintro e w2 ⟨rfl, rfl⟩
  go_wp2
  go_ret
  exact ⟨rfl, B1.out⟩
theorem take_text_nil (M B : Nat) (w : World) (d : Nat) (v : Value) (hD : Doc M B w d [] false v) (y : Bool) (m : Nat) (t : ByteArray) (c : Int) (X : Value)
    (hO : ∀ w, Calls Try.prog 37 #[evV ⟨3, y, m, t, c⟩] w fun r w' => r = .returned (.tuple #[X, .bool true]) ∧ Below w.heap.size w w') (hM : M + 1 ≤ 1000) :
    Calls Try.prog 21 #[.pointer (some ⟨d, 0, none⟩), evV ⟨3, y, m, t, c⟩] w fun r w' => r = .returned (.int .i64 0) ∧ Below B w w' ∧ CkAt (M + 1) B w' d .done := by
  have HO := Lib.hid hO
  clear hO
  simp only [evV] at HO ⊢
  obtain ⟨a, cap, rfl, _, _⟩ := hD.win.slice_form
  have HM := Lib.hid hM
  clear hM
  go_enter Try.func21, Try.ntmps21
  go_wp2_with fail
  refine (HO.out _).mono ?_
  rintro e w1 ⟨rfl, hb⟩
  have D1 := Lib.hid ((hD.go (up_alloc (Below.refl _ _) _)).go hb)
  obtain ⟨⟨e0, e1, e2, e3, e4⟩, _⟩ := ((blk_new w _ _).go hb).ev
  have B1 := Lib.hid ((up_trans (up_alloc (Below.refl _ _) _) hb).mono hD.lt)
  have k0 := D1.out.own.cell 0
  have k1 := D1.out.own.cell 1
  have z1 := D1.out.own.froz 1
  clear hb hD
  go_wp2
  go_ret
  exact ⟨rfl, B1.out.setCell D1.out.dB _, _, D1.out.own.set 1 _, D1.out.win.setCell_far D1.out.apart _, D1.out.dB, D1.out.vB, (fun _ h => by cases h), (by simp), HM.out⟩
set_option maxHeartbeats 1000000 in
theorem take_text_in (M B : Nat) (w : World) (d : Nat) (b : Bx) (l : List Bx) (v : Value) (hD : Doc M B w d (b :: l) false v) (y : Bool) (m : Nat) (t : ByteArray) (c : Int) (X : Value)
    (hO : ∀ w, Calls Try.prog 37 #[evV ⟨3, y, m, t, c⟩] w fun r w' => r = .returned (.tuple #[X, .bool true]) ∧ Below w.heap.size w w') (hM : M + 1 ≤ 1000) :
    Calls Try.prog 21 #[.pointer (some ⟨d, 0, none⟩), evV ⟨3, y, m, t, c⟩] w fun r w' => r = .returned (.int .i64 0) ∧ Below B w w' ∧ CkAt (M + 1) B w' d (.live (incB (b :: l))) := by
  have HO := Lib.hid hO
  clear hO
  simp only [evV] at HO ⊢
  obtain ⟨g, off, N, cap, rfl, hN, hN2, hx, hy⟩ := hD.last
  clear hx hy
  have hl : (N : Int) - 1 = (l.length : Int) := by omega
  have hl3 : l.length < N := by omega
  have hl4 : ((N : Int) == 0) = false := by rw [beq_eq_false_iff_ne]; omega
  have hl5 : (0 < (N : Int)) = True := by simp; omega
  have hq : (b.have_ : Int) ≤ 1000 := by have := Nat.le_trans (hD.ok b (by simp)).2 hD.most; omega
  have HM := Lib.hid hM
  have HN := Lib.hid hN
  clear hM hN
  go_enter Try.func21, Try.ntmps21
  go_wp2_with fail
  refine (HO.out _).mono ?_
  rintro e w1 ⟨rfl, hb⟩
  have D1 := Lib.hid ((hD.go (up_alloc (Below.refl _ _) _)).go hb)
  obtain ⟨⟨e0, e1, e2, e3, e4⟩, _⟩ := ((blk_new w _ _).go hb).ev
  have B1 := Lib.hid ((up_trans (up_alloc (Below.refl _ _) _) hb).mono hD.lt)
  have k0 := D1.out.own.cell 0
  have k1 := D1.out.own.cell 1
  obtain ⟨_, _, _, _, hv, hNa, hNb, ⟨x0, x1, x2⟩, ⟨y0, y1, y2⟩⟩ := D1.out.last
  simp only [Value.slice.injEq, Option.some.injEq, Addr.mk.injEq, and_true] at hv
  obtain ⟨⟨rfl, rfl⟩, rfl, rfl⟩ := hv
  obtain ⟨i1, i2, i3⟩ := D1.out.inc HM.out HN.out
  have I1 := Lib.hid i1
  have I2 := Lib.hid i2
  have I3 := Lib.hid i3
  have j0 := I1.out.own.cell 0
  have z0 := I1.out.own.froz 0
  have j1 := I1.out.own.cell 1
  have z1 := I1.out.own.froz 1
  clear i1 i2 i3 hb hNa hNb hD
  obtain ⟨m', c', q⟩ := b
  simp only at *
  generalize hn : l.length = n at *
  have Hn := Lib.hid hn
  clear hn
  go_wp2
  go_ret
  exact ⟨rfl, (B1.out.setCell I3.out _).setCell D1.out.dB _, _, I1.out.own.set 1 _, I1.out.win.setCell_far I1.out.apart _, I1.out.dB, I1.out.vB, I1.out.ok, I1.out.deep, I1.out.most⟩
theorem take_other_nil (M B : Nat) (w : World) (d : Nat) (v : Value) (hD : Doc M B w d [] false v) (k : Int) (y : Bool) (m : Nat) (t : ByteArray) (c : Int) (X : Value)
    (hO : ∀ w, Calls Try.prog 37 #[evV ⟨k, y, m, t, c⟩] w fun r w' => r = .returned (.tuple #[X, .bool true]) ∧ Below w.heap.size w w') (h7 : k ≠ 7) (h3 : k ≠ 3) (h5 : k ≠ 5) (h6 : k ≠ 6) (hk : keyB [] = false) (hM : M + 1 ≤ 1000) :
    Calls Try.prog 21 #[.pointer (some ⟨d, 0, none⟩), evV ⟨k, y, m, t, c⟩] w fun r w' => r = .returned (.int .i64 0) ∧ Below B w w' ∧ CkAt (M + 1) B w' d .done := by
  have HO := Lib.hid hO
  clear hO
  simp only [evV] at HO ⊢
  have q7 : (k == 7) = false := by simpa using h7
  have q3 : (k != 3) = true := by simpa using h3
  have q5 : (k == 5) = false := by simpa using h5
  have q6 : (k == 6) = false := by simpa using h6
  clear h7 h3 h5 h6
  obtain ⟨a, cap, rfl, _, _⟩ := hD.win.slice_form
  have HM := Lib.hid hM
  clear hM
  go_enter Try.func21, Try.ntmps21
  go_wp2_with fail
  refine (HO.out _).mono ?_
  rintro e w1 ⟨rfl, hb⟩
  have D1 := Lib.hid ((hD.go (up_alloc (Below.refl _ _) _)).go hb)
  obtain ⟨⟨e0, e1, e2, e3, e4⟩, _⟩ := ((blk_new w _ _).go hb).ev
  have B1 := Lib.hid ((up_trans (up_alloc (Below.refl _ _) _) hb).mono hD.lt)
  have k0 := D1.out.own.cell 0
  have k1 := D1.out.own.cell 1
  have z1 := D1.out.own.froz 1
  clear hb hD
  have HK := Lib.hid (at_key M B w1 d [] false _ D1.out)
  simp only [hk] at HK
  go_wp2_with fail
  refine HK.out.mono ?_
  rintro e w2 ⟨rfl, rfl⟩
  go_wp2
  go_ret
  exact ⟨rfl, B1.out.setCell D1.out.dB _, _, D1.out.own.set 1 _, D1.out.win.setCell_far D1.out.apart _, D1.out.dB, D1.out.vB, (fun _ h => by cases h), (by simp), HM.out⟩
set_option maxHeartbeats 1000000 in
theorem take_other_in (M B : Nat) (w : World) (d : Nat) (b : Bx) (l : List Bx) (v : Value) (hD : Doc M B w d (b :: l) false v) (k : Int) (y : Bool) (m : Nat) (t : ByteArray) (c : Int) (X : Value)
    (hO : ∀ w, Calls Try.prog 37 #[evV ⟨k, y, m, t, c⟩] w fun r w' => r = .returned (.tuple #[X, .bool true]) ∧ Below w.heap.size w w') (h7 : k ≠ 7) (h3 : k ≠ 3) (h5 : k ≠ 5) (h6 : k ≠ 6) (hk : keyB (b :: l) = false) (hM : M + 1 ≤ 1000) :
    Calls Try.prog 21 #[.pointer (some ⟨d, 0, none⟩), evV ⟨k, y, m, t, c⟩] w fun r w' => r = .returned (.int .i64 0) ∧ Below B w w' ∧ CkAt (M + 1) B w' d (.live (incB (b :: l))) := by
  have HO := Lib.hid hO
  clear hO
  simp only [evV] at HO ⊢
  have q7 : (k == 7) = false := by simpa using h7
  have q3 : (k != 3) = true := by simpa using h3
  have q5 : (k == 5) = false := by simpa using h5
  have q6 : (k == 6) = false := by simpa using h6
  clear h7 h3 h5 h6
  obtain ⟨g, off, N, cap, rfl, hN, hN2, hx, hy⟩ := hD.last
  clear hx hy
  have hl : (N : Int) - 1 = (l.length : Int) := by omega
  have hl3 : l.length < N := by omega
  have hl4 : ((N : Int) == 0) = false := by rw [beq_eq_false_iff_ne]; omega
  have hl5 : (0 < (N : Int)) = True := by simp; omega
  have hq : (b.have_ : Int) ≤ 1000 := by have := Nat.le_trans (hD.ok b (by simp)).2 hD.most; omega
  have HM := Lib.hid hM
  have HN := Lib.hid hN
  clear hM hN
  go_enter Try.func21, Try.ntmps21
  go_wp2_with fail
  refine (HO.out _).mono ?_
  rintro e w1 ⟨rfl, hb⟩
  have D1 := Lib.hid ((hD.go (up_alloc (Below.refl _ _) _)).go hb)
  obtain ⟨⟨e0, e1, e2, e3, e4⟩, _⟩ := ((blk_new w _ _).go hb).ev
  have B1 := Lib.hid ((up_trans (up_alloc (Below.refl _ _) _) hb).mono hD.lt)
  have k0 := D1.out.own.cell 0
  have k1 := D1.out.own.cell 1
  obtain ⟨_, _, _, _, hv, hNa, hNb, ⟨x0, x1, x2⟩, ⟨y0, y1, y2⟩⟩ := D1.out.last
  simp only [Value.slice.injEq, Option.some.injEq, Addr.mk.injEq, and_true] at hv
  obtain ⟨⟨rfl, rfl⟩, rfl, rfl⟩ := hv
  obtain ⟨i1, i2, i3⟩ := D1.out.inc HM.out HN.out
  have I1 := Lib.hid i1
  have I2 := Lib.hid i2
  have I3 := Lib.hid i3
  have j0 := I1.out.own.cell 0
  have z0 := I1.out.own.froz 0
  have j1 := I1.out.own.cell 1
  have z1 := I1.out.own.froz 1
  clear i1 i2 i3 hb hNa hNb hD
  have HK := Lib.hid (at_key M B w1 d (b :: l) false _ D1.out)
  simp only [hk] at HK
  go_wp2_with fail
  refine HK.out.mono ?_
  rintro e w2 ⟨rfl, rfl⟩
  obtain ⟨m', c', q⟩ := b
  simp only at *
  clear hk
  generalize hn : l.length = n at *
  have Hn := Lib.hid hn
  clear hn
  go_wp2
  go_ret
  exact ⟨rfl, (B1.out.setCell I3.out _).setCell D1.out.dB _, _, I1.out.own.set 1 _, I1.out.win.setCell_far I1.out.apart _, I1.out.dB, I1.out.vB, I1.out.ok, I1.out.deep, I1.out.most⟩
theorem take_deep_5 (M B : Nat) (w : World) (d : Nat) (s : List Bx) (v : Value) (hD : Doc M B w d s false v) (y : Bool) (m : Nat) (t : ByteArray) (c : Int) (X : Value)
    (hO : ∀ w, Calls Try.prog 37 #[evV ⟨5, y, m, t, c⟩] w fun r w' => r = .returned (.tuple #[X, .bool true]) ∧ Below w.heap.size w w') (hk : keyB s = false) (hs : s.length = 16) :
    Calls Try.prog 21 #[.pointer (some ⟨d, 0, none⟩), evV ⟨5, y, m, t, c⟩] w fun r w' => r = .returned (.int .i64 4) ∧ Below B w w' := by
  have HO := Lib.hid hO
  clear hO
  simp only [evV] at HO ⊢
  obtain ⟨a, cap, rfl, _, _⟩ := hD.win.slice_form
  have hs2 : (((s.length : Nat) : Int) == 16) = true := by rw [hs]; rfl
  clear hs
  go_enter Try.func21, Try.ntmps21
  go_wp2_with fail
  refine (HO.out _).mono ?_
  rintro e w1 ⟨rfl, hb⟩
  have D1 := Lib.hid ((hD.go (up_alloc (Below.refl _ _) _)).go hb)
  obtain ⟨⟨e0, e1, e2, e3, e4⟩, _⟩ := ((blk_new w _ _).go hb).ev
  have B1 := Lib.hid ((up_trans (up_alloc (Below.refl _ _) _) hb).mono hD.lt)
  have k0 := D1.out.own.cell 0
  have k1 := D1.out.own.cell 1
  clear hb hD
  have HK := Lib.hid (at_key M B w1 d s false _ D1.out)
  simp only [hk] at HK
  go_wp2_with fail
  refine HK.out.mono ?_
  rintro e w2 ⟨rfl, rfl⟩
  go_wp2
  go_ret
  exact ⟨rfl, B1.out⟩
set_option maxHeartbeats 1000000 in
theorem take_open_5 (M B : Nat) (w : World) (d : Nat) (v : Value) (hD : Doc M B w d [] false v) (y : Bool) (m : Nat) (t : ByteArray) (c : Int) (X : Value)
    (hO : ∀ w, Calls Try.prog 37 #[evV ⟨5, y, m, t, c⟩] w fun r w' => r = .returned (.tuple #[X, .bool true]) ∧ Below w.heap.size w w') (hM : M + 1 ≤ 1000) (hc : -1 ≤ c ∧ c ≤ 9223372036854775807) :
    Calls Try.prog 21 #[.pointer (some ⟨d, 0, none⟩), evV ⟨5, y, m, t, c⟩] w fun r w' => r = .returned (.int .i64 0) ∧ Below B w w' ∧ CkAt (M + 1) B w' d (.live [⟨false, c, 0⟩]) := by
  have HO := Lib.hid hO
  clear hO
  simp only [evV] at HO ⊢
  obtain ⟨a, cap, rfl, _, _⟩ := hD.win.slice_form
  have HM := Lib.hid hM
  have HC := Lib.hid hc
  clear hM hc
  go_enter Try.func21, Try.ntmps21
  go_wp2_with fail
  refine (HO.out _).mono ?_
  rintro e w1 ⟨rfl, hb⟩
  have D1 := Lib.hid ((hD.go (up_alloc (Below.refl _ _) _)).go hb)
  obtain ⟨⟨e0, e1, e2, e3, e4⟩, _⟩ := ((blk_new w _ _).go hb).ev
  have B1 := Lib.hid ((up_trans (up_alloc (Below.refl _ _) _) hb).mono hD.lt)
  have k0 := D1.out.own.cell 0
  have k1 := D1.out.own.cell 1
  have E1 := Lib.hid ((blk_new w _ _).go hb)
  clear hb hD
  have HK := Lib.hid (at_key M B w1 d [] false _ D1.out)
  have hk : keyB [] = false := rfl
  simp only [hk] at HK
  go_wp2_with fail
  refine HK.out.mono ?_
  rintro e w2 ⟨rfl, rfl⟩
  clear HK hk
  go_wp2
  simp only [List.length_nil] at D1 k0 k1
  have DD := fun o => Lib.hid (Doc.drew (Doc.alloc D1.out o))
  have f0 : ∀ o, (w2.alloc o).cell? ⟨w.heap.size, 0, none⟩ = some (.int .i64 5) := fun o => (E1.out.alloc o).cell 0
  have f4 : ∀ o, (w2.alloc o).cell? ⟨w.heap.size, 4, none⟩ = some (.int .i64 c) := fun o => (E1.out.alloc o).cell 4
  have f5 : ∀ o, (w2.alloc o).cell? ⟨d, 0, none⟩ = some (.slice a 0 cap) := fun o => (D1.out.own.alloc o).cell 0
  go_region_law (first
    | (refine step_append_win rfl _ _ _ rfl Try.underlying60 info_box rfl rfl (DD _).out.win _ rfl 1 _ (src_new _ Try.underlying60 3 1 (bxL ⟨false, c, 0⟩) 99 _ rfl (bxsL_one [⟨false, c, 0⟩]) (heap_alloc_new w2 _)) (by unfold maxLen; simp) (by simp) ?_; intro v3 w3 hW3 hG3 hO3; obtain ⟨a3, c3, rfl, _, _⟩ := Win.slice_form hW3.out; have O3 := (DD _).out.own.lift hG3.out (fun e => D1.out.apart ((ob_iff _ _).1 e)); have g0 := O3.cell 0; have g1 := O3.froz 0; have g2 := O3.cell 1; have g3 := O3.froz 1; clear O3; have HP := Lib.hid ((DD _).out.push ⟨false, c, 0⟩ HC.out rfl (by simp) rfl hW3.out hG3.out hO3.out); clear hW3 hG3 hO3))
  all_goals
    simp only [List.length_nil, Nat.zero_add] at HP
    go_wp2
    go_ret
    have DU := HP.out.1.up HM.out
    exact ⟨rfl, (B1.out.trans ((below_drw ((Below.refl B w2).alloc D1.out.lt _)).trans HP.out.2)).setCell D1.out.dB _, _, DU.own.set 1 _, DU.win.setCell_far DU.apart _, DU.dB, DU.vB, DU.ok, DU.deep, DU.most⟩
theorem take_deep_6 (M B : Nat) (w : World) (d : Nat) (s : List Bx) (v : Value) (hD : Doc M B w d s false v) (y : Bool) (m : Nat) (t : ByteArray) (c : Int) (X : Value)
    (hO : ∀ w, Calls Try.prog 37 #[evV ⟨6, y, m, t, c⟩] w fun r w' => r = .returned (.tuple #[X, .bool true]) ∧ Below w.heap.size w w') (hk : keyB s = false) (hs : s.length = 16) :
    Calls Try.prog 21 #[.pointer (some ⟨d, 0, none⟩), evV ⟨6, y, m, t, c⟩] w fun r w' => r = .returned (.int .i64 4) ∧ Below B w w' := by
  have HO := Lib.hid hO
  clear hO
  simp only [evV] at HO ⊢
  obtain ⟨a, cap, rfl, _, _⟩ := hD.win.slice_form
  have hs2 : (((s.length : Nat) : Int) == 16) = true := by rw [hs]; rfl
  clear hs
  go_enter Try.func21, Try.ntmps21
  go_wp2_with fail
  refine (HO.out _).mono ?_
  rintro e w1 ⟨rfl, hb⟩
  have D1 := Lib.hid ((hD.go (up_alloc (Below.refl _ _) _)).go hb)
  obtain ⟨⟨e0, e1, e2, e3, e4⟩, _⟩ := ((blk_new w _ _).go hb).ev
  have B1 := Lib.hid ((up_trans (up_alloc (Below.refl _ _) _) hb).mono hD.lt)
  have k0 := D1.out.own.cell 0
  have k1 := D1.out.own.cell 1
  clear hb hD
  have HK := Lib.hid (at_key M B w1 d s false _ D1.out)
  simp only [hk] at HK
  go_wp2_with fail
  refine HK.out.mono ?_
  rintro e w2 ⟨rfl, rfl⟩
  go_wp2
  go_ret
  exact ⟨rfl, B1.out⟩
set_option maxHeartbeats 1000000 in
theorem take_open_6 (M B : Nat) (w : World) (d : Nat) (v : Value) (hD : Doc M B w d [] false v) (y : Bool) (m : Nat) (t : ByteArray) (c : Int) (X : Value)
    (hO : ∀ w, Calls Try.prog 37 #[evV ⟨6, y, m, t, c⟩] w fun r w' => r = .returned (.tuple #[X, .bool true]) ∧ Below w.heap.size w w') (hM : M + 1 ≤ 1000) (hc : -1 ≤ c ∧ c ≤ 9223372036854775807) :
    Calls Try.prog 21 #[.pointer (some ⟨d, 0, none⟩), evV ⟨6, y, m, t, c⟩] w fun r w' => r = .returned (.int .i64 0) ∧ Below B w w' ∧ CkAt (M + 1) B w' d (.live [⟨true, c, 0⟩]) := by
  have HO := Lib.hid hO
  clear hO
  simp only [evV] at HO ⊢
  obtain ⟨a, cap, rfl, _, _⟩ := hD.win.slice_form
  have HM := Lib.hid hM
  have HC := Lib.hid hc
  clear hM hc
  go_enter Try.func21, Try.ntmps21
  go_wp2_with fail
  refine (HO.out _).mono ?_
  rintro e w1 ⟨rfl, hb⟩
  have D1 := Lib.hid ((hD.go (up_alloc (Below.refl _ _) _)).go hb)
  obtain ⟨⟨e0, e1, e2, e3, e4⟩, _⟩ := ((blk_new w _ _).go hb).ev
  have B1 := Lib.hid ((up_trans (up_alloc (Below.refl _ _) _) hb).mono hD.lt)
  have k0 := D1.out.own.cell 0
  have k1 := D1.out.own.cell 1
  have E1 := Lib.hid ((blk_new w _ _).go hb)
  clear hb hD
  have HK := Lib.hid (at_key M B w1 d [] false _ D1.out)
  have hk : keyB [] = false := rfl
  simp only [hk] at HK
  go_wp2_with fail
  refine HK.out.mono ?_
  rintro e w2 ⟨rfl, rfl⟩
  clear HK hk
  go_wp2
  simp only [List.length_nil] at D1 k0 k1
  have DD := fun o => Lib.hid (Doc.drew (Doc.alloc D1.out o))
  have f0 : ∀ o, (w2.alloc o).cell? ⟨w.heap.size, 0, none⟩ = some (.int .i64 6) := fun o => (E1.out.alloc o).cell 0
  have f4 : ∀ o, (w2.alloc o).cell? ⟨w.heap.size, 4, none⟩ = some (.int .i64 c) := fun o => (E1.out.alloc o).cell 4
  have f5 : ∀ o, (w2.alloc o).cell? ⟨d, 0, none⟩ = some (.slice a 0 cap) := fun o => (D1.out.own.alloc o).cell 0
  go_region_law (first
    | (refine step_append_win rfl _ _ _ rfl Try.underlying60 info_box rfl rfl (DD _).out.win _ rfl 1 _ (src_new _ Try.underlying60 3 1 (bxL ⟨true, c, 0⟩) 99 _ rfl (bxsL_one [⟨true, c, 0⟩]) (heap_alloc_new w2 _)) (by unfold maxLen; simp) (by simp) ?_; intro v3 w3 hW3 hG3 hO3; obtain ⟨a3, c3, rfl, _, _⟩ := Win.slice_form hW3.out; have O3 := (DD _).out.own.lift hG3.out (fun e => D1.out.apart ((ob_iff _ _).1 e)); have g0 := O3.cell 0; have g1 := O3.froz 0; have g2 := O3.cell 1; have g3 := O3.froz 1; clear O3; have HP := Lib.hid ((DD _).out.push ⟨true, c, 0⟩ HC.out rfl (by simp) rfl hW3.out hG3.out hO3.out); clear hW3 hG3 hO3))
  all_goals
    simp only [List.length_nil, Nat.zero_add] at HP
    go_wp2
    go_ret
    have DU := HP.out.1.up HM.out
    exact ⟨rfl, (B1.out.trans ((below_drw ((Below.refl B w2).alloc D1.out.lt _)).trans HP.out.2)).setCell D1.out.dB _, _, DU.own.set 1 _, DU.win.setCell_far DU.apart _, DU.dB, DU.vB, DU.ok, DU.deep, DU.most⟩
end Go.Proofs.Ytacngbngljfedaa
/-
  CONTRACT of package event's take: a container within one.
-/
namespace Go.Proofs.Ytacngbngljfedaa
open Go.RowKit
open Go.Lib
set_option maxHeartbeats 1000000 in
theorem take_more_5 (M B : Nat) (w : World) (d : Nat) (b : Bx) (l : List Bx) (v : Value) (hD : Doc M B w d (b :: l) false v) (y : Bool) (m : Nat) (t : ByteArray) (c : Int) (X : Value)
    (hO : ∀ w, Calls Try.prog 37 #[evV ⟨5, y, m, t, c⟩] w fun r w' => r = .returned (.tuple #[X, .bool true]) ∧ Below w.heap.size w w') (hM : M + 1 ≤ 1000) (hc : -1 ≤ c ∧ c ≤ 9223372036854775807) (hk : keyB (b :: l) = false) (hs : l.length + 1 < 16) :
    Calls Try.prog 21 #[.pointer (some ⟨d, 0, none⟩), evV ⟨5, y, m, t, c⟩] w fun r w' => r = .returned (.int .i64 0) ∧ Below B w w' ∧ CkAt (M + 1) B w' d (.live (⟨false, c, 0⟩ :: incB (b :: l))) := by
  have HO := Lib.hid hO
  clear hO
  simp only [evV] at HO ⊢
  obtain ⟨g, off, N, cap, rfl, hN, hN2, hx, hy⟩ := hD.last
  clear hx hy
  have hgw : w.heap.size ≠ g := fun e => by have := hD.win.lt g (by simp [Value.owner]); omega
  have hl : (N : Int) - 1 = (l.length : Int) := by omega
  have hl3 : l.length < N := by omega
  have hl4 : ((N : Int) == 16) = false := by rw [beq_eq_false_iff_ne]; omega
  have hl6 : ((N : Int) + 1 == 0) = false := by rw [beq_eq_false_iff_ne]; omega
  have hl5 : (0 < (N : Int)) = True := by simp; omega
  have hq : (b.have_ : Int) ≤ 1000 := by have := Nat.le_trans (hD.ok b (by simp)).2 hD.most; omega
  have hNs : N ≤ 15 := by omega
  obtain ⟨S, hS⟩ : ∃ S, S = incB (b :: l) := ⟨_, rfl⟩
  rw [← hS]
  have hin : S.length = N := by rw [hS, hN]; rfl
  have Hin := Lib.hid hin
  have HSS := Lib.hid hS
  clear hin hS
  have HN := Lib.hid hN
  have HM := Lib.hid hM
  have HC := Lib.hid hc
  have HG := Lib.hid hgw
  clear hM hc hN hgw hs
  go_enter Try.func21, Try.ntmps21
  go_wp2_with fail
  refine (HO.out _).mono ?_
  rintro e w1 ⟨rfl, hb⟩
  have D1 := Lib.hid ((hD.go (up_alloc (Below.refl _ _) _)).go hb)
  obtain ⟨⟨e0, e1, e2, e3, e4⟩, _⟩ := ((blk_new w _ _).go hb).ev
  have B1 := Lib.hid ((up_trans (up_alloc (Below.refl _ _) _) hb).mono hD.lt)
  have k0 := D1.out.own.cell 0
  have k1 := D1.out.own.cell 1
  have E1 := Lib.hid ((blk_new w _ _).go hb)
  obtain ⟨_, _, _, _, hv, hNa, hNb, ⟨x0, x1, x2⟩, ⟨y0, y1, y2⟩⟩ := D1.out.last
  simp only [Value.slice.injEq, Option.some.injEq, Addr.mk.injEq, and_true] at hv
  obtain ⟨⟨rfl, rfl⟩, rfl, rfl⟩ := hv
  obtain ⟨i1, i2, i3⟩ := D1.out.inc HM.out HN.out
  rw [← HSS.out] at i1
  have I1 := Lib.hid i1
  have I2 := Lib.hid i2
  have I3 := Lib.hid i3
  clear i1 i2 i3 hNa hNb hb hD
  have HK := Lib.hid (at_key M B w1 d (b :: l) false _ D1.out)
  simp only [hk] at HK
  go_wp2_with fail
  refine HK.out.mono ?_
  rintro e w2 ⟨rfl, rfl⟩
  clear HK hk
  have E2 : Hid (Blk (w2.setCell ⟨g, off + l.length * 3 + 2, none⟩ (.int .i64 ((b.have_ : Int) + 1))) w.heap.size _ _) := Lib.hid (E1.out.far HG.out _)
  have B2 : Hid (Below B w2 (w2.setCell ⟨g, off + l.length * 3 + 2, none⟩ (.int .i64 ((b.have_ : Int) + 1)))) := Lib.hid ((Below.refl B w2).setCell I3.out _)
  obtain ⟨m', c', q⟩ := b
  simp only at *
  generalize hn : l.length = n at *
  have Hn := Lib.hid hn
  clear hn
  go_wp2
  clear x0 x1 x2 y0 y1 y2 e0 e1 e2 e3 e4 k0 k1 hl hl3 hq E1
  generalize w2.setCell ⟨g, off + n * 3 + 2, none⟩ (.int .i64 ((q : Int) + 1)) = W at E2 B2 I1 ⊢
  have WN : Hid (Win W 99 3 (.slice (some ⟨g, off, none⟩) N cap) N (bxsL S)) := Lib.hid (by have h := I1.out.win; rw [Hin.out] at h; exact h)
  have DD := fun o => Lib.hid (Doc.drew (Doc.alloc I1.out o))
  have WD : ∀ o, Hid (Win (W.alloc o).drew 99 3 (.slice (some ⟨g, off, none⟩) N cap) N (bxsL S)) := fun o => Lib.hid (WN.out.alloc o)
  have f0 : ∀ o, (W.alloc o).cell? ⟨w.heap.size, 0, none⟩ = some (.int .i64 5) := fun o => (E2.out.alloc o).cell 0
  have f4 : ∀ o, (W.alloc o).cell? ⟨w.heap.size, 4, none⟩ = some (.int .i64 c) := fun o => (E2.out.alloc o).cell 4
  have f5 : ∀ o, (W.alloc o).cell? ⟨d, 0, none⟩ = some (.slice (some ⟨g, off, none⟩) N cap) := fun o => (I1.out.own.alloc o).cell 0
  have h0 : W.cell? ⟨w.heap.size, 0, none⟩ = some (.int .i64 5) := E2.out.cell 0
  have h4 : W.cell? ⟨w.heap.size, 4, none⟩ = some (.int .i64 c) := E2.out.cell 4
  have h5 : W.cell? ⟨d, 0, none⟩ = some (.slice (some ⟨g, off, none⟩) N cap) := I1.out.own.cell 0
  go_region_law (first
    | (refine step_append_win rfl _ _ _ rfl Try.underlying60 info_box rfl rfl (WD _).out _ rfl 1 _ (src_new _ Try.underlying60 3 1 (bxL ⟨false, c, 0⟩) 99 _ rfl (bxsL_one [⟨false, c, 0⟩]) (heap_alloc_new W _)) (by unfold maxLen; omega) (by omega) ?_; intro v3 w3 hW3 hG3 hO3; obtain ⟨a3, c3, rfl, _, _⟩ := Win.slice_form hW3.out; have O3 := (DD _).out.own.lift hG3.out (fun e => I1.out.apart ((ob_iff _ _).1 e)); have g0 := O3.cell 0; have g1 := O3.froz 0; have g2 := O3.cell 1; have g3 := O3.froz 1; clear O3; have HP := Lib.hid ((DD _).out.push ⟨false, c, 0⟩ HC.out rfl (by have := Hin.out; omega) Hin.out.symm hW3.out hG3.out hO3.out); clear hW3 hG3 hO3))
  all_goals
    go_wp2
    go_ret
    have DU := HP.out.1
    exact ⟨rfl, (B1.out.trans (B2.out.trans ((below_drw ((Below.refl B W).alloc I1.out.lt _)).trans HP.out.2))).setCell I1.out.dB _, _, DU.own.set 1 _, DU.win.setCell_far DU.apart _, DU.dB, DU.vB, DU.ok, DU.deep, DU.most⟩
set_option maxHeartbeats 1000000 in
theorem take_more_6 (M B : Nat) (w : World) (d : Nat) (b : Bx) (l : List Bx) (v : Value) (hD : Doc M B w d (b :: l) false v) (y : Bool) (m : Nat) (t : ByteArray) (c : Int) (X : Value)
    (hO : ∀ w, Calls Try.prog 37 #[evV ⟨6, y, m, t, c⟩] w fun r w' => r = .returned (.tuple #[X, .bool true]) ∧ Below w.heap.size w w') (hM : M + 1 ≤ 1000) (hc : -1 ≤ c ∧ c ≤ 9223372036854775807) (hk : keyB (b :: l) = false) (hs : l.length + 1 < 16) :
    Calls Try.prog 21 #[.pointer (some ⟨d, 0, none⟩), evV ⟨6, y, m, t, c⟩] w fun r w' => r = .returned (.int .i64 0) ∧ Below B w w' ∧ CkAt (M + 1) B w' d (.live (⟨true, c, 0⟩ :: incB (b :: l))) := by
  have HO := Lib.hid hO
  clear hO
  simp only [evV] at HO ⊢
  obtain ⟨g, off, N, cap, rfl, hN, hN2, hx, hy⟩ := hD.last
  clear hx hy
  have hgw : w.heap.size ≠ g := fun e => by have := hD.win.lt g (by simp [Value.owner]); omega
  have hl : (N : Int) - 1 = (l.length : Int) := by omega
  have hl3 : l.length < N := by omega
  have hl4 : ((N : Int) == 16) = false := by rw [beq_eq_false_iff_ne]; omega
  have hl6 : ((N : Int) + 1 == 0) = false := by rw [beq_eq_false_iff_ne]; omega
  have hl5 : (0 < (N : Int)) = True := by simp; omega
  have hq : (b.have_ : Int) ≤ 1000 := by have := Nat.le_trans (hD.ok b (by simp)).2 hD.most; omega
  have hNs : N ≤ 15 := by omega
  obtain ⟨S, hS⟩ : ∃ S, S = incB (b :: l) := ⟨_, rfl⟩
  rw [← hS]
  have hin : S.length = N := by rw [hS, hN]; rfl
  have Hin := Lib.hid hin
  have HSS := Lib.hid hS
  clear hin hS
  have HN := Lib.hid hN
  have HM := Lib.hid hM
  have HC := Lib.hid hc
  have HG := Lib.hid hgw
  clear hM hc hN hgw hs
  go_enter Try.func21, Try.ntmps21
  go_wp2_with fail
  refine (HO.out _).mono ?_
  rintro e w1 ⟨rfl, hb⟩
  have D1 := Lib.hid ((hD.go (up_alloc (Below.refl _ _) _)).go hb)
  obtain ⟨⟨e0, e1, e2, e3, e4⟩, _⟩ := ((blk_new w _ _).go hb).ev
  have B1 := Lib.hid ((up_trans (up_alloc (Below.refl _ _) _) hb).mono hD.lt)
  have k0 := D1.out.own.cell 0
  have k1 := D1.out.own.cell 1
  have E1 := Lib.hid ((blk_new w _ _).go hb)
  obtain ⟨_, _, _, _, hv, hNa, hNb, ⟨x0, x1, x2⟩, ⟨y0, y1, y2⟩⟩ := D1.out.last
  simp only [Value.slice.injEq, Option.some.injEq, Addr.mk.injEq, and_true] at hv
  obtain ⟨⟨rfl, rfl⟩, rfl, rfl⟩ := hv
  obtain ⟨i1, i2, i3⟩ := D1.out.inc HM.out HN.out
  rw [← HSS.out] at i1
  have I1 := Lib.hid i1
  have I2 := Lib.hid i2
  have I3 := Lib.hid i3
  clear i1 i2 i3 hNa hNb hb hD
  have HK := Lib.hid (at_key M B w1 d (b :: l) false _ D1.out)
  simp only [hk] at HK
  go_wp2_with fail
  refine HK.out.mono ?_
  rintro e w2 ⟨rfl, rfl⟩
  clear HK hk
  have E2 : Hid (Blk (w2.setCell ⟨g, off + l.length * 3 + 2, none⟩ (.int .i64 ((b.have_ : Int) + 1))) w.heap.size _ _) := Lib.hid (E1.out.far HG.out _)
  have B2 : Hid (Below B w2 (w2.setCell ⟨g, off + l.length * 3 + 2, none⟩ (.int .i64 ((b.have_ : Int) + 1)))) := Lib.hid ((Below.refl B w2).setCell I3.out _)
  obtain ⟨m', c', q⟩ := b
  simp only at *
  generalize hn : l.length = n at *
  have Hn := Lib.hid hn
  clear hn
  go_wp2
  clear x0 x1 x2 y0 y1 y2 e0 e1 e2 e3 e4 k0 k1 hl hl3 hq E1
  generalize w2.setCell ⟨g, off + n * 3 + 2, none⟩ (.int .i64 ((q : Int) + 1)) = W at E2 B2 I1 ⊢
  have WN : Hid (Win W 99 3 (.slice (some ⟨g, off, none⟩) N cap) N (bxsL S)) := Lib.hid (by have h := I1.out.win; rw [Hin.out] at h; exact h)
  have DD := fun o => Lib.hid (Doc.drew (Doc.alloc I1.out o))
  have WD : ∀ o, Hid (Win (W.alloc o).drew 99 3 (.slice (some ⟨g, off, none⟩) N cap) N (bxsL S)) := fun o => Lib.hid (WN.out.alloc o)
  have f0 : ∀ o, (W.alloc o).cell? ⟨w.heap.size, 0, none⟩ = some (.int .i64 6) := fun o => (E2.out.alloc o).cell 0
  have f4 : ∀ o, (W.alloc o).cell? ⟨w.heap.size, 4, none⟩ = some (.int .i64 c) := fun o => (E2.out.alloc o).cell 4
  have f5 : ∀ o, (W.alloc o).cell? ⟨d, 0, none⟩ = some (.slice (some ⟨g, off, none⟩) N cap) := fun o => (I1.out.own.alloc o).cell 0
  have h0 : W.cell? ⟨w.heap.size, 0, none⟩ = some (.int .i64 6) := E2.out.cell 0
  have h4 : W.cell? ⟨w.heap.size, 4, none⟩ = some (.int .i64 c) := E2.out.cell 4
  have h5 : W.cell? ⟨d, 0, none⟩ = some (.slice (some ⟨g, off, none⟩) N cap) := I1.out.own.cell 0
  go_region_law (first
    | (refine step_append_win rfl _ _ _ rfl Try.underlying60 info_box rfl rfl (WD _).out _ rfl 1 _ (src_new _ Try.underlying60 3 1 (bxL ⟨true, c, 0⟩) 99 _ rfl (bxsL_one [⟨true, c, 0⟩]) (heap_alloc_new W _)) (by unfold maxLen; omega) (by omega) ?_; intro v3 w3 hW3 hG3 hO3; obtain ⟨a3, c3, rfl, _, _⟩ := Win.slice_form hW3.out; have O3 := (DD _).out.own.lift hG3.out (fun e => I1.out.apart ((ob_iff _ _).1 e)); have g0 := O3.cell 0; have g1 := O3.froz 0; have g2 := O3.cell 1; have g3 := O3.froz 1; clear O3; have HP := Lib.hid ((DD _).out.push ⟨true, c, 0⟩ HC.out rfl (by have := Hin.out; omega) Hin.out.symm hW3.out hG3.out hO3.out); clear hW3 hG3 hO3))
  all_goals
    go_wp2
    go_ret
    have DU := HP.out.1
    exact ⟨rfl, (B1.out.trans (B2.out.trans ((below_drw ((Below.refl B W).alloc I1.out.lt _)).trans HP.out.2))).setCell I1.out.dB _, _, DU.own.set 1 _, DU.win.setCell_far DU.apart _, DU.dB, DU.vB, DU.ok, DU.deep, DU.most⟩
end Go.Proofs.Ytacngbngljfedaa
/-
  CONTRACT of event.Check: what the machine of EvPure tells of all parts.
-/
namespace Go.Proofs.Ytacngbngljfedaa
open Go.RowKit
open Go.Lib
theorem CkAt.go {M B : Nat} {w w' : World} {d : Nat} {st : Ck} (h : CkAt M B w d st) (k : Below w.heap.size w w') : CkAt M B w' d st := by
  cases st with
  | bad f => exact h
  | live s => obtain ⟨v, h⟩ := h; exact ⟨v, h.go k⟩
  | done => obtain ⟨v, h⟩ := h; exact ⟨v, h.go k⟩
theorem run_succ (E : Nat → Ev) (s : Ck) (j : Nat) : runC s (pre E (j + 1)) = stepC (runC s (pre E j)) (E j) := by
  rw [pre_succ, runC_append]
  rfl
theorem ck_bad_at (E : Nat → Ev) (s : Ck) {j n f : Nat} (hj : j ≤ n) (h : runC s (pre E j) = .bad f) : runC s (pre E n) = .bad f := by
  obtain ⟨r, hr⟩ := pre_split E j (n - j)
  rw [Nat.add_sub_cancel' hj] at hr
  rw [hr, runC_append, h, runC_bad]
/-- take: whatever the part, wherever the machine stands. -/
theorem take_any (M B : Nat) (w : World) (d : Nat) (st : Ck) (h : CkAt M B w d st) (e : Ev) (he : EvOk e) (hM : M + 1 ≤ 1000) :
    Calls Try.prog 21 #[.pointer (some ⟨d, 0, none⟩), evV e] w fun r w' => r = .returned (.int .i64 (errS (stepC st e) : Nat)) ∧ Below B w w' ∧ ((∃ f, stepC st e = .bad f) ∨ CkAt (M + 1) B w' d (stepC st e)) := by
  obtain ⟨k, y, m, t, c⟩ := e
  have hc : -9223372036854775808 ≤ c ∧ c ≤ 9223372036854775807 := he.2.2.1
  by_cases hm : mayE ⟨k, y, m, t, c⟩
  · have hO := fun w => of_any ⟨k, y, m, t, c⟩ w
    simp only [if_pos hm, decide_eq_true hm] at hO
    cases st with
    | bad f => exact absurd h id
    | done =>
      obtain ⟨v, h⟩ := h
      exact (take_over M B w d [] v h k y m t c _ hO).mono fun r w' ⟨h1, h2⟩ => ⟨h1, h2, .inl ⟨2, rfl⟩⟩
    | live s =>
      obtain ⟨v, h⟩ := h
      have hnm : ¬ ¬ mayE ⟨k, y, m, t, c⟩ := fun hh => hh hm
      by_cases h7 : k = 7
      · subst h7
        cases s with
        | nil =>
          have hs : stepC (.live []) ⟨7, y, m, t, c⟩ = .bad 2 := by simp only [stepC]; rw [if_neg hnm, if_pos trivial]
          rw [hs]
          refine (takes_end M B w d [] v h y m t c _ hO 2 (fun _ => True) fun w1 hw1 => ?_).mono fun r w' ⟨h1, h2, _⟩ => ⟨h1, h2, .inl ⟨2, rfl⟩⟩
          exact (ends_none M B w1 d false v (h.go hw1)).mono fun r w' ⟨h1, h2⟩ => ⟨h1, h2.mono (h.go hw1).lt, trivial⟩
        | cons b r =>
          have hs : stepC (.live (b :: r)) ⟨7, y, m, t, c⟩ = if shutB b then .bad 2 else if r = [] then .done else .live r := by simp only [stepC]; rw [if_neg hnm, if_pos trivial]
          rw [hs]
          by_cases hb : shutB b
          · rw [if_pos hb]
            refine (takes_end M B w d (b :: r) v h y m t c _ hO 2 (fun _ => True) fun w1 hw1 => ?_).mono fun r w' ⟨h1, h2, _⟩ => ⟨h1, h2, .inl ⟨2, rfl⟩⟩
            exact (end_shut M B w1 d b r false v (h.go hw1) hb).mono fun r w' ⟨h1, h2⟩ => ⟨h1, h2.mono (h.go hw1).lt, trivial⟩
          · rw [if_neg hb]
            refine (takes_end M B w d (b :: r) v h y m t c _ hO 0 (fun w' => ∃ v', Doc M B w' d r (decide (r = [])) v') fun w1 hw1 => ?_).mono fun x w' ⟨h1, h2, h3⟩ => ?_
            · exact (end_ok M B w1 d b r false v (h.go hw1) hb)
            · obtain ⟨v', h3⟩ := h3
              by_cases hr : r = []
              · subst hr
                rw [if_pos rfl]
                exact ⟨h1, h2, .inr ⟨v', h3.up hM⟩⟩
              · rw [if_neg hr]
                rw [decide_eq_false hr] at h3
                exact ⟨h1, h2, .inr ⟨v', h3.up hM⟩⟩
      · by_cases hk : keyB s = true ∧ k ≠ 3
        · have hs : stepC (.live s) ⟨k, y, m, t, c⟩ = .bad 8 := by simp only [stepC]; rw [if_neg hnm, if_neg h7, if_pos hk]
          rw [hs]
          exact (take_key M B w d s v h k y m t c _ hO h7 hk.2 hk.1).mono fun r w' ⟨h1, h2⟩ => ⟨h1, h2, .inl ⟨8, rfl⟩⟩
        · by_cases h56 : k = 5 ∨ k = 6
          · have hs : stepC (.live s) ⟨k, y, m, t, c⟩ = if 16 ≤ s.length then .bad 4 else .live (⟨decide (k = 6), c, 0⟩ :: incB s) := by
              simp only [stepC]; rw [if_neg hnm, if_neg h7, if_neg hk, if_pos h56]
            have hks : keyB s = false := by
              cases hq : keyB s with
              | false => rfl
              | true => exact absurd ⟨hq, by omega⟩ hk
            have hcc : -1 ≤ c ∧ c ≤ 9223372036854775807 := ⟨hm.2.2 h56, hc.2⟩
            rw [hs]
            by_cases h16 : 16 ≤ s.length
            · have h16' : s.length = 16 := by have := h.deep; omega
              rw [if_pos h16]
              rcases h56 with rfl | rfl
              · exact (take_deep_5 M B w d s v h y m t c _ hO hks h16').mono fun r w' ⟨h1, h2⟩ => ⟨h1, h2, .inl ⟨4, rfl⟩⟩
              · exact (take_deep_6 M B w d s v h y m t c _ hO hks h16').mono fun r w' ⟨h1, h2⟩ => ⟨h1, h2, .inl ⟨4, rfl⟩⟩
            · rw [if_neg h16]
              cases s with
              | nil =>
                rcases h56 with rfl | rfl
                · exact (take_open_5 M B w d v h y m t c _ hO hM hcc).mono fun r w' ⟨h1, h2, h3⟩ => ⟨h1, h2, .inr h3⟩
                · exact (take_open_6 M B w d v h y m t c _ hO hM hcc).mono fun r w' ⟨h1, h2, h3⟩ => ⟨h1, h2, .inr h3⟩
              | cons b l =>
                have hl : l.length + 1 < 16 := by simp at h16; omega
                rcases h56 with rfl | rfl
                · exact (take_more_5 M B w d b l v h y m t c _ hO hM hcc hks hl).mono fun r w' ⟨h1, h2, h3⟩ => ⟨h1, h2, .inr h3⟩
                · exact (take_more_6 M B w d b l v h y m t c _ hO hM hcc hks hl).mono fun r w' ⟨h1, h2, h3⟩ => ⟨h1, h2, .inr h3⟩
          · have hs : stepC (.live s) ⟨k, y, m, t, c⟩ = if s = [] then .done else .live (incB s) := by
              simp only [stepC]; rw [if_neg hnm, if_neg h7, if_neg hk, if_neg h56]
            rw [hs]
            have h5 : k ≠ 5 := fun h => h56 (.inl h)
            have h6 : k ≠ 6 := fun h => h56 (.inr h)
            by_cases h3 : k = 3
            · subst h3
              cases s with
              | nil => exact (take_text_nil M B w d v h y m t c _ hO hM).mono fun r w' ⟨h1, h2, h3⟩ => ⟨h1, h2, .inr h3⟩
              | cons b l => exact (take_text_in M B w d b l v h y m t c _ hO hM).mono fun r w' ⟨h1, h2, h3⟩ => ⟨h1, h2, .inr h3⟩
            · have hks : keyB s = false := by
                cases hq : keyB s with
                | false => rfl
                | true => exact absurd ⟨hq, h3⟩ hk
              cases s with
              | nil => exact (take_other_nil M B w d v h k y m t c _ hO h7 h3 h5 h6 hks hM).mono fun r w' ⟨h1, h2, h3⟩ => ⟨h1, h2, .inr h3⟩
              | cons b l => exact (take_other_in M B w d b l v h k y m t c _ hO h7 h3 h5 h6 hks hM).mono fun r w' ⟨h1, h2, h3⟩ => ⟨h1, h2, .inr h3⟩
  · have hO := fun w => of_any ⟨k, y, m, t, c⟩ w
    simp only [if_neg hm, decide_eq_false hm] at hO
    cases st with
    | bad f => exact absurd h id
    | done =>
      obtain ⟨v, h⟩ := h
      exact (takes_none M B w d [] true v h k y m t c _ hO).mono fun r w' ⟨h1, h2⟩ => ⟨h1, h2, .inl ⟨2, rfl⟩⟩
    | live s =>
      obtain ⟨v, h⟩ := h
      have hs : stepC (.live s) ⟨k, y, m, t, c⟩ = .bad 2 := by simp only [stepC]; rw [if_pos hm]
      rw [hs]
      exact (takes_none M B w d s false v h k y m t c _ hO).mono fun r w' ⟨h1, h2⟩ => ⟨h1, h2, .inl ⟨2, rfl⟩⟩
theorem errS_bad {s : Ck} (h : WfC s) {f : Nat} (hs : s = .bad f) : ((f : Int) != 0) = true := by
  subst hs
  rcases h with rfl | rfl | rfl <;> rfl
set_option maxHeartbeats 1000000 in
theorem check_any (A : Option Addr) (n cp : Nat) (E : Nat → Ev) (w : World) (hn : n ≤ 900) (hE : EvsAt w w.heap.size A n E) (hok : ∀ i, i < n → EvOk (E i)) :
    Calls Try.prog 11 #[.slice A n cp] w fun r w' => r = .returned (.int .i64 (checkE (pre E n) : Nat)) ∧ Below w.heap.size w w' := by
  obtain ⟨Z, hZ⟩ : ∃ Z : Nat, Z = checkE (pre E n) := ⟨_, rfl⟩
  rw [← hZ]
  have HZ := Lib.hid hZ
  have HE := Lib.hid hE
  have HOK := Lib.hid hok
  have HNN := Lib.hid hn
  have h0 : CkAt 0 w.heap.size (w.alloc (.cells #[.slice none 0 0, .bool false] 62)) w.heap.size (.live []) :=
    ⟨_, blk_new w _ _, Win.nil_ _ _ _, Nat.le_refl _, fun k hk => by simp [Value.owner] at hk, fun b hb => by simp at hb, by simp, by omega⟩
  have H0 := Lib.hid h0
  clear h0 hZ hE hok
  go_enter Try.func11, Try.ntmps11
  go_wp2
  go_loopw [9] (fun i wr => ∃ j : Nat, i = .int .i64 j ∧ j ≤ n ∧ Hid (CkAt j w.heap.size wr w.heap.size (runC (.live []) (pre E j))) ∧ Hid (Below w.heap.size w wr) ∧ w.heap.size < wr.heap.size) (fun i _ => n - (RowKit.intOf i).toNat)
  case atStart => exact ⟨0, rfl, by omega, H0, Lib.hid (up_alloc (Below.refl _ _) _), by simp⟩
  case round =>
    obtain ⟨j, rfl, hjn, HC, HB, hwl⟩ := hrel
    by_cases hlt : j < n
    · obtain ⟨b, off, rfl, hb, x0, x1, x2, x3, x4⟩ := (HE.out.below HB.out).cells hlt
      have hS := run_succ E (.live []) j
      have hO := HOK.out j hlt
      have hwf := wf_runC (pre E (j + 1)) (.live []) trivial
      have hbad : ∀ f, runC (.live []) (pre E (j + 1)) = .bad f → Z = f := fun f hf => by
        rw [HZ.out, checkE, ck_bad_at E _ (show j + 1 ≤ n by omega) hf]
        rfl
      generalize hs2 : runC (.live []) (pre E (j + 1)) = s2 at hS hwf hbad
      generalize runC (.live []) (pre E j) = s1 at HC hS
      generalize E j = e at x0 x1 x2 x3 x4 hS hO
      have TK := Lib.hid fun X => take_any j w.heap.size (wr.alloc X) w.heap.size s1 (HC.out.go (up_alloc (Below.refl _ _) X)) e hO (by have := HNN.out; omega)
      have HB1 : ∀ X, Hid (Below w.heap.size w (wr.alloc X)) := fun X => Lib.hid (up_alloc HB.out X)
      rw [← hS] at TK
      have HS2 := Lib.hid hs2
      obtain ⟨k, y, m, t, c⟩ := e
      simp only [evV] at TK x0 x1 x2 x3 x4
      clear hS hO hs2 hn HC HB
      by_cases hq : ∃ f, s2 = .bad f
      · obtain ⟨f, rfl⟩ := hq
        obtain rfl := hbad f rfl
        have hz := errS_bad hwf rfl
        clear hwf hbad
        simp only [errS] at TK
        go_wp2_with fail
        refine (TK.out _).mono ?_
        rintro e w2 ⟨rfl, hb2, _⟩
        have HB2 := Lib.hid ((HB1 _).out.trans hb2)
        clear hb2 TK
        go_wp2
        go_ret
        exact ⟨rfl, HB2.out⟩
      · have h0 : errS s2 = 0 := by
          cases s2 with
          | bad f => exact absurd ⟨f, rfl⟩ hq
          | live s => rfl
          | done => rfl
        have HQ := Lib.hid hq
        clear hwf hbad hq
        rw [h0] at TK
        go_wp2_with fail
        refine (TK.out _).mono ?_
        rintro e w2 ⟨rfl, hb2, hc2⟩
        have HB2 := Lib.hid ((HB1 _).out.trans hb2)
        have hlw : w.heap.size < w2.heap.size := Nat.lt_of_lt_of_le hwl (Nat.le_trans (by simp) hb2.size)
        have HC2 : Hid (CkAt (j + 1) w.heap.size w2 w.heap.size s2) := Lib.hid (hc2.resolve_left HQ.out)
        clear hb2 hc2 TK
        go_wp2
        go_roundw
        case rel => exact ⟨j + 1, by rw [wrap_succ (by have := HNN.out; omega)]; rfl, hlt, by rw [HS2.out]; exact HC2, HB2, hlw⟩
        case measure => rw [wrap_succ (by have := HNN.out; omega)]; simp [RowKit.intOf]; omega
    · obtain rfl : j = n := by omega
      have hz : Z = errC (runC (.live []) (pre E j)) := HZ.out
      generalize runC (.live []) (pre E j) = s1 at HC hz
      cases s1 with
      | bad f => exact absurd HC.out id
      | live s =>
        obtain ⟨v, hD⟩ := HC.out
        have c1 := hD.own.cell 1
        obtain rfl : Z = 3 := hz
        clear hD
        go_wp2
        go_ret
        exact ⟨rfl, HB.out⟩
      | done =>
        obtain ⟨v, hD⟩ := HC.out
        have c1 := hD.own.cell 1
        obtain rfl : Z = 0 := hz
        clear hD
        go_wp2
        go_ret
        exact ⟨rfl, HB.out⟩
end Go.Proofs.Ytacngbngljfedaa
/-
  CHECK of a list of parts that a call made.
-/
namespace Go.Proofs.Ytacngbngljfedaa
open Go.RowKit
open Go.Lib
/-- Check, of a list that a call made. -/
theorem check_win {w : World} {a : Option Addr} {m cap : Nat} {T : TypeId} {L : List Ev} (h : Win w T 5 (.slice a m cap) m (evsC L)) (hm : L.length = m) (hn : m ≤ 900) (hok : ∀ e ∈ L, EvOk e) :
    Calls Try.prog 11 #[.slice a m cap] w fun r w' => r = .returned (.int .i64 (checkE L : Nat)) ∧ Below w.heap.size w w' := by
  have := check_any a m cap (getE L) w hn (evs_win h (by omega)) (fun i hi => ok_getE hok i (by omega))
  rwa [← hm, pre_getE, hm] at this
end Go.Proofs.Ytacngbngljfedaa
