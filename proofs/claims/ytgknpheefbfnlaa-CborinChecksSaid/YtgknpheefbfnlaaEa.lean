/-
  CONTRACTS of event.Check: its document in memory.
-/
import Derived.Test.YtgknpheefbfnlaaGd
import Derived.Test.YtgknpheefbfnlaaGa
import Derived.Deep.DeepCutAuto
import Derived.Deep.RegionLaw
/-
  CONTRACTS of package event's machine: a container's mayEnd; a document's atKey, end, take; Check.
-/
namespace Go.Proofs.Ytgknpheefbfnlaa
open Go.RowKit
open Go.Lib
/-- A document that is going on. -/
structure Doc (M B : Nat) (w : World) (d : Nat) (s : List Bx) (wh : Bool) (v : Value) : Prop where
  own : Blk w d #[v, .bool wh] 68
  win : Win w 95 3 v s.length (bxsL s)
  dB : B ≤ d
  vB : ∀ k ∈ Value.owner v, B ≤ k
  ok : ∀ b ∈ s, (-1 ≤ b.c ∧ b.c ≤ 9223372036854775807) ∧ b.have_ ≤ M
  deep : s.length ≤ 16
  most : M ≤ 1000
/-- The last container's cells. -/
theorem Doc.last {M B : Nat} {w : World} {d : Nat} {b : Bx} {r : List Bx} {wh : Bool} {v : Value} (h : Doc M B w d (b :: r) wh v) :
    ∃ g off N cap, v = .slice (some ⟨g, off, none⟩) N cap ∧ N = r.length + 1 ∧ N ≤ 9223372036854775807 ∧
      (w.cell? ⟨g, off + r.length * 3, none⟩ = some (.bool b.map) ∧ w.cell? ⟨g, off + r.length * 3 + 1, none⟩ = some (.int .i64 b.c) ∧ w.cell? ⟨g, off + r.length * 3 + 2, none⟩ = some (.int .i64 (b.have_ : Int))) ∧
      (w.frozen? ⟨g, off + r.length * 3, none⟩ = false ∧ w.frozen? ⟨g, off + r.length * 3 + 1, none⟩ = false ∧ w.frozen? ⟨g, off + r.length * 3 + 2, none⟩ = false) := by
  obtain ⟨g, off, cap, rfl, h1, h2, _, _, h3⟩ := h.win.form (by simp)
  have hl := bxsL_length r
  have hx : ∀ j u, (bxL b)[j]? = some u → w.cell? ⟨g, off + (r.length * 3 + j), none⟩ = some u ∧ w.frozen? ⟨g, off + (r.length * 3 + j), none⟩ = false := fun j u hu => by
    refine h3 _ u ?_
    rw [bxsL, ← hl, List.getElem?_append_right (by omega), Nat.add_sub_cancel_left]
    exact hu
  have x0 := hx 0 _ rfl
  have x1 := hx 1 _ rfl
  have x2 := hx 2 _ rfl
  simp only [← Nat.add_assoc, Nat.add_zero] at x0 x1 x2
  refine ⟨g, off, _, cap, rfl, by simp, ?_, ⟨x0.1, x1.1, x2.1⟩, ⟨x0.2, x1.2, x2.2⟩⟩
  unfold maxLen at h2
  simp only [List.length_cons] at h1 ⊢
  omega
theorem at_key (M B : Nat) (w : World) (d : Nat) (s : List Bx) (wh : Bool) (v : Value) (h : Doc M B w d s wh v) :
    Calls Try.prog 42 #[.pointer (some ⟨d, 0, none⟩)] w fun r w' => r = .returned (.bool (keyB s)) ∧ w' = w := by
  have c0 := h.own.cell 0
  cases s with
  | nil =>
    obtain ⟨a, cap, rfl, _, _⟩ := h.win.slice_form
    clear h
    go_enter Try.func42, Try.ntmps42
    go_wp2
    go_ret
    exact ⟨rfl, rfl⟩
  | cons b r =>
    have hr := Nat.le_trans (h.ok b (by simp)).2 h.most
    obtain ⟨g, off, N, cap, rfl, hN, hN2, ⟨x0, x1, x2⟩, ⟨y0, y1, y2⟩⟩ := h.last
    have hl : (N : Int) - 1 = (r.length : Int) := by omega
    have hl2 : 0 < N := by omega
    have hl3 : r.length < N := by omega
    have hm : (((b.have_ : Int) % 2 == 0) : Bool) = (b.have_ % 2 == 0) := by rw [Bool.eq_iff_iff, beq_iff_eq, beq_iff_eq]; omega
    have hk : keyB (b :: r) = (b.map && (b.have_ % 2 == 0)) := rfl
    rw [hk]
    obtain ⟨m, c, q⟩ := b
    simp only at *
    generalize (q % 2 == 0) = Q at *
    clear h hk hr hN
    generalize r.length = n at *
    cases m
    · go_enter Try.func42, Try.ntmps42
      go_wp2
      go_ret
      exact ⟨rfl, rfl⟩
    · go_enter Try.func42, Try.ntmps42
      go_wp2
      go_ret
      exact ⟨rfl, rfl⟩
theorem may_end (b : Bx) (hc : -1 ≤ b.c) (hq : b.have_ ≤ 1000) (w : World) :
    Calls Try.prog 52 #[.agg #[.bool b.map, .int .i64 b.c, .int .i64 (b.have_ : Int)]] w fun r w' => r = .returned (.bool (decide (¬ shutB b))) ∧ Below w.heap.size w w' := by
  obtain ⟨m, c, q⟩ := b
  have h1 := Lib.hid (up_alloc (Below.refl w.heap.size w) (.cells #[.bool m, .int .i64 c, .int .i64 (q : Int)] 95))
  simp only at *
  have hs : shutB ⟨m, c, q⟩ ↔ (0 ≤ c ∧ (q : Int) ≠ (if m then 2 * c else c)) ∨ (m = true ∧ q % 2 = 1) := Iff.rfl
  cases m
  · simp only [Bool.false_eq_true, if_false, false_and, or_false] at hs
    by_cases h : c = -1
    · subst h
      rw [decide_eq_true (p := ¬ shutB ⟨false, -1, q⟩) (fun h => by rw [hs] at h; omega)]
      clear hs
      go_enter Try.func52, Try.ntmps52
      go_wp2
      go_ret
      exact ⟨rfl, h1.out⟩
    · have e : decide (¬ shutB ⟨false, c, q⟩) = (c == (q : Int)) := by
        rw [Bool.eq_iff_iff, decide_eq_true_iff, beq_iff_eq, hs]
        omega
      rw [e]
      have hz : (c == -1) = false := by simpa using h
      clear hs h e
      go_enter Try.func52, Try.ntmps52
      go_wp2
      go_ret
      exact ⟨rfl, h1.out⟩
  · simp only [if_true, true_and] at hs
    by_cases h2 : q % 2 = 1
    · rw [decide_not, decide_eq_true (hs.2 (.inr h2)), Bool.not_true]
      have hz : (((q : Int) % 2) != 0) = true := by simp; omega
      clear hs h2
      go_enter Try.func52, Try.ntmps52
      go_wp2
      go_ret
      exact ⟨rfl, h1.out⟩
    · have hz : (((q : Int) % 2) != 0) = false := by simp; omega
      by_cases h : c = -1
      · subst h
        rw [decide_eq_true (p := ¬ shutB ⟨true, -1, q⟩) (fun h => by rw [hs] at h; omega)]
        clear hs h2
        go_enter Try.func52, Try.ntmps52
        go_wp2
        go_ret
        exact ⟨rfl, h1.out⟩
      · have e : decide (¬ shutB ⟨true, c, q⟩) = (c == (q : Int) / 2) := by
          rw [Bool.eq_iff_iff, decide_eq_true_iff, beq_iff_eq, hs]
          omega
        rw [e]
        have hz2 : (c == -1) = false := by simpa using h
        clear hs h e h2
        go_enter Try.func52, Try.ntmps52
        go_wp2
        go_ret
        exact ⟨rfl, h1.out⟩
theorem Doc.go {M B : Nat} {w w' : World} {d : Nat} {s : List Bx} {wh : Bool} {v : Value} (h : Doc M B w d s wh v) (k : Below w.heap.size w w') : Doc M B w' d s wh v :=
  ⟨h.own.go k, h.win.keep fun g hg => k.block g (h.win.lt g hg), h.dB, h.vB, h.ok, h.deep, h.most⟩
theorem Doc.apart {M B : Nat} {w : World} {d : Nat} {s : List Bx} {wh : Bool} {v : Value} (h : Doc M B w d s wh v) : d ∉ Value.owner v := h.win.apart h.own (by decide)
theorem Doc.lt {M B : Nat} {w : World} {d : Nat} {s : List Bx} {wh : Bool} {v : Value} (h : Doc M B w d s wh v) : B ≤ w.heap.size := Nat.le_trans h.dB (Nat.le_of_lt h.own.lt)
theorem ends_none (M B : Nat) (w : World) (d : Nat) (wh : Bool) (v : Value) (h : Doc M B w d [] wh v) :
    Calls Try.prog 41 #[.pointer (some ⟨d, 0, none⟩)] w fun r w' => r = .returned (.int .i64 2) ∧ Below w.heap.size w w' := by
  have c0 := h.own.cell 0
  obtain ⟨a, cap, rfl, _, _⟩ := h.win.slice_form
  clear h
  go_enter Try.func41, Try.ntmps41
  go_wp2
  go_ret
  exact ⟨rfl, Below.refl _ _⟩
set_option maxHeartbeats 1000000 in
theorem end_shut (M B : Nat) (w : World) (d : Nat) (b : Bx) (r : List Bx) (wh : Bool) (v : Value) (h : Doc M B w d (b :: r) wh v) (hs : shutB b) :
    Calls Try.prog 41 #[.pointer (some ⟨d, 0, none⟩)] w fun r w' => r = .returned (.int .i64 2) ∧ Below w.heap.size w w' := by
  have c0 := h.own.cell 0
  have hE := fun w => may_end b (h.ok b (by simp)).1.1 (Nat.le_trans (h.ok b (by simp)).2 h.most) w
  rw [decide_not, decide_eq_true hs, Bool.not_true] at hE
  obtain ⟨g, off, N, cap, rfl, hN, hN2, ⟨x0, x1, x2⟩, ⟨y0, y1, y2⟩⟩ := h.last
  have hl : (N : Int) - 1 = (r.length : Int) := by omega
  have hl3 : r.length < N := by omega
  obtain ⟨m, c, q⟩ := b
  simp only at *
  clear h hN hs
  have HE := Lib.hid hE
  clear hE
  generalize r.length = n at *
  go_enter Try.func41, Try.ntmps41
  go_wp2_with (go_at_call 52; refine (HE.out _).mono ?_; rintro e w1 ⟨rfl, hb⟩)
  go_ret
  exact ⟨rfl, hb⟩
set_option maxHeartbeats 1000000 in
theorem end_ok (M B : Nat) (w : World) (d : Nat) (b : Bx) (r : List Bx) (wh : Bool) (v : Value) (h : Doc M B w d (b :: r) wh v) (hs : ¬ shutB b) :
    Calls Try.prog 41 #[.pointer (some ⟨d, 0, none⟩)] w fun e w' => e = .returned (.int .i64 0) ∧ Below B w w' ∧ ∃ v', Doc M B w' d r (decide (r = [])) v' := by
  have hE := fun w => may_end b (h.ok b (by simp)).1.1 (Nat.le_trans (h.ok b (by simp)).2 h.most) w
  rw [decide_eq_true hs] at hE
  obtain ⟨v', hsl, hw', ho'⟩ := h.win.hi (P := Try.prog) (t := 66) Try.underlying66 (fun w => by kernel_rfl) r.length (by simp)
  rw [bxsL, ← bxsL_length, List.take_left] at hw'
  obtain ⟨a', cap', rfl, _, _⟩ := hw'.slice_form
  obtain ⟨g, off, N, cap, rfl, hN, hN2, ⟨x0, x1, x2⟩, ⟨y0, y1, y2⟩⟩ := h.last
  have c0 := h.own.cell 0
  have hl : (N : Int) - 1 = (r.length : Int) := by omega
  have hl3 : r.length < N := by omega
  have hr0 : (((r.length : Nat) : Int) == 0) = decide (r = []) := by
    cases r
    · rfl
    · simp; omega
  have H := Lib.hid h
  have HW := Lib.hid hw'
  have HO := Lib.hid ho'
  obtain ⟨m, c, q⟩ := b
  simp only at *
  clear h hN hs hw' ho'
  have HE := Lib.hid hE
  clear hE
  generalize hR : decide (r = []) = R at *
  generalize hn : r.length = n at *
  have HR := Lib.hid hR
  have HN := Lib.hid hn
  clear hR hn
  go_enter Try.func41, Try.ntmps41
  go_wp2_with fail
  refine (HE.out _).mono ?_
  rintro e w1 ⟨rfl, hb⟩
  have D1 := Lib.hid (H.out.go hb)
  have k0 := D1.out.own.cell 0
  have k1 := D1.out.own.cell 1
  have z0 := D1.out.own.froz 0
  have z1 := D1.out.own.froz 1
  have HB := Lib.hid (hb.mono H.out.lt)
  have HW1 := Lib.hid (HW.out.keep fun k hk => hb.block k (HW.out.lt k hk))
  clear hb
  go_wp2
  go_ret
  have b2 : Below B w ((w1.setCell ⟨d, 0, none⟩ (.slice a' n cap')).setCell ⟨d, 1, none⟩ (.bool R)) := (HB.out.setCell D1.out.dB _).setCell D1.out.dB _
  have hv : ∀ k ∈ Value.owner (.slice a' n cap'), B ≤ k := fun k hk => D1.out.vB k (HO.out ▸ hk)
  have ha : d ∉ Value.owner (.slice a' n cap') := fun hk => D1.out.apart (HO.out ▸ hk)
  refine ⟨rfl, b2, .slice a' n cap', ?_, ?_, D1.out.dB, hv, fun b hb => H.out.ok b (List.mem_cons_of_mem _ hb), Nat.le_trans (Nat.le_succ _) H.out.deep, H.out.most⟩
  · exact (D1.out.own.set 0 _).set 1 _
  · rw [HN.out]
    exact (HW1.out.setCell_far ha _).setCell_far ha _
end Go.Proofs.Ytgknpheefbfnlaa
