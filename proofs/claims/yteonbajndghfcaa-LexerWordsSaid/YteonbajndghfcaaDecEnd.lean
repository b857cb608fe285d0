/-
  CONTRACTS of decimal.Number: Step, whole, End.
-/
import Derived.Test.YteonbajndghfcaaDecStep
namespace Go.Proofs.Yteonbajndghfcaa
open Go.RowKit
open Go.Lib
theorem cell_frozen0 {w : World} {b o : Nat} {v : Value} {vs : List Value} (h : At w b o (v :: vs)) : w.cell? ⟨b, o, none⟩ = some v ∧ w.frozen? ⟨b, o, none⟩ = false := h 0 v rfl
set_option maxHeartbeats 1000000 in
/-- Step's frame around take. -/
theorem step_core {w : World} {b o x : Nat} (hc : w.cell? ⟨b, o, none⟩ = some (.int .i64 0)) (q : Bool) (e : Nat) (R : World → Prop)
    (hT : Calls Try.prog 36 #[.pointer (some ⟨b, o, none⟩), .int .u8 x] w fun r w' => r = .returned (.tuple #[.bool q, .int .i64 e]) ∧ (∃ v, w'.cell? ⟨b, o, none⟩ = some v ∧ w'.frozen? ⟨b, o, none⟩ = false) ∧ R (w'.setCell ⟨b, o, none⟩ (.int .i64 e))) :
    Calls Try.prog 27 #[.pointer (some ⟨b, o, none⟩), .int .u8 x] w fun r w' => r = .returned (.tuple #[.bool q, .int .i64 e]) ∧ R w' := by
  have HT := Lib.hid hT
  clear hT
  go_enter Try.func27, Try.ntmps27
  go_wp2_with fail
  refine HT.out.mono ?_
  rintro r w1 ⟨rfl, ⟨v, hv, hfz⟩, hR⟩
  have HR := Lib.hid hR
  clear hR
  go_wp2
  go_ret2
  exact ⟨rfl, HR.out⟩
set_option maxHeartbeats 1000000 in
theorem step_bad {w : World} {b o x : Nat} (e : Nat) (he : e ≠ 0) (hc : w.cell? ⟨b, o, none⟩ = some (.int .i64 e)) :
    Calls Try.prog 27 #[.pointer (some ⟨b, o, none⟩), .int .u8 x] w fun r w' => r = .returned (.tuple #[.bool false, .int .i64 e]) ∧ ∃ q, w' = w.drewN q := by
  have hz : ((e : Int) != 0) = true := by simp; omega
  clear he
  go_enter Try.func27, Try.ntmps27
  go_wp2
  go_quiet (fail)
  go_wp2
  go_ret2
  exact ⟨rfl, _, rfl⟩
theorem dstep_nil (x : Int) (w : World) : Calls Try.prog 27 #[.pointer none, .int .u8 x] w fun r w' => r = .returned (.tuple #[.bool false, .int .i64 14]) ∧ w' = w := by
  go_enter Try.func27, Try.ntmps27
  go_wp2
  go_ret2
  exact ⟨rfl, rfl⟩
/-- What storing the error leaves. -/
theorem dat_err0 {w : World} {b o : Nat} {p : Nat} {m : Bool} {v : Nat} (h : DAt w b o (.num p m v)) : DPost w b o (.num p m v) (w.setCell ⟨b, o, none⟩ (.int .i64 0)) := by
  obtain ⟨hw, hi, lo, hA, hf⟩ := h
  exact ⟨⟨hw, hi, lo, hA.set 0 (by simp [nmCells]) (.int .i64 0), hf⟩, sub_setCell w o _ (by omega)⟩
theorem dat_bad {w : World} {b o : Nat} {p : Nat} {m : Bool} {v : Nat} (f : Bool) (h : DAt w b o (.num p m v)) : DPost w b o (.bad f) (w.setCell ⟨b, o, none⟩ (.int .i64 (errD (.bad f)))) := by
  obtain ⟨hw, hi, lo, hA, hf⟩ := h
  exact ⟨⟨p, m, hi, lo, hA.set 0 (by simp [nmCells]) (.int .i64 (errD (.bad f)))⟩, sub_setCell w o _ (by omega)⟩
theorem DPost.trans {w w1 w2 : World} {b o : Nat} {s s1 : Dec} (h : DPost w b o s1 w1) (k : DPost w1 b o s w2) : DPost w b o s w2 := ⟨k.1, h.2.trans k.2⟩
theorem DAt.first {w : World} {b o : Nat} {s : Dec} (h : DAt w b o s) : w.cell? ⟨b, o, none⟩ = some (.int .i64 (errD s)) ∧ w.frozen? ⟨b, o, none⟩ = false := by
  obtain ⟨_, _, _, _, h⟩ := h.cells
  exact cell_frozen0 h
/-- STEP. -/
theorem dstep_at {w : World} {b o : Nat} {s : Dec} (h : DAt w b o s) (x : Nat) :
    Calls Try.prog 27 #[.pointer (some ⟨b, o, none⟩), .int .u8 x] w fun r w' => r = .returned (.tuple #[.bool (stepD s x).2, .int .i64 (errD (stepD s x).1)]) ∧ DPost w b o (stepD s x).1 w' := by
  cases s with
  | bad f =>
    have hc := h.first.1
    have he : errD (.bad f) ≠ 0 := by cases f <;> decide
    refine (step_bad _ he hc).mono ?_
    rintro r w' ⟨rfl, q, rfl⟩
    exact ⟨rfl, h.drewN q, (Sub.refl _ _ _ _).drewN q⟩
  | num p m v =>
    have hc : w.cell? ⟨b, o, none⟩ = some (.int .i64 0) := h.first.1
    by_cases c1 : x = 45 ∧ p = 0
    · obtain ⟨rfl, rfl⟩ := c1
      have hs : stepD (.num 0 m v) 45 = (.num 1 true v, true) := by simp only [stepD]; rw [if_pos ⟨by trivial, by trivial⟩]
      rw [hs]
      refine step_core hc true 0 _ ?_
      refine (take_minus h).mono ?_
      rintro r w1 ⟨rfl, hP⟩
      exact ⟨rfl, ⟨_, hP.1.first⟩, hP.trans (dat_err0 hP.1)⟩
    by_cases c2 : (48 ≤ x ∧ x ≤ 57) ∧ p ≠ 2
    · obtain ⟨p', v', hs⟩ : ∃ p' v', stepD (.num p m v) x = (.num p' m v', true) := by
        simp only [stepD]
        rw [if_neg c1, if_pos c2]
        split
        · exact ⟨_, _, rfl⟩
        · exact ⟨_, _, rfl⟩
      have hT := dtake_digit c2.2 c2.1 h
      rw [hs] at hT ⊢
      refine step_core hc true 0 _ ?_
      refine hT.mono ?_
      rintro r w1 ⟨rfl, hP⟩
      exact ⟨rfl, ⟨_, hP.1.first⟩, hP.trans (dat_err0 hP.1)⟩
    · have hT := take_none h c1 c2 _ rfl
      have hs : (stepD (.num p m v) x).2 = false ∧ ((stepD (.num p m v) x).1 = .num p m v ∨ ∃ f, (stepD (.num p m v) x).1 = .bad f) := by
        simp only [stepD]
        rw [if_neg c1, if_neg c2]
        split
        · exact ⟨rfl, .inr ⟨_, rfl⟩⟩
        · split
          · exact ⟨rfl, .inr ⟨_, rfl⟩⟩
          · exact ⟨rfl, .inl rfl⟩
      obtain ⟨hs1, hs2⟩ := hs
      rw [hs1]
      refine step_core hc false _ _ ?_
      refine hT.mono ?_
      rintro r w1 ⟨rfl, rfl⟩
      refine ⟨rfl, ⟨_, h.first⟩, ?_⟩
      rcases hs2 with hs2 | ⟨f, hs2⟩
      · rw [hs2]; exact dat_err0 h
      · rw [hs2]; exact dat_bad f h
/-- What whole tells. -/
theorem end_bad (f : Bool) : endD (.bad f) = ((false, 0), errD (.bad f)) := rfl
theorem new_cells {w w1 : World} {c : Array Value} {t : TypeId} (hB : Below (w.alloc (.cells c t)).heap.size (w.alloc (.cells c t)) w1) (i : Nat) (v : Value) (hv : c[i]? = some v) : w1.cell? ⟨w.heap.size, i, none⟩ = some v ∧ w1.frozen? ⟨w.heap.size, i, none⟩ = false := by
  have hk := hB.block w.heap.size (by simp)
  refine ⟨(World.cell?_of_block (w := w.alloc (.cells c t)) (a := ⟨w.heap.size, i, none⟩) hk).trans ?_, (World.frozen?_of_block (w := w.alloc (.cells c t)) (a := ⟨w.heap.size, i, none⟩) hk).trans ?_⟩
  · rw [World.cell?_alloc_new]; exact hv
  · exact World.frozen?_alloc_new _ _ _ _
theorem alloc_cells {w : World} {b o : Nat} {vs : List Value} (h : At w b o vs) (x : Obj) (hv : vs ≠ []) : At (w.alloc x) b o vs := h.alloc hv x
set_option maxHeartbeats 1000000 in
theorem whole_plain {w : World} {b o p h l : Nat} {m : Bool} (hm : m = false ∨ m = true ∧ p = 2) (hA : At w b o (nmCells 0 p m h l)) (n e : Nat) (hr : h ≠ 0 ∧ n = 0 ∧ e = 7 ∨ h = 0 ∧ n = l ∧ e = 0) (hh : h < 100) :
    Calls Try.prog 33 #[.pointer (some ⟨b, o, none⟩)] w fun r w' => r = .returned (.tuple #[.agg #[.bool false, .int .u64 n], .int .i64 e]) ∧ Below w.heap.size w w' := by
  have hw : IntKind.u64.wrap ((h : Int) - 0) = (h : Int) := by rw [Int.sub_zero]; exact wrap_u64_of _ (by omega) (by omega)
  have hw' : IntKind.u64.wrap (h : Int) = (h : Int) := wrap_u64_of _ (by omega) (by omega)
  have hA' : ∀ x, At (w.alloc x) b o (nmCells 0 p m h l) := fun x => alloc_cells hA x (by simp [nmCells])
  have hc1 := fun x => (hA' x).five.2.1.1
  have hc2 := fun x => (hA' x).five.2.2.1.1
  have hc3 := fun x => (hA' x).five.2.2.2.1.1
  have hc4 := fun x => (hA' x).five.2.2.2.2.1
  have HB := Lib.hid (fun x q => below_drewN ((Below.refl w.heap.size w).alloc (Nat.le_refl _) x) q)
  clear hA hA'
  rcases hm with rfl | ⟨rfl, rfl⟩ <;> rcases hr with ⟨h0, rfl, rfl⟩ | ⟨rfl, rfl, rfl⟩
  · have hz : ((h : Int) != 0) = true := by simp; omega
    clear h0 hh
    go_enter Try.func33, Try.ntmps33
    go_wp2
    go_quiet (fail)
    go_wp2
    simp [bodyPost, results, Try.results33, go_sem]
    exact ((HB.out _ _).setCell (Nat.le_refl _) _).setCell (Nat.le_refl _) _
  · have hz : (((0 : Nat) : Int) != 0) = false := rfl
    go_enter Try.func33, Try.ntmps33
    go_wp2
    go_quiet (fail)
    go_wp2
    simp [bodyPost, results, Try.results33, go_sem]
    exact ((HB.out _ _).setCell (Nat.le_refl _) _).setCell (Nat.le_refl _) _
  · have hz : ((h : Int) != 0) = true := by simp; omega
    clear h0 hh
    go_enter Try.func33, Try.ntmps33
    go_wp2
    go_quiet (fail)
    go_wp2
    simp [bodyPost, results, Try.results33, go_sem]
    exact ((HB.out _ _).setCell (Nat.le_refl _) _).setCell (Nat.le_refl _) _
  · have hz : (((0 : Nat) : Int) != 0) = false := rfl
    go_enter Try.func33, Try.ntmps33
    go_wp2
    go_quiet (fail)
    go_wp2
    simp [bodyPost, results, Try.results33, go_sem]
    exact ((HB.out _ _).setCell (Nat.le_refl _) _).setCell (Nat.le_refl _) _
set_option maxHeartbeats 1000000 in
theorem whole_minus {w : World} {b o h l : Nat} (hA : At w b o (nmCells 0 3 true h l)) (mag less k : Nat) (hS : ∀ W, (callFunc 37 #[.int .u64 l, .int .u64 1, .int .u64 0]).run Try.prog W = .ok (.value (.tuple #[.int .u64 mag, .int .u64 less])) W)
    (hk : h = less + k) (hh : h < 100) (q : Bool) (n e : Nat) (hr : k ≠ 0 ∧ q = false ∧ n = 0 ∧ e = 7 ∨ k = 0 ∧ q = true ∧ n = mag ∧ e = 0) :
    Calls Try.prog 33 #[.pointer (some ⟨b, o, none⟩)] w fun r w' => r = .returned (.tuple #[.agg #[.bool q, .int .u64 n], .int .i64 e]) ∧ Below w.heap.size w w' := by
  have hw : IntKind.u64.wrap ((h : Int) - (less : Int)) = (k : Int) := by rw [wrap_u64_of _ (by omega) (by omega)]; omega
  have hA' : ∀ x, At (w.alloc x) b o (nmCells 0 3 true h l) := fun x => alloc_cells hA x (by simp [nmCells])
  have hc1 := fun x => (hA' x).five.2.1.1
  have hc2 := fun x => (hA' x).five.2.2.1.1
  have hc3 := fun x => (hA' x).five.2.2.2.1.1
  have hc4 := fun x => (hA' x).five.2.2.2.2.1
  have HB := Lib.hid (fun x q => below_drewN ((Below.refl w.heap.size w).alloc (Nat.le_refl _) x) q)
  have HS := Lib.hid hS
  clear hA hA' hS hh hk
  rcases hr with ⟨h0, rfl, rfl, rfl⟩ | ⟨rfl, rfl, rfl, rfl⟩
  · have hz : ((k : Int) != 0) = true := by simp; omega
    clear h0
    go_enter Try.func33, Try.ntmps33
    go_wp2
    go_quiet (fail)
    go_wp2_with (simp only [HS.out])
    simp [bodyPost, results, Try.results33, go_sem]
    exact ((HB.out _ _).setCell (Nat.le_refl _) _).setCell (Nat.le_refl _) _
  · have hz : (((0 : Nat) : Int) != 0) = false := rfl
    go_enter Try.func33, Try.ntmps33
    go_wp2
    go_quiet (fail)
    go_wp2_with (simp only [HS.out])
    simp [bodyPost, results, Try.results33, go_sem]
    exact ((HB.out _ _).setCell (Nat.le_refl _) _).setCell (Nat.le_refl _) _
/-- whole: of a number with a digit. -/
theorem dwhole_at {w : World} {b o p v : Nat} {m : Bool} (h : DAt w b o (.num p m v)) (hp : 2 ≤ p) :
    Calls Try.prog 33 #[.pointer (some ⟨b, o, none⟩)] w fun r w' => r = .returned (.tuple #[.agg #[.bool (endD (.num p m v)).1.1, .int .u64 (endD (.num p m v)).1.2], .int .i64 (endD (.num p m v)).2]) ∧ Below w.heap.size w w' := by
  obtain ⟨⟨h1, h2, h3, _, _⟩, hi, lo, hA, hf1, hf2, hf3⟩ := h
  simp only [endD]
  rw [if_neg (by omega)]
  by_cases hm : m = true ∧ p ≠ 2
  · obtain ⟨rfl, hp2⟩ := hm
    obtain rfl : p = 3 := by omega
    have hv := h3 rfl
    rw [if_pos ⟨by trivial, hp2⟩]
    have hS := fun W => run_sub64 lo 1 0 (by decide) W
    have hS' : ∀ W, (callFunc 37 #[.int .u64 lo, .int .u64 1, .int .u64 0]).run Try.prog W = .ok (.value (.tuple #[.int .u64 (((lo + 18446744073709551616 - 1 - 0) % 18446744073709551616 : Nat) : Int), .int .u64 ((if lo < 1 + 0 then 1 else 0 : Nat) : Int)])) W := hS
    by_cases hl : lo < 1 + 0
    · rw [if_pos hl] at hS'
      obtain rfl : lo = 0 := by omega
      by_cases hr : v ≤ 18446744073709551616
      · rw [if_pos hr]
        refine whole_minus hA _ 1 (hi - 1) hS' (by omega) hf1 true _ 0 (.inr ⟨by omega, rfl, ?_, rfl⟩)
        show v - 1 = _
        omega
      · rw [if_neg hr]
        exact whole_minus hA _ 1 (hi - 1) hS' (by omega) hf1 false _ 7 (.inl ⟨by omega, rfl, rfl, rfl⟩)
    · rw [if_neg hl] at hS'
      by_cases hr : v ≤ 18446744073709551616
      · rw [if_pos hr]
        refine whole_minus hA _ 0 hi hS' (by omega) hf1 true _ 0 (.inr ⟨by omega, rfl, ?_, rfl⟩)
        show v - 1 = _
        omega
      · rw [if_neg hr]
        exact whole_minus hA _ 0 hi hS' (by omega) hf1 false _ 7 (.inl ⟨by omega, rfl, rfl, rfl⟩)
  · rw [if_neg hm]
    have hm' : m = false ∨ m = true ∧ p = 2 := by
      cases m with
      | false => exact .inl rfl
      | true => exact .inr ⟨rfl, by by_cases h : p = 2; exact h; exact absurd ⟨rfl, h⟩ hm⟩
    by_cases hr : v < 18446744073709551616
    · rw [if_pos hr]
      exact whole_plain hm' hA _ _ (.inr ⟨by omega, by show v = lo; omega, rfl⟩) hf1
    · rw [if_neg hr]
      exact whole_plain hm' hA _ _ (.inl ⟨by omega, rfl, rfl⟩) hf1
set_option maxHeartbeats 1000000 in
theorem end_err {w : World} {b o : Nat} (e : Nat) (he : e ≠ 0) {p h l : Nat} {m : Bool} (hA : At w b o (nmCells e p m h l)) :
    Calls Try.prog 23 #[.pointer (some ⟨b, o, none⟩)] w fun r w' => r = .returned (.tuple #[.agg #[.bool false, .int .u64 0], .int .i64 e]) ∧ Below w.heap.size w w' := by
  have hz : ((e : Int) != 0) = true := by simp; omega
  have hc0 := fun x => (alloc_cells hA x (by simp [nmCells])).five.1.1
  have HB := Lib.hid (fun x => (Below.refl w.heap.size w).alloc (Nat.le_refl _) x)
  clear hA he
  go_enter Try.func23, Try.ntmps23
  go_wp2
  go_region
  go_wp2
  simp [bodyPost, results, Try.results23, go_sem]
  exact (HB.out _).drew
set_option maxHeartbeats 1000000 in
theorem end_none {w : World} {b o : Nat} {p h l : Nat} {m : Bool} (hp : p < 2) (hA : At w b o (nmCells 0 p m h l)) :
    Calls Try.prog 23 #[.pointer (some ⟨b, o, none⟩)] w fun r w' => r = .returned (.tuple #[.agg #[.bool false, .int .u64 0], .int .i64 2]) ∧ Below w.heap.size w w' := by
  have hA' := fun x => alloc_cells hA x (by simp [nmCells])
  have hc0 := fun x => (hA' x).five.1.1
  have HD := Lib.hid (fun x => has_at p (by omega) (hA' x).five.2.1.1 false (by simp; omega))
  have HB := Lib.hid (fun x => (Below.refl w.heap.size w).alloc (Nat.le_refl _) x)
  clear hA hA' hp
  go_enter Try.func23, Try.ntmps23
  go_wp2_with fail
  refine (HD.out _).mono ?_
  rintro r w1 ⟨rfl, rfl⟩
  go_wp2
  simp [bodyPost, results, Try.results23, go_sem]
  exact HB.out _
set_option maxHeartbeats 1000000 in
theorem end_some {w : World} {b o p v : Nat} {m : Bool} (hp : 2 ≤ p) (h : DAt w b o (.num p m v)) :
    Calls Try.prog 23 #[.pointer (some ⟨b, o, none⟩)] w fun r w' => r = .returned (.tuple #[.agg #[.bool (endD (.num p m v)).1.1, .int .u64 (endD (.num p m v)).1.2], .int .i64 (endD (.num p m v)).2]) ∧ Below w.heap.size w w' := by
  have hp3 := h.wf.1
  have hA : ∀ x, DAt (w.alloc x) b o (.num p m v) := fun x => h.map fun vs hv k => k.alloc (by intro e; rw [e] at hv; simp at hv) x
  have hc0 := fun x => (hA x).first.1
  simp only [errD] at hc0
  have HD := Lib.hid (fun x => has_at (w := w.alloc x) (b := b) (o := o) p hp3 (by
    obtain ⟨_, _, _, k, _⟩ := hA x
    exact k.five.2.1.1) true (by simp; omega))
  have HW := Lib.hid (fun x => dwhole_at (hA x) hp)
  have HB := Lib.hid (fun x => (Below.refl w.heap.size w).alloc (Nat.le_refl _) x)
  clear hA h hp hp3
  generalize (endD (.num p m v)) = r at *
  obtain ⟨⟨q, n⟩, e⟩ := r
  simp only [] at HW ⊢
  go_enter Try.func23, Try.ntmps23
  go_wp2_with fail
  refine (HD.out _).mono ?_
  rintro r w1 ⟨rfl, rfl⟩
  go_wp2_with fail
  refine (HW.out _).mono ?_
  rintro r w1 ⟨rfl, hB⟩
  obtain ⟨k0, f0⟩ := new_cells hB 0 _ rfl
  obtain ⟨k1, f1⟩ := new_cells hB 1 _ rfl
  have hB2 := Lib.hid ((HB.out _).trans (hB.mono (by simp)))
  clear hB
  go_wp2
  simp [bodyPost, results, Try.results23, go_sem, k0, k1]
  exact (hB2.out.setCell (Nat.le_refl _) _).setCell (Nat.le_refl _) _
theorem dend_nil (w : World) : Calls Try.prog 23 #[.pointer none] w fun r w' => r = .returned (.tuple #[.agg #[.bool false, .int .u64 0], .int .i64 14]) ∧ Below w.heap.size w w' := by
  have HB := Lib.hid (fun x => (Below.refl w.heap.size w).alloc (Nat.le_refl _) x)
  go_enter Try.func23, Try.ntmps23
  go_wp2
  simp [bodyPost, results, Try.results23, go_sem]
  exact HB.out _
/-- END. -/
theorem dend_at {w : World} {b o : Nat} {s : Dec} (h : DAt w b o s) :
    Calls Try.prog 23 #[.pointer (some ⟨b, o, none⟩)] w fun r w' => r = .returned (.tuple #[.agg #[.bool (endD s).1.1, .int .u64 (endD s).1.2], .int .i64 (endD s).2]) ∧ Below w.heap.size w w' := by
  cases s with
  | bad f =>
    obtain ⟨p, m, hi, lo, hA⟩ := h
    exact end_err _ (by cases f <;> decide) hA
  | num p m v =>
    by_cases hp : p < 2
    · obtain ⟨_, hi, lo, hA, _⟩ := h
      have he : endD (.num p m v) = ((false, 0), 2) := by simp only [endD]; rw [if_pos hp]
      rw [he]
      exact end_none hp hA
    · exact end_some (by omega) h
end Go.Proofs.Yteonbajndghfcaa
