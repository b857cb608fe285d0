/-
  Parts: DecEnd, LexA, LexB, LexC, LexD, LexE, LexF.
-/
import Derived.Test.YtkgconbdmnmbnaaGreatG0d
import Derived.Test.YtkgconbdmnmbnaaGreatG0b
import Derived.Laws.RangeAny
import Derived.Deep.QuietTactic
import Derived.Deep.RegionWith
import Derived.Deep.RegionLaw
set_option maxRecDepth 100000
set_option maxHeartbeats 16000000
open Go.Lib (hid)
namespace Go.Proofs.YtkgconbdmnmbnaaGreat
section
open Go.RowKit
open Go.Lib
theorem cell_frozen0 {w : World} {b o : Nat} {v : Value} {vs : List Value} (h : At w b o (v :: vs)) : w.cell? ⟨b, o, none⟩ = some v ∧ w.frozen? ⟨b, o, none⟩ = false := h 0 v rfl
theorem step_core {w : World} {b o x : Nat} (hc : w.cell? ⟨b, o, none⟩ = some (.int .i64 0)) (q : Bool) (e : Nat) (R : World → Prop)
    (hT : Calls Tryz.prog 121 #[.pointer (some ⟨b, o, none⟩), .int .u8 x] w fun r w' => r = .returned (.tuple #[.bool q, .int .i64 e]) ∧ (∃ v, w'.cell? ⟨b, o, none⟩ = some v ∧ w'.frozen? ⟨b, o, none⟩ = false) ∧ R (w'.setCell ⟨b, o, none⟩ (.int .i64 e))) :
    Calls Tryz.prog 113 #[.pointer (some ⟨b, o, none⟩), .int .u8 x] w fun r w' => r = .returned (.tuple #[.bool q, .int .i64 e]) ∧ R w' := by
  have HT := hid hT; clear hT; go_enter Tryz.func113, Tryz.ntmps113; (go_wp2_with fail); refine HT.out.mono ?_; rintro r w1 ⟨rfl, ⟨v, hv, hfz⟩, hR⟩; have HR := hid hR; clear hR; go_wp2; go_ret2; exact ⟨rfl, HR.out⟩
theorem step_bad {w : World} {b o x : Nat} (e : Nat) (he : e ≠ 0) (hc : w.cell? ⟨b, o, none⟩ = some (.int .i64 e)) :
    Calls Tryz.prog 113 #[.pointer (some ⟨b, o, none⟩), .int .u8 x] w fun r w' => r = .returned (.tuple #[.bool false, .int .i64 e]) ∧ ∃ q, w' = w.drewN q := by
  have hz : ((e : Int) != 0) = true := by simp; omega
  clear he; go_enter Tryz.func113, Tryz.ntmps113; go_wp2
  go_quiet (fail)
  go_wp2; go_ret2; exact ⟨rfl, _, rfl⟩
theorem dat_err0 {w : World} {b o : Nat} {p : Nat} {m : Bool} {v : Nat} (h : DAt w b o (.num p m v)) : DPost w b o (.num p m v) (w.setCell ⟨b, o, none⟩ (.int .i64 0)) := by
  obtain ⟨hw, hi, lo, hA, hf⟩ := h; exact ⟨⟨hw, hi, lo, hA.set 0 (by simp [nmCells]) (.int .i64 0), hf⟩, sub_setCell w o _ (by omega)⟩
theorem dat_bad {w : World} {b o : Nat} {p : Nat} {m : Bool} {v : Nat} (f : Bool) (h : DAt w b o (.num p m v)) : DPost w b o (.bad f) (w.setCell ⟨b, o, none⟩ (.int .i64 (errD (.bad f)))) := by
  obtain ⟨hw, hi, lo, hA, hf⟩ := h; exact ⟨⟨p, m, hi, lo, hA.set 0 (by simp [nmCells]) (.int .i64 (errD (.bad f)))⟩, sub_setCell w o _ (by omega)⟩
theorem DPost.trans {w w1 w2 : World} {b o : Nat} {s s1 : Dec} (h : DPost w b o s1 w1) (k : DPost w1 b o s w2) : DPost w b o s w2 := ⟨k.1, h.2.trans k.2⟩
theorem DAt.first {w : World} {b o : Nat} {s : Dec} (h : DAt w b o s) : w.cell? ⟨b, o, none⟩ = some (.int .i64 (errD s)) ∧ w.frozen? ⟨b, o, none⟩ = false := by
  obtain ⟨_, _, _, _, h⟩ := h.cells; exact cell_frozen0 h
theorem dstep_at {w : World} {b o : Nat} {s : Dec} (h : DAt w b o s) (x : Nat) :
    Calls Tryz.prog 113 #[.pointer (some ⟨b, o, none⟩), .int .u8 x] w fun r w' => r = .returned (.tuple #[.bool (stepD s x).2, .int .i64 (errD (stepD s x).1)]) ∧ DPost w b o (stepD s x).1 w' := by
  cases s with
  | bad f =>
    have hc := h.first.1; have he : errD (.bad f) ≠ 0 := by cases f <;> decide
    refine (step_bad _ he hc).mono ?_; rintro r w' ⟨rfl, q, rfl⟩; exact ⟨rfl, h.drewN q, (Sub.refl _ _ _ _).drewN q⟩
  | num p m v =>
    have hc : w.cell? ⟨b, o, none⟩ = some (.int .i64 0) := h.first.1; by_cases c1 : x = 45 ∧ p = 0
    · obtain ⟨rfl, rfl⟩ := c1
      have hs : stepD (.num 0 m v) 45 = (.num 1 true v, true) := by simp only [stepD]; rw [if_pos ⟨by trivial, by trivial⟩]
      rw [hs]; refine step_core hc true 0 _ ?_; refine (take_minus h).mono ?_; rintro r w1 ⟨rfl, hP⟩; exact ⟨rfl, ⟨_, hP.1.first⟩, hP.trans (dat_err0 hP.1)⟩
    by_cases c2 : (48 ≤ x ∧ x ≤ 57) ∧ p ≠ 2
    · obtain ⟨p', v', hs⟩ : ∃ p' v', stepD (.num p m v) x = (.num p' m v', true) := by
        simp only [stepD]; rw [if_neg c1, if_pos c2]; split
        · exact ⟨_, _, rfl⟩
        · exact ⟨_, _, rfl⟩
      have hT := dtake_digit c2.2 c2.1 h; rw [hs] at hT ⊢; refine step_core hc true 0 _ ?_; refine hT.mono ?_; rintro r w1 ⟨rfl, hP⟩; exact ⟨rfl, ⟨_, hP.1.first⟩, hP.trans (dat_err0 hP.1)⟩
    · have hT := take_none h c1 c2 _ rfl
      have hs : (stepD (.num p m v) x).2 = false ∧ ((stepD (.num p m v) x).1 = .num p m v ∨ ∃ f, (stepD (.num p m v) x).1 = .bad f) := by
        simp only [stepD]; rw [if_neg c1, if_neg c2]; split
        · exact ⟨rfl, .inr ⟨_, rfl⟩⟩
        · split
          · exact ⟨rfl, .inr ⟨_, rfl⟩⟩
          · exact ⟨rfl, .inl rfl⟩
      obtain ⟨hs1, hs2⟩ := hs; rw [hs1]; refine step_core hc false _ _ ?_; refine hT.mono ?_; rintro r w1 ⟨rfl, rfl⟩; refine ⟨rfl, ⟨_, h.first⟩, ?_⟩; rcases hs2 with hs2 | ⟨f, hs2⟩
      · rw [hs2]; exact dat_err0 h
      · rw [hs2]; exact dat_bad f h
theorem new_cells {w w1 : World} {c : Array Value} {t : TypeId} (hB : Below (w.alloc (.cells c t)).heap.size (w.alloc (.cells c t)) w1) (i : Nat) (v : Value) (hv : c[i]? = some v) : w1.cell? ⟨w.heap.size, i, none⟩ = some v ∧ w1.frozen? ⟨w.heap.size, i, none⟩ = false := by
  have hk := hB.block w.heap.size (by simp); refine ⟨(World.cell?_of_block (w := w.alloc (.cells c t)) (a := ⟨w.heap.size, i, none⟩) hk).trans ?_, (World.frozen?_of_block (w := w.alloc (.cells c t)) (a := ⟨w.heap.size, i, none⟩) hk).trans ?_⟩
  · rw [World.cell?_alloc_new]; exact hv
  · exact World.frozen?_alloc_new _ _ _ _
theorem alloc_cells {w : World} {b o : Nat} {vs : List Value} (h : At w b o vs) (x : Obj) (hv : vs ≠ []) : At (w.alloc x) b o vs := h.alloc hv x
theorem whole_plain {w : World} {b o p h l : Nat} {m : Bool} (hm : m = false ∨ m = true ∧ p = 2) (hA : At w b o (nmCells 0 p m h l)) (n e : Nat) (hr : h ≠ 0 ∧ n = 0 ∧ e = 7 ∨ h = 0 ∧ n = l ∧ e = 0) (hh : h < 100) :
    Calls Tryz.prog 110 #[.pointer (some ⟨b, o, none⟩)] w fun r w' => r = .returned (.tuple #[.agg #[.bool false, .int .u64 n], .int .i64 e]) ∧ Below w.heap.size w w' := by
  have hw : IntKind.u64.wrap ((h : Int) - 0) = (h : Int) := by rw [Int.sub_zero]; exact wrap_u64_of _ (by omega) (by omega)
  have hw' : IntKind.u64.wrap (h : Int) = (h : Int) := wrap_u64_of _ (by omega) (by omega); have hA' : ∀ x, At (w.alloc x) b o (nmCells 0 p m h l) := fun x => alloc_cells hA x (by simp [nmCells])
  have hc1 := fun x => (hA' x).five.2.1.1
  have hc2 := fun x => (hA' x).five.2.2.1.1
  have hc3 := fun x => (hA' x).five.2.2.2.1.1
  have hc4 := fun x => (hA' x).five.2.2.2.2.1
  have HB := hid (fun x q => below_drewN ((Below.refl w.heap.size w).alloc (Nat.le_refl _) x) q); clear hA hA'; rcases hm with rfl | ⟨rfl, rfl⟩ <;> rcases hr with ⟨h0, rfl, rfl⟩ | ⟨rfl, rfl, rfl⟩
  · have hz : ((h : Int) != 0) = true := by simp; omega
    clear h0 hh; go_enter Tryz.func110, Tryz.ntmps110; go_wp2
    go_quiet (fail)
    go_wp2; simp [bodyPost, results, Tryz.results110, go_sem]; exact ((HB.out _ _).setCell (Nat.le_refl _) _).setCell (Nat.le_refl _) _
  · have hz : (((0 : Nat) : Int) != 0) = false := rfl
    go_enter Tryz.func110, Tryz.ntmps110; go_wp2
    go_quiet (fail)
    go_wp2; simp [bodyPost, results, Tryz.results110, go_sem]; exact ((HB.out _ _).setCell (Nat.le_refl _) _).setCell (Nat.le_refl _) _
  · have hz : ((h : Int) != 0) = true := by simp; omega
    clear h0 hh; go_enter Tryz.func110, Tryz.ntmps110; go_wp2
    go_quiet (fail)
    go_wp2; simp [bodyPost, results, Tryz.results110, go_sem]; exact ((HB.out _ _).setCell (Nat.le_refl _) _).setCell (Nat.le_refl _) _
  · have hz : (((0 : Nat) : Int) != 0) = false := rfl
    go_enter Tryz.func110, Tryz.ntmps110; go_wp2
    go_quiet (fail)
    go_wp2; simp [bodyPost, results, Tryz.results110, go_sem]; exact ((HB.out _ _).setCell (Nat.le_refl _) _).setCell (Nat.le_refl _) _
theorem whole_minus {w : World} {b o h l : Nat} (hA : At w b o (nmCells 0 3 true h l)) (mag less k : Nat) (hS : ∀ W, (callFunc 118 #[.int .u64 l, .int .u64 1, .int .u64 0]).run Tryz.prog W = .ok (.value (.tuple #[.int .u64 mag, .int .u64 less])) W)
    (hk : h = less + k) (hh : h < 100) (q : Bool) (n e : Nat) (hr : k ≠ 0 ∧ q = false ∧ n = 0 ∧ e = 7 ∨ k = 0 ∧ q = true ∧ n = mag ∧ e = 0) :
    Calls Tryz.prog 110 #[.pointer (some ⟨b, o, none⟩)] w fun r w' => r = .returned (.tuple #[.agg #[.bool q, .int .u64 n], .int .i64 e]) ∧ Below w.heap.size w w' := by
  have hw : IntKind.u64.wrap ((h : Int) - (less : Int)) = (k : Int) := by rw [wrap_u64_of _ (by omega) (by omega)]; omega
  have hA' : ∀ x, At (w.alloc x) b o (nmCells 0 3 true h l) := fun x => alloc_cells hA x (by simp [nmCells])
  have hc1 := fun x => (hA' x).five.2.1.1
  have hc2 := fun x => (hA' x).five.2.2.1.1
  have hc3 := fun x => (hA' x).five.2.2.2.1.1
  have hc4 := fun x => (hA' x).five.2.2.2.2.1
  have HB := hid (fun x q => below_drewN ((Below.refl w.heap.size w).alloc (Nat.le_refl _) x) q); have HS := hid hS; clear hA hA' hS hh hk; rcases hr with ⟨h0, rfl, rfl, rfl⟩ | ⟨rfl, rfl, rfl, rfl⟩
  · have hz : ((k : Int) != 0) = true := by simp; omega
    clear h0; go_enter Tryz.func110, Tryz.ntmps110; go_wp2
    go_quiet (fail)
    go_wp2_with (simp only [HS.out])
    simp [bodyPost, results, Tryz.results110, go_sem]; exact ((HB.out _ _).setCell (Nat.le_refl _) _).setCell (Nat.le_refl _) _
  · have hz : (((0 : Nat) : Int) != 0) = false := rfl
    go_enter Tryz.func110, Tryz.ntmps110; go_wp2
    go_quiet (fail)
    go_wp2_with (simp only [HS.out])
    simp [bodyPost, results, Tryz.results110, go_sem]; exact ((HB.out _ _).setCell (Nat.le_refl _) _).setCell (Nat.le_refl _) _
theorem dwhole_at {w : World} {b o p v : Nat} {m : Bool} (h : DAt w b o (.num p m v)) (hp : 2 ≤ p) :
    Calls Tryz.prog 110 #[.pointer (some ⟨b, o, none⟩)] w fun r w' => r = .returned (.tuple #[.agg #[.bool (endD (.num p m v)).1.1, .int .u64 (endD (.num p m v)).1.2], .int .i64 (endD (.num p m v)).2]) ∧ Below w.heap.size w w' := by
  obtain ⟨⟨h1, h2, h3, _, _⟩, hi, lo, hA, hf1, hf2, hf3⟩ := h; simp only [endD]; rw [if_neg (by omega)]; by_cases hm : m = true ∧ p ≠ 2
  · obtain ⟨rfl, hp2⟩ := hm
    obtain rfl : p = 3 := by omega
    have hv := h3 rfl; rw [if_pos ⟨by trivial, hp2⟩]; have hS := fun W => run_sub64 lo 1 0 (by decide) W
    have hS' : ∀ W, (callFunc 118 #[.int .u64 lo, .int .u64 1, .int .u64 0]).run Tryz.prog W = .ok (.value (.tuple #[.int .u64 (((lo + 18446744073709551616 - 1 - 0) % 18446744073709551616 : Nat) : Int), .int .u64 ((if lo < 1 + 0 then 1 else 0 : Nat) : Int)])) W := hS; by_cases hl : lo < 1 + 0
    · rw [if_pos hl] at hS'
      obtain rfl : lo = 0 := by omega
      by_cases hr : v ≤ 18446744073709551616
      · rw [if_pos hr]
        refine whole_minus hA _ 1 (hi - 1) hS' (by omega) hf1 true _ 0 (.inr ⟨by omega, rfl, ?_, rfl⟩); show v - 1 = _; omega
      · rw [if_neg hr]
        exact whole_minus hA _ 1 (hi - 1) hS' (by omega) hf1 false _ 7 (.inl ⟨by omega, rfl, rfl, rfl⟩)
    · rw [if_neg hl] at hS'
      by_cases hr : v ≤ 18446744073709551616
      · rw [if_pos hr]
        refine whole_minus hA _ 0 hi hS' (by omega) hf1 true _ 0 (.inr ⟨by omega, rfl, ?_, rfl⟩); show v - 1 = _; omega
      · rw [if_neg hr]
        exact whole_minus hA _ 0 hi hS' (by omega) hf1 false _ 7 (.inl ⟨by omega, rfl, rfl, rfl⟩)
  · rw [if_neg hm]
    have hm' : m = false ∨ m = true ∧ p = 2 := by
      cases m with
      | false => exact .inl rfl
      | true => exact .inr ⟨rfl, by by_cases h : p = 2; exact h; exact absurd ⟨rfl, h⟩ hm⟩
    by_cases hr : v < 18446744073709551616
    · rw [if_pos hr]
      exact whole_plain hm' hA _ _ (.inr ⟨by omega, by show v = lo; omega, rfl⟩) hf1
    · rw [if_neg hr]
      exact whole_plain hm' hA _ _ (.inl ⟨by omega, rfl, rfl⟩) hf1
theorem end_err {w : World} {b o : Nat} (e : Nat) (he : e ≠ 0) {p h l : Nat} {m : Bool} (hA : At w b o (nmCells e p m h l)) :
    Calls Tryz.prog 101 #[.pointer (some ⟨b, o, none⟩)] w fun r w' => r = .returned (.tuple #[.agg #[.bool false, .int .u64 0], .int .i64 e]) ∧ Below w.heap.size w w' := by
  have hz : ((e : Int) != 0) = true := by simp; omega
  have hc0 := fun x => (alloc_cells hA x (by simp [nmCells])).five.1.1
  have HB := hid (fun x => (Below.refl w.heap.size w).alloc (Nat.le_refl _) x); clear hA he; go_enter Tryz.func101, Tryz.ntmps101; go_wp2
  go_region
  go_wp2; simp [bodyPost, results, Tryz.results101, go_sem]; exact (HB.out _).drew
theorem end_none {w : World} {b o : Nat} {p h l : Nat} {m : Bool} (hp : p < 2) (hA : At w b o (nmCells 0 p m h l)) :
    Calls Tryz.prog 101 #[.pointer (some ⟨b, o, none⟩)] w fun r w' => r = .returned (.tuple #[.agg #[.bool false, .int .u64 0], .int .i64 2]) ∧ Below w.heap.size w w' := by
  have hA' := fun x => alloc_cells hA x (by simp [nmCells])
  have hc0 := fun x => (hA' x).five.1.1
  have HD := hid (fun x => has_at p (by omega) (hA' x).five.2.1.1 false (by simp; omega)); have HB := hid (fun x => (Below.refl w.heap.size w).alloc (Nat.le_refl _) x); clear hA hA' hp; go_enter Tryz.func101, Tryz.ntmps101; (go_wp2_with fail); refine (HD.out _).mono ?_; rintro r w1 ⟨rfl, rfl⟩; go_wp2; simp [bodyPost, results, Tryz.results101, go_sem]; exact HB.out _
theorem end_some {w : World} {b o p v : Nat} {m : Bool} (hp : 2 ≤ p) (h : DAt w b o (.num p m v)) :
    Calls Tryz.prog 101 #[.pointer (some ⟨b, o, none⟩)] w fun r w' => r = .returned (.tuple #[.agg #[.bool (endD (.num p m v)).1.1, .int .u64 (endD (.num p m v)).1.2], .int .i64 (endD (.num p m v)).2]) ∧ Below w.heap.size w w' := by
  have hp3 := h.wf.1; have hA : ∀ x, DAt (w.alloc x) b o (.num p m v) := fun x => h.map fun vs hv k => k.alloc (by intro e; rw [e] at hv; simp at hv) x
  have hc0 := fun x => (hA x).first.1
  simp only [errD] at hc0; have HD := hid (fun x => has_at (w := w.alloc x) (b := b) (o := o) p hp3 (by
    obtain ⟨_, _, _, k, _⟩ := hA x; exact k.five.2.1.1) true (by simp; omega))
  have HW := hid (fun x => dwhole_at (hA x) hp); have HB := hid (fun x => (Below.refl w.heap.size w).alloc (Nat.le_refl _) x); clear hA h hp hp3; generalize (endD (.num p m v)) = r at *
  obtain ⟨⟨q, n⟩, e⟩ := r; simp only [] at HW ⊢; go_enter Tryz.func101, Tryz.ntmps101; (go_wp2_with fail); refine (HD.out _).mono ?_; rintro r w1 ⟨rfl, rfl⟩; (go_wp2_with fail); refine (HW.out _).mono ?_; rintro r w1 ⟨rfl, hB⟩; obtain ⟨k0, f0⟩ := new_cells hB 0 _ rfl; obtain ⟨k1, f1⟩ := new_cells hB 1 _ rfl; have hB2 := hid ((HB.out _).trans (hB.mono (by simp))); clear hB; go_wp2; simp [bodyPost, results, Tryz.results101, go_sem, k0, k1]; exact (hB2.out.setCell (Nat.le_refl _) _).setCell (Nat.le_refl _) _
theorem dend_at {w : World} {b o : Nat} {s : Dec} (h : DAt w b o s) :
    Calls Tryz.prog 101 #[.pointer (some ⟨b, o, none⟩)] w fun r w' => r = .returned (.tuple #[.agg #[.bool (endD s).1.1, .int .u64 (endD s).1.2], .int .i64 (endD s).2]) ∧ Below w.heap.size w w' := by
  cases s with
  | bad f =>
    obtain ⟨p, m, hi, lo, hA⟩ := h; exact end_err _ (by cases f <;> decide) hA
  | num p m v =>
    by_cases hp : p < 2
    · obtain ⟨_, hi, lo, hA, _⟩ := h
      have he : endD (.num p m v) = ((false, 0), 2) := by simp only [endD]; rw [if_pos hp]
      rw [he]; exact end_none hp hA
    · exact end_some (by omega) h
end
section
open Go.RowKit
open Go.Lib
abbrev lxZ (e : Int) : List Value := [.int .i64 e, .int .i64 0, .int .i64 0, .int .i64 0, .int .u8 0, .int .u8 0, .bool false, .int .i64 0, .int .i64 0, .int .i64 0, .string ⟨#[]⟩, .int .i64 0, .int .i64 0, .bool false, .int .u64 0, .int .u64 0, .string ⟨#[]⟩, .int .i64 0]
theorem told_ok (p : Value) (v : Value) (w : World) : Calls Tryz.prog 93 #[p, v, .int .i64 0] w fun e w' => e = .returned (.tuple #[v, .int .i64 0]) ∧ w' = w := by
  go_enter Tryz.func93, Tryz.ntmps93; go_wp2; go_ret2; exact ⟨rfl, rfl⟩
theorem told_err {w : World} {b o : Nat} (h : Room w b o 18) (v : Value) (e : Nat) (he : e ≠ 0) :
    Calls Tryz.prog 93 #[.pointer (some ⟨b, o, none⟩), v, .int .i64 e] w fun r w' => r = .returned (.tuple #[.slice none 0 0, .int .i64 e]) ∧ At w' b o (lxZ e) ∧ Sub b o 18 w w' := by
  have hz : ((e : Int) != 0) = true := by simp; omega
  have HT := hid h; clear h he; go_enter Tryz.func93, Tryz.ntmps93
  go_wp2_with (refine wpList_store_room rfl 131 _ _ rfl b o (lxZ e) rfl rfl HT.out (by kernel_rfl) (by kernel_rfl) ?_)
  intro w1 HP; go_wp2; go_ret2; exact ⟨rfl, HP.out⟩
theorem sub_of_alloc {b o n : Nat} {w w1 : World} {x : Obj} (h : Sub b o n (w.alloc x) w1) (hb : b < w.heap.size) : Sub b o n w w1 := (sub_alloc b o n w x hb).trans h
theorem lend_at {w : World} {b o : Nat} (h : Room w b o 18) (t : Tk) :
    Calls Tryz.prog 102 #[.pointer (some ⟨b, o, none⟩), tkV t] w fun r w' => ∃ v, r = .returned v ∧ Tks w w' v [t] ∧ At w' b o (lxZ 0) ∧ Sub b o 18 w w' := by
  have HT := hid (h.alloc (.cells #[.int .u8 t.k, .string ⟨t.t.toArray⟩, .bool t.n.1, .int .u64 t.n.2] 201)); have HB := hid h.lt; have HK : Hid (∀ W : World, w.heap.size ≤ W.heap.size → Tks w (W.alloc (.cells #[.int .u8 t.k, .string ⟨t.t.toArray⟩, .bool t.n.1, .int .u64 t.n.2] 201)) (.slice (some ⟨W.heap.size, 0, none⟩) 1 1) [t]) := hid (fun W hW => tks_one w W t hW); unfold tkV; generalize (t.k : Int) = x0 at *
  generalize (⟨t.t.toArray⟩ : ByteArray) = x1 at *
  generalize t.n.1 = x2 at *
  generalize (t.n.2 : Int) = x3 at *
  clear h; go_enter Tryz.func102, Tryz.ntmps102
  go_wp2_with (refine wpList_store_room rfl 131 _ _ rfl b o (lxZ 0) rfl rfl HT.out (by kernel_rfl) (by kernel_rfl) ?_)
  intro w1 HP; have hB := Blk.lift (blk_new w #[.int .u8 x0, .string x1, .bool x2, .int .u64 x3] 201) (w2 := w1) (row := some b) ⟨HP.out.2.step.os, HP.out.2.step.tape, HP.out.2.step.output, HP.out.2.step.size, fun k hk hb => HP.out.2.step.block k hk (by simpa using hb)⟩ (by have := HB.out; simp; omega); have c0 := hB.cell 0; have c1 := hB.cell 1; have c2 := hB.cell 2; have c3 := hB.cell 3; simp only [List.getElem?_toArray, List.getElem?_cons_zero, List.getElem?_cons_succ] at c0 c1 c2 c3; have hsz : w.heap.size ≤ w1.heap.size := by have := HP.out.2.step.size; simp at this; omega
  have HS := hid hsz; clear hB hsz; go_wp2; go_ret; refine ⟨_, rfl, HK.out w1 HS.out, ?_, ?_⟩
  · exact HP.out.1.alloc (by simp) _
  · exact (sub_of_alloc HP.out.2 HB.out).alloc _ HB.out
end
section
open Go.RowKit
open Go.Lib
theorem dec_low (s : ByteArray) (pos : Nat) (h : pos < s.size) (h1 : (s[pos]'h).toNat < 128) : Utf8.decode s pos = ((s[pos]'h).toNat, 1) := by
  simp only [Utf8.decode, get_at s pos h, h1, if_true]
theorem letter_any (s : ByteArray) (i : Nat) (hi : i < s.size) (hb : ∀ k (h : k < s.size), (s[k]'h).toNat < 128) (w : World) :
    Calls Tryz.prog 114 #[.string s, .int .i64 i] w fun e w' => e = .returned (.int .i32 ((s[i]'hi).toNat : Nat)) ∧ Below w.heap.size w w' := by
  obtain ⟨xv, hx⟩ : ∃ xv, (s[i]'hi).toNat = xv := ⟨_, rfl⟩
  rw [hx]; have HX := hid hx; have HBS := hid hb; clear hx hb; go_enter Tryz.func114, Tryz.ntmps114; go_wp2
  go_loopw [5, 6] (fun _ _ wr => ∃ pos : Nat, pos ≤ i ∧ Hid (wr = w.iter s pos)) (fun _ _ wr => s.size - wr.iterPos w.heap.size)
  case atStart => exact ⟨0, by omega, hid rfl⟩
  case round =>
    obtain ⟨pos, hpi, HW⟩ := hrel; obtain rfl := HW.out; have hp : pos < s.size := by omega
    have hnext : ∀ ty, (Instr.next (.pointer (some ⟨w.heap.size, 0, none⟩)) true ty).run Tryz.prog (w.iter s pos) = _ := fun ty => run_next_any w s pos ty hp
    rw [dec_low s pos hp (HBS.out pos hp)] at hnext; have hr : (s[pos]'hp).toNat < 128 := HBS.out pos hp; have hB : Hid (Below w.heap.size w (w.iter s (pos + 1))) := hid ((Below.refl _ w).alloc (Nat.le_refl _) _); have hm : (w.iter s (pos + 1)).iterPos w.heap.size = pos + 1 := World.iterPos_iter w s (pos + 1); have hm0 : (w.iter s pos).iterPos w.heap.size = pos := World.iterPos_iter w s pos; by_cases he : pos = i
    · have hz : ((pos : Int) == (i : Int)) = true := by rw [beq_iff_eq]; omega
      have hx : (s[pos]'hp).toNat = xv := by have := HX.out; simp only [← he] at this; exact this
      rw [hx] at hnext hr; clear hx he; generalize w.iter s (pos + 1) = W2 at *
      generalize w.iter s pos = W1 at *
      go_wp2; go_ret; exact ⟨rfl, hB.out⟩
    · have hz : ((pos : Int) == (i : Int)) = false := by rw [beq_eq_false_iff_ne]; omega
      generalize (s[pos]'hp).toNat = y at hnext hr; go_wp2
      go_roundw
      case rel => exact ⟨pos + 1, by omega, hid rfl⟩
      case measure => rw [hm, hm0]; omega
def wordsX : List (Nat × List Nat) := [(116, [116, 114, 117, 101]), (102, [102, 97, 108, 115, 101]), (48, [110, 117, 108, 108])]
def bytesN (l : List Nat) : ByteArray := ⟨(l.map UInt8.ofNat).toArray⟩
def Wrd (k : Nat) (W : ByteArray) (i : Nat) (r : List Nat) : Prop := ∃ L, (k, L) ∈ wordsX ∧ W = bytesN L ∧ 1 ≤ i ∧ i < L.length ∧ r = L.drop i
theorem words_low {k : Nat} {L : List Nat} (h : (k, L) ∈ wordsX) : L.length ≤ 5 ∧ ∀ x ∈ L, x < 128 := by
  simp only [wordsX, List.mem_cons, Prod.mk.injEq, List.not_mem_nil, or_false] at h; rcases h with ⟨_, rfl⟩ | ⟨_, rfl⟩ | ⟨_, rfl⟩ <;> decide
theorem bytesN_size (l : List Nat) : (bytesN l).size = l.length := by simp [bytesN, ByteArray.size]
theorem bytesN_get (l : List Nat) (i : Nat) (h : i < (bytesN l).size) (hl : ∀ x ∈ l, x < 256) : ((bytesN l)[i]'h).toNat = l[i]'(by rw [bytesN_size] at h; exact h) := by
  have h' : i < l.length := by rw [bytesN_size] at h; exact h
  have : (bytesN l)[i]'h = UInt8.ofNat l[i] := by simp [bytesN, ByteArray.getElem_eq_getElem_data]
  rw [this]; have := hl l[i] (List.getElem_mem h'); simp; omega
theorem letter_word {k i : Nat} {W : ByteArray} {x : Nat} {q : List Nat} (h : Wrd k W i (x :: q)) (w : World) :
    Calls Tryz.prog 114 #[.string W, .int .i64 i] w fun e w' => e = .returned (.int .i32 (x : Nat)) ∧ Below w.heap.size w w' := by
  obtain ⟨L, hL, rfl, h1, h2, h3⟩ := h; obtain ⟨hl, hb⟩ := words_low hL; have hi : i < (bytesN L).size := by rw [bytesN_size]; exact h2
  have := letter_any (bytesN L) i hi (fun k hk => by rw [bytesN_get _ _ _ (fun x hx => by have := hb x hx; omega)]; exact hb _ (List.getElem_mem _)) w; rw [bytesN_get _ _ _ (fun x hx => by have := hb x hx; omega)] at this; rw [List.drop_eq_getElem_cons h2] at h3
  injection h3 with h3 _
  rw [h3]; exact this
theorem kindOf_any {k i : Nat} {W : ByteArray} {r : List Nat} (h : Wrd k W i r) (w : World) :
    Calls Tryz.prog 115 #[.string W] w fun e w' => e = .returned (.int .u8 k) ∧ w' = w := by
  obtain ⟨L, hL, rfl, _⟩ := h; simp only [wordsX, List.mem_cons, Prod.mk.injEq, List.not_mem_nil, or_false] at hL; rcases hL with ⟨rfl, rfl⟩ | ⟨rfl, rfl⟩ | ⟨rfl, rfl⟩
  · show Calls Tryz.prog 115 #[.string ⟨#[116, 114, 117, 101]⟩] w _
    go_enter Tryz.func115, Tryz.ntmps115; go_wp2; go_ret; exact ⟨rfl, rfl⟩
  · show Calls Tryz.prog 115 #[.string ⟨#[102, 97, 108, 115, 101]⟩] w _
    go_enter Tryz.func115, Tryz.ntmps115; go_wp2; go_ret; exact ⟨rfl, rfl⟩
  · show Calls Tryz.prog 115 #[.string ⟨#[110, 117, 108, 108]⟩] w _
    go_enter Tryz.func115, Tryz.ntmps115; go_wp2; go_ret; exact ⟨rfl, rfl⟩
theorem wordOf_any (b : Nat) (hb : b = 116 ∨ b = 102 ∨ b = 110) (w : World) : ∃ k W r, Wrd k W 1 r ∧ startX b = (.word k r, []) ∧
    Calls Tryz.prog 116 #[.int .u8 b] w fun e w' => e = .returned (.string W) ∧ w' = w := by
  rcases hb with rfl | rfl | rfl
  · refine ⟨116, ⟨#[116, 114, 117, 101]⟩, [114, 117, 101], ⟨[116, 114, 117, 101], by decide, rfl, by decide, by decide, rfl⟩, rfl, ?_⟩
    go_enter Tryz.func116, Tryz.ntmps116; go_wp2; go_ret; exact ⟨rfl, rfl⟩
  · refine ⟨102, ⟨#[102, 97, 108, 115, 101]⟩, [97, 108, 115, 101], ⟨[102, 97, 108, 115, 101], by decide, rfl, by decide, by decide, rfl⟩, rfl, ?_⟩
    go_enter Tryz.func116, Tryz.ntmps116; go_wp2; go_ret; exact ⟨rfl, rfl⟩
  · refine ⟨48, ⟨#[110, 117, 108, 108]⟩, [117, 108, 108], ⟨[110, 117, 108, 108], by decide, rfl, by decide, by decide, rfl⟩, rfl, ?_⟩
    go_enter Tryz.func116, Tryz.ntmps116; go_wp2; go_ret; exact ⟨rfl, rfl⟩
end
section
open Go.RowKit
open Go.Lib
theorem insE_eq (s : Ins) : insE s = errI s := by
  match s with
  | .text _ _ _ => rfl
  | .back => rfl
  | .hex _ _ => rfl
  | .high _ _ _ => rfl
  | .bad true => rfl
  | .bad false => rfl
def errX : Lx → Nat
  | .bad e => e
  | _ => 0
def LAt (w : World) (b o : Nat) : Lx → Prop
  | .bad e => e ≠ 0 ∧ At w b o (lxZ e)
  | .idle => At w b o (lxZ 0)
  | .str s t => (errI s = 0 ∧ t.length ≤ 200) ∧ At w b o [.int .i64 0, .int .i64 1] ∧ EAt w b (o + 2) s ∧ At w b (o + 10) [.string ⟨t.toArray⟩] ∧ Room w b o 18
  | .num d => errD d = 0 ∧ At w b o [.int .i64 0, .int .i64 2] ∧ At w b (o + 10) [.string ⟨#[]⟩] ∧ DAt w b (o + 11) d ∧ Room w b o 18
  | .word k r => ∃ W i, Wrd k W i r ∧ At w b o [.int .i64 0, .int .i64 3] ∧ At w b (o + 10) [.string ⟨#[]⟩] ∧ At w b (o + 16) [.string W, .int .i64 (i : Nat)] ∧ Room w b o 18
theorem lxz_room {w : World} {b o : Nat} {e : Int} (h : At w b o (lxZ e)) : Room w b o 18 := h.room (by simp)
theorem LAt.room {w : World} {b o : Nat} {s : Lx} (h : LAt w b o s) : Room w b o 18 := by
  match s, h with
  | .bad e, h => exact lxz_room h.2
  | .idle, h => exact lxz_room h
  | .str s t, h => exact h.2.2.2.2
  | .num d, h => exact h.2.2.2.2
  | .word k r, h => obtain ⟨W, i, _, _, _, _, h⟩ := h; exact h
theorem LAt.keep {w w' : World} {b o : Nat} {s : Lx} (h : LAt w b o s) (hk : w'.heap[b]? = w.heap[b]?) : LAt w' b o s := by
  match s, h with
  | .bad e, h => exact ⟨h.1, h.2.keep hk⟩
  | .idle, h => exact At.keep h hk
  | .str s t, h => exact ⟨h.1, h.2.1.keep hk, h.2.2.1.keep hk, h.2.2.2.1.keep hk, h.2.2.2.2.keep hk⟩
  | .num d, h => exact ⟨h.1, h.2.1.keep hk, h.2.2.1.keep hk, h.2.2.2.1.keep hk, h.2.2.2.2.keep hk⟩
  | .word k r, h => obtain ⟨W, i, h0, h1, h2, h3, h4⟩ := h; exact ⟨W, i, h0, h1.keep hk, h2.keep hk, h3.keep hk, h4.keep hk⟩
theorem LAt.lt {w : World} {b o : Nat} {s : Lx} (h : LAt w b o s) : b < w.heap.size := h.room.lt
theorem LAt.sub {w w' : World} {b o o' n : Nat} {s : Lx} (h : LAt w b o s) (k : Sub b o' n w w') (hd : o + 18 ≤ o' ∨ o' + n ≤ o) : LAt w' b o s := by
  match s, h with
  | .bad e, h => exact ⟨h.1, h.2.sub k (by simp only [List.length_cons, List.length_nil]; omega)⟩
  | .idle, h => exact At.sub h k (by simp only [List.length_cons, List.length_nil]; omega)
  | .str s t, h => exact ⟨h.1, h.2.1.sub k (by simp only [List.length_cons, List.length_nil]; omega), h.2.2.1.sub k (by omega), h.2.2.2.1.sub k (by simp only [List.length_cons, List.length_nil]; omega), h.2.2.2.2.sub k⟩
  | .num d, h => exact ⟨h.1, h.2.1.sub k (by simp only [List.length_cons, List.length_nil]; omega), h.2.2.1.sub k (by simp only [List.length_cons, List.length_nil]; omega), h.2.2.2.1.sub k (by omega), h.2.2.2.2.sub k⟩
  | .word k' r, h =>
    obtain ⟨W, i, h0, h1, h2, h3, h4⟩ := h; exact ⟨W, i, h0, h1.sub k (by simp only [List.length_cons, List.length_nil]; omega), h2.sub k (by simp only [List.length_cons, List.length_nil]; omega), h3.sub k (by simp only [List.length_cons, List.length_nil]; omega), h4.sub k⟩
theorem lxz_parts {w : World} {b o : Nat} {e : Int} (h : At w b o (lxZ e)) :
    At w b o [.int .i64 e, .int .i64 0] ∧ EAt w b (o + 2) insT ∧ At w b (o + 10) [.string ⟨#[]⟩] ∧ DAt w b (o + 11) d0 ∧ At w b (o + 16) [.string ⟨#[]⟩, .int .i64 0] ∧ Room w b o 18 := by
  have h0 : At w b o ([.int .i64 e, .int .i64 0] ++ (rdZero.toList ++ ([.string ⟨#[]⟩] ++ (nmCells 0 0 false 0 0 ++ [.string ⟨#[]⟩, .int .i64 0])))) := h; have h1 := h0.right; have h2 := h1.right; have h3 := h2.right; have h4 := h3.right; exact ⟨h0.left, eat_of h1.left, h2.left, dat_zero h3.left, h4, lxz_room h⟩
def LPost (w : World) (b o : Nat) (s : Lx) (w' : World) : Prop := Sub b o 18 w w' ∧ (errX s = 0 → LAt w' b o s)
theorem LPost.idle {w w' : World} {b o : Nat} (h : At w' b o (lxZ 0)) (k : Sub b o 18 w w') : LPost w b o .idle w' := ⟨k, fun _ => h⟩
theorem begin_blank {w : World} (p : Value) (x : Nat) (hx : x = 32 ∨ x = 9 ∨ x = 10 ∨ x = 13) :
    Calls Tryz.prog 106 #[p, .int .u8 x] w fun r w' => r = .returned (.tuple #[.slice none 0 0, .int .i64 0]) ∧ w' = w := by
  rcases hx with rfl | rfl | rfl | rfl
  all_goals
    go_enter Tryz.func106, Tryz.ntmps106; go_wp2; go_ret2; exact ⟨rfl, rfl⟩
theorem begin_sign {w : World} {b o : Nat} (h : At w b o (lxZ 0)) (x : Nat) (hx : x = 123 ∨ x = 125 ∨ x = 91 ∨ x = 93 ∨ x = 58 ∨ x = 44) :
    Calls Tryz.prog 106 #[.pointer (some ⟨b, o, none⟩), .int .u8 x] w fun r w' => ∃ v, r = .returned (.tuple #[v, .int .i64 0]) ∧ Tks w w' v [sgnT x] ∧ At w' b o (lxZ 0) ∧ Sub b o 18 w w' := by
  have HE : Hid (Calls Tryz.prog 102 #[.pointer (some ⟨b, o, none⟩), .agg #[.int .u8 x, .string ⟨#[]⟩, .bool false, .int .u64 0]] w fun r w' => ∃ v, r = .returned v ∧ Tks w w' v [sgnT x] ∧ At w' b o (lxZ 0) ∧ Sub b o 18 w w') := hid (lend_at (lxz_room h) (sgnT x)); clear h; rcases hx with rfl | rfl | rfl | rfl | rfl | rfl
  all_goals
    go_enter Tryz.func106, Tryz.ntmps106; (go_wp2_with fail); refine HE.out.mono ?_; rintro r w1 ⟨v, rfl, hT⟩; have HT := hid hT; clear hT; go_wp2; go_ret2; exact ⟨v, rfl, HT.out⟩
theorem at_two {w : World} {b o : Nat} {v0 v1 : Value} (h : At w b o [v0, v1]) : (w.cell? ⟨b, o, none⟩ = some v0 ∧ w.frozen? ⟨b, o, none⟩ = false) ∧ (w.cell? ⟨b, o + 1, none⟩ = some v1 ∧ w.frozen? ⟨b, o + 1, none⟩ = false) := ⟨h 0 v0 rfl, h 1 v1 rfl⟩
theorem begin_quote {w : World} {b o : Nat} (h : At w b o (lxZ 0)) :
    Calls Tryz.prog 106 #[.pointer (some ⟨b, o, none⟩), .int .u8 34] w fun r w' => r = .returned (.tuple #[.slice none 0 0, .int .i64 0]) ∧ LPost w b o (.str insT []) w' := by
  obtain ⟨h0, h1, h2, h3, h4, h5⟩ := lxz_parts h; have hs := sub_setCell (b := b) (o := o + 1) (n := 1) w (o + 1) (.int .i64 1) (by omega); have HP : Hid (LPost w b o (.str insT []) (w.setCell ⟨b, o + 1, none⟩ (.int .i64 1))) := hid
    ⟨hs.widen (by omega) (by omega), fun _ => ⟨⟨rfl, by simp⟩, h0.set 1 (by simp) _, h1.sub hs (by omega), h2.sub hs (by simp only [List.length_cons, List.length_nil]; omega), h5.sub hs⟩⟩
  obtain ⟨_, c1, f1⟩ := at_two h0; clear h h0 h1 h2 h3 h4 h5 hs; go_enter Tryz.func106, Tryz.ntmps106; go_wp2; go_ret2; exact ⟨rfl, HP.out⟩
theorem begin_word {w : World} {b o : Nat} (h : At w b o (lxZ 0)) (x : Nat) (hx : x = 116 ∨ x = 102 ∨ x = 110) :
    Calls Tryz.prog 106 #[.pointer (some ⟨b, o, none⟩), .int .u8 x] w fun r w' => r = .returned (.tuple #[.slice none 0 0, .int .i64 0]) ∧ LPost w b o (startX x).1 w' ∧ (startX x).2 = [] := by
  obtain ⟨k, W, r, hW, hst, hC⟩ := wordOf_any x hx w; rw [hst]; obtain ⟨h0, _, h2, _, h4, h5⟩ := lxz_parts h; have s1 := sub_setCell (b := b) (o := o + 1) (n := 1) w (o + 1) (.int .i64 3) (by omega); have s2 := sub_setCell (b := b) (o := o + 16) (n := 2) (w.setCell ⟨b, o + 1, none⟩ (.int .i64 3)) (o + 16) (.string W) (by omega); have s3 := sub_setCell (b := b) (o := o + 16) (n := 2) ((w.setCell ⟨b, o + 1, none⟩ (.int .i64 3)).setCell ⟨b, o + 16, none⟩ (.string W)) (o + 17) (.int .i64 1) (by omega); have ss := s2.trans s3; have a4 := ((h4.sub s1 (by omega)).set 0 (by simp) (.string W)).set 1 (by simp) (.int .i64 1); have HP : Hid (LPost w b o (.word k r) (((w.setCell ⟨b, o + 1, none⟩ (.int .i64 3)).setCell ⟨b, o + 16, none⟩ (.string W)).setCell ⟨b, o + 17, none⟩ (.int .i64 1))) := hid
    ⟨(s1.widen (by omega) (by omega)).trans (ss.widen (by omega) (by omega)), fun _ => ⟨W, 1, hW, (h0.set 1 (by simp) _).sub ss (by simp only [List.length_set, List.length_cons, List.length_nil]; omega), (h2.sub s1 (by omega)).sub ss (by simp only [List.length_cons, List.length_nil]; omega), a4, (h5.sub s1).sub ss⟩⟩
  obtain ⟨_, c1, f1⟩ := at_two h0; obtain ⟨⟨c2, f2⟩, c3, f3⟩ := at_two h4; have HC := hid hC; clear h h0 h2 h4 h5 s1 s2 s3 ss a4 hW hst hC; rcases hx with rfl | rfl | rfl
  all_goals
    go_enter Tryz.func106, Tryz.ntmps106; (go_wp2_with fail); refine HC.out.mono ?_; rintro r w1 ⟨rfl, rfl⟩; go_wp2; go_ret2; exact ⟨rfl, HP.out, trivial⟩
theorem bnum_at {w : World} {b o : Nat} (h : At w b o (lxZ 0)) (x : Nat) :
    Calls Tryz.prog 117 #[.pointer (some ⟨b, o, none⟩), .int .u8 x] w fun r w' => r = .returned (.tuple #[.slice none 0 0, .int .i64 (errD (stepD d0 x).1)]) ∧ Sub b o 18 w w' ∧ (errD (stepD d0 x).1 = 0 → LAt w' b o (.num (stepD d0 x).1)) := by
  obtain ⟨h0, _, h2, h3, _, h5⟩ := lxz_parts h; have s1 := sub_setCell (b := b) (o := o + 1) (n := 1) w (o + 1) (.int .i64 2) (by omega); have HD := hid (dstep_at (h3.sub s1 (by omega)) x); have HP : Hid (∀ w', DPost (w.setCell ⟨b, o + 1, none⟩ (.int .i64 2)) b (o + 11) (stepD d0 x).1 w' → Sub b o 18 w w' ∧ (errD (stepD d0 x).1 = 0 → LAt w' b o (.num (stepD d0 x).1))) := hid (fun w' hp =>
    ⟨(s1.widen (by omega) (by omega)).trans (hp.2.widen (by omega) (by omega)), fun he => ⟨he, (h0.set 1 (by simp) _).sub hp.2 (by simp only [List.length_set, List.length_cons, List.length_nil]; omega), (h2.sub s1 (by omega)).sub hp.2 (by simp only [List.length_cons, List.length_nil]; omega), hp.1, (h5.sub s1).sub hp.2⟩⟩)
  obtain ⟨_, c1, f1⟩ := at_two h0; clear h h0 h2 h3 h5 s1; generalize stepD d0 x = q at *
  obtain ⟨q1, q2⟩ := q; simp only [] at HD HP ⊢; obtain ⟨E, hE⟩ : ∃ E : Nat, errD q1 = E := ⟨_, rfl⟩
  rw [hE] at HD HP ⊢; clear hE; go_enter Tryz.func117, Tryz.ntmps117; (go_wp2_with fail); refine HD.out.mono ?_; rintro r w1 ⟨rfl, hp⟩; have HQ := hid (HP.out w1 hp); clear hp; go_wp2; go_ret2; exact ⟨rfl, HQ.out⟩
def isElse (x : Nat) : Prop := isBlank x = false ∧ isSgn x = false ∧ x ≠ 34 ∧ x ≠ 116 ∧ x ≠ 102 ∧ x ≠ 110
theorem start_else {x : Nat} (h : isElse x) : (errD (stepD d0 x).1 = 0 → startX x = (.num (stepD d0 x).1, [])) ∧ (errD (stepD d0 x).1 ≠ 0 → startX x = (.bad (errD (stepD d0 x).1), [])) := by
  obtain ⟨h1, h2, h3, h4, h5, h6⟩ := h; unfold startX; rw [if_neg (by rw [h1]; decide), if_neg (by rw [h2]; decide), if_neg h3]; by_cases hd : x = 45 ∨ 48 ≤ x ∧ x ≤ 57
  · rw [if_pos hd]
    refine ⟨fun _ => rfl, fun he => absurd ?_ he⟩; rcases hd with rfl | hd
    · rfl
    · simp only [d0, stepD]
      rw [if_neg (by omega), if_pos ⟨hd, by omega⟩]; split <;> rfl
  · rw [if_neg hd, if_neg h4, if_neg h5, if_neg h6]
    have : errD (stepD d0 x).1 = 2 := by
      simp only [d0, stepD]; rw [if_neg (by omega), if_neg (by omega), if_pos (by omega)]; rfl
    rw [this]; exact ⟨fun h => absurd h (by decide), fun _ => rfl⟩
theorem begin_else {w : World} {b o : Nat} (h : At w b o (lxZ 0)) (x : Nat) (hx : isElse x) :
    Calls Tryz.prog 106 #[.pointer (some ⟨b, o, none⟩), .int .u8 x] w fun r w' => r = .returned (.tuple #[.slice none 0 0, .int .i64 (errX (startX x).1)]) ∧ LPost w b o (startX x).1 w' ∧ (startX x).2 = [] := by
  obtain ⟨g1, g2⟩ := start_else hx; have HB : Hid (Calls Tryz.prog 117 #[.pointer (some ⟨b, o, none⟩), .int .u8 x] w fun r w' => r = .returned (.tuple #[.slice none 0 0, .int .i64 (errX (startX x).1)]) ∧ LPost w b o (startX x).1 w' ∧ (startX x).2 = []) := hid (by
    refine (bnum_at h x).mono ?_; rintro r w' ⟨rfl, hs, hL⟩; by_cases he : errD (stepD d0 x).1 = 0
    · rw [g1 he]
      exact ⟨by rw [he]; rfl, ⟨hs, fun _ => hL he⟩, rfl⟩
    · rw [g2 he]
      exact ⟨rfl, ⟨hs, fun e => absurd e he⟩, rfl⟩)
  obtain ⟨h1, h2, h3, h4, h5, h6⟩ := hx; simp only [isBlank, isSgn, Bool.or_eq_false_iff, beq_eq_false_iff_ne] at h1 h2; have hne : ∀ y : Nat, x ≠ y → ((x : Int) == (y : Int)) = false := fun y hy => by rw [beq_eq_false_iff_ne]; omega
  have a1 : ((x : Int) == 32) = false := hne 32 (by omega); have a2 : ((x : Int) == 9) = false := hne 9 (by omega); have a3 : ((x : Int) == 10) = false := hne 10 (by omega); have a4 : ((x : Int) == 13) = false := hne 13 (by omega); have a5 : ((x : Int) == 123) = false := hne 123 (by omega); have a6 : ((x : Int) == 125) = false := hne 125 (by omega); have a7 : ((x : Int) == 91) = false := hne 91 (by omega); have a8 : ((x : Int) == 93) = false := hne 93 (by omega); have a9 : ((x : Int) == 58) = false := hne 58 (by omega); have a10 : ((x : Int) == 44) = false := hne 44 (by omega); have a11 : ((x : Int) == 34) = false := hne 34 (by omega); have a12 : ((x : Int) == 116) = false := hne 116 (by omega); have a13 : ((x : Int) == 102) = false := hne 102 (by omega); have a14 : ((x : Int) == 110) = false := hne 110 (by omega); clear h h1 h2 h3 h4 h5 h6 g1 g2 hne; generalize startX x = q at *
  obtain ⟨q1, q2⟩ := q; simp only [] at HB ⊢; obtain ⟨E, hE⟩ : ∃ E : Nat, errX q1 = E := ⟨_, rfl⟩
  rw [hE] at HB ⊢; clear hE; go_enter Tryz.func106, Tryz.ntmps106; (go_wp2_with fail); refine HB.out.mono ?_; rintro r w1 ⟨rfl, hp⟩; have HQ := hid hp; clear hp; go_wp2; go_ret2; exact ⟨rfl, HQ.out⟩
theorem lbegin_at {w : World} {b o : Nat} (h : At w b o (lxZ 0)) (x : Nat) :
    Calls Tryz.prog 106 #[.pointer (some ⟨b, o, none⟩), .int .u8 x] w fun r w' => ∃ v, r = .returned (.tuple #[v, .int .i64 (errX (startX x).1)]) ∧ Tks w w' v (startX x).2 ∧ LPost w b o (startX x).1 w' := by
  by_cases h1 : isBlank x = true
  · have e : startX x = (.idle, []) := by unfold startX; rw [if_pos h1]
    rw [e]; refine (begin_blank _ x (by simp only [isBlank, Bool.or_eq_true, beq_iff_eq] at h1; omega)).mono ?_; rintro r w' ⟨rfl, rfl⟩; exact ⟨_, rfl, Tks.nil_ _ _, Sub.refl _ _ _ _, fun _ => h⟩
  by_cases h2 : isSgn x = true
  · have e : startX x = (.idle, [sgnT x]) := by unfold startX; rw [if_neg h1, if_pos h2]
    rw [e]; refine (begin_sign h x (by simp only [isSgn, Bool.or_eq_true, beq_iff_eq] at h2; omega)).mono ?_; rintro r w' ⟨v, rfl, hT, hA, hS⟩; exact ⟨v, rfl, hT, LPost.idle hA hS⟩
  by_cases h3 : x = 34
  · subst h3
    refine (begin_quote h).mono ?_; rintro r w' ⟨rfl, hP⟩; exact ⟨_, rfl, Tks.nil_ _ _, hP⟩
  by_cases h4 : x = 116 ∨ x = 102 ∨ x = 110
  · have e : errX (startX x).1 = 0 := by rcases h4 with rfl | rfl | rfl <;> rfl
    rw [e]; refine (begin_word h x h4).mono ?_; rintro r w' ⟨rfl, hP, hn⟩; rw [hn]; exact ⟨_, rfl, Tks.nil_ _ _, hP⟩
  refine (begin_else h x ⟨by simpa using h1, by simpa using h2, h3, by omega, by omega, by omega⟩).mono ?_; rintro r w' ⟨rfl, hP, hn⟩; rw [hn]; exact ⟨_, rfl, Tks.nil_ _ _, hP⟩
end
section
open Go.RowKit
open Go.Lib
theorem lendnum_at {w : World} {b o : Nat} {d : Dec} (h : LAt w b o (.num d)) :
    Calls Tryz.prog 94 #[.pointer (some ⟨b, o, none⟩)] w fun r w' => ∃ v, r = .returned (.tuple #[v, .int .i64 (endD d).2]) ∧ Sub b o 18 w w' ∧ ((endD d).2 = 0 → Tks w w' v [⟨110, [], (endD d).1⟩] ∧ At w' b o (lxZ 0)) := by
  have hb := h.lt; have hR := h.room; have hE := dend_at h.2.2.2.1; obtain ⟨⟨⟨q, n⟩, e⟩, he⟩ : ∃ p, endD d = p := ⟨_, rfl⟩
  rw [he] at hE ⊢; simp only [] at hE ⊢; have HR := hid (And.intro hb hR); have HE := hid hE; clear hE he h hb hR; by_cases h0 : e = 0
  · subst h0
    go_enter Tryz.func94, Tryz.ntmps94; (go_wp2_with fail); refine HE.out.mono ?_; rintro r w1 ⟨rfl, hB⟩; have HB := hid hB; clear hB; obtain ⟨W, hW⟩ : ∃ W, w1.alloc (.cells #[.bool q, .int .u64 n] 123) = W := ⟨_, rfl⟩
    have hBW : Below w.heap.size w W := by rw [← hW]; exact HB.out.alloc HB.out.size _
    have hRW : Room W b o 18 := HR.out.2.keep (hBW.block b HR.out.1); have hsW : Sub b o 18 w W := sub_of_below hBW HR.out.1 _ _; have c0 : W.cell? ⟨w1.heap.size, 0, none⟩ = some (.bool q) := by rw [← hW]; exact (blk_new w1 _ _).cell 0
    have c1 : W.cell? ⟨w1.heap.size, 1, none⟩ = some (.int .u64 n) := by rw [← hW]; exact (blk_new w1 _ _).cell 1
    have HX : Hid (Calls Tryz.prog 102 #[.pointer (some ⟨b, o, none⟩), .agg #[.int .u8 110, .string ⟨#[]⟩, .bool q, .int .u64 n]] W fun r w' => ∃ v, r = .returned v ∧ Tks W w' v [⟨110, [], (q, n)⟩] ∧ At w' b o (lxZ 0) ∧ Sub b o 18 W w') := hid (lend_at hRW ⟨110, [], (q, n)⟩); have HS := hid (And.intro hsW hBW); clear hBW hRW hsW
    go_wp2_with (rw [hW])
    refine HX.out.mono ?_; rintro r w2 ⟨v, rfl, hT, hA, hs⟩; have HT := hid (And.intro hT (And.intro hA hs)); clear hT hA hs; go_wp2; go_ret2; exact ⟨v, rfl, HS.out.1.trans HT.out.2.2, fun _ => ⟨HT.out.1.old HS.out.2.size, HT.out.2.1⟩⟩
  · have hz : ((e : Int) != 0) = true := by simp; omega
    go_enter Tryz.func94, Tryz.ntmps94; (go_wp2_with fail); refine HE.out.mono ?_; rintro r w1 ⟨rfl, hB⟩; have HB := hid hB; clear hB; go_wp2; go_ret2; refine ⟨_, rfl, ?_, fun h => absurd h h0⟩; exact sub_of_below (HB.out.alloc HB.out.size _) HR.out.1 _ _
end
section
open Go.RowKit
open Go.Lib
theorem at_ten {w : World} {b o : Nat} {v : Value} (h : At w b o [v]) : w.cell? ⟨b, o, none⟩ = some v ∧ w.frozen? ⟨b, o, none⟩ = false := h 0 v rfl
theorem u8eq (x : UInt8) (y : Nat) (h : x.toNat ≠ y) : ((x.toNat : Int) == (y : Int)) = false := by rw [beq_eq_false_iff_ne]; omega
def TPostL (w : World) (b o : Nat) (p : Lx × List Tk) (v : Value) (w' : World) : Prop := LPost w b o p.1 w' ∧ (errX p.1 = 0 → Tks w w' v p.2)
theorem inner_end {w : World} {b o : Nat} {s : Ins} {t : List UInt8} (h : LAt w b o (.str s t)) (hw : wholeI s = true) :
    Calls Tryz.prog 103 #[.pointer (some ⟨b, o, none⟩), .int .u8 34] w fun r w' => ∃ v, r = .returned (.tuple #[v, .int .i64 0]) ∧ TPostL w b o (.idle, [⟨115, t, (false, 0)⟩]) v w' := by
  have HW := hid (ewhole_at h.2.2.1); rw [hw] at HW; obtain ⟨c10, f10⟩ := at_ten h.2.2.2.1; have HX : Hid (Calls Tryz.prog 102 #[.pointer (some ⟨b, o, none⟩), .agg #[.int .u8 115, .string ⟨t.toArray⟩, .bool false, .int .u64 0]] w fun r w' => ∃ v, r = .returned v ∧ Tks w w' v [⟨115, t, (false, 0)⟩] ∧ At w' b o (lxZ 0) ∧ Sub b o 18 w w') := hid (lend_at h.room ⟨115, t, (false, 0)⟩); obtain ⟨X, hX⟩ : ∃ X : ByteArray, (⟨t.toArray⟩ : ByteArray) = X := ⟨_, rfl⟩
  rw [hX] at c10 HX; clear h hw hX; go_enter Tryz.func103, Tryz.ntmps103; (go_wp2_with fail); refine HW.out.mono ?_; rintro r w1 ⟨rfl, rfl⟩; (go_wp2_with fail); refine HX.out.mono ?_; rintro r w1 ⟨v, rfl, hT, hA, hs⟩; have HT : Hid (TPostL w b o (.idle, [⟨115, t, (false, 0)⟩]) v w1) := hid ⟨LPost.idle hA hs, fun _ => hT⟩; clear hT hA hs; go_wp2; go_ret2; exact ⟨v, rfl, HT.out⟩
theorem inner_go {w : World} {b o : Nat} {s : Ins} {t : List UInt8} (h : LAt w b o (.str s t)) (x : UInt8) (hx : ¬ (x.toNat = 34 ∧ wholeI s = true)) :
    Calls Tryz.prog 103 #[.pointer (some ⟨b, o, none⟩), .int .u8 x.toNat] w fun r w' => r = .returned (.tuple #[.slice none 0 0, .int .i64 (errX (stepX (.str s t) x).1)]) ∧ TPostL w b o (stepX (.str s t) x) (.slice none 0 0) w' := by
  obtain ⟨⟨he, ht⟩, h0, hE, h10, hR⟩ := h; have hS := estep_at hE x; have hlen := step_len (hE.wf he) x; simp only [stepX, insE_eq]; rw [if_neg hx]; generalize (stepI s x).1 = s1 at *
  generalize (stepI s x).2 = l at *
  have hq : x.toNat = 34 → wholeI s = false := fun h => by simpa using fun h2 => hx ⟨h, h2⟩
  have HW := hid (ewhole_at hE); obtain ⟨c10, f10⟩ := at_ten h10; have hl1 : (⟨t.toArray⟩ : ByteArray).size = t.length := size_of t; have hl2 : (⟨l.toArray⟩ : ByteArray).size = l.length := size_of l; have hcat : (⟨t.toArray⟩ : ByteArray) ++ ⟨l.toArray⟩ = ⟨(t ++ l).toArray⟩ := cat_of t l; have HF : Hid (∀ w1, EAt w1 b (o + 2) s1 → Sub b (o + 2) 8 w w1 → (w1.cell? ⟨b, o + 10, none⟩ = some (.string ⟨t.toArray⟩) ∧ w1.frozen? ⟨b, o + 10, none⟩ = false) ∧
      (errI s1 ≠ 0 → LPost w b o (.bad (errI s1)) w1) ∧ LPost w b o (.bad 5) w1 ∧ (errI s1 = 0 → (t ++ l).length ≤ 200 → LPost w b o (.str s1 (t ++ l)) (w1.setCell ⟨b, o + 10, none⟩ (.string ⟨(t ++ l).toArray⟩)))) := hid (by
    intro w1 hE1 hs1; have hs2 := hs1.widen (o' := o) (n' := 18) (by omega) (by omega); have a10 := h10.sub hs1 (by simp only [List.length_cons, List.length_nil]; omega); refine ⟨at_ten a10, fun h => ⟨hs2, fun e => absurd e h⟩, ⟨hs2, fun e => absurd e (by decide)⟩, fun e1 e2 => ?_⟩; have hs3 := sub_setCell (b := b) (o := o + 10) (n := 1) w1 (o + 10) (.string ⟨(t ++ l).toArray⟩) (by omega); exact ⟨hs2.trans (hs3.widen (by omega) (by omega)), fun _ => ⟨⟨e1, e2⟩, (h0.sub hs1 (by simp only [List.length_cons, List.length_nil]; omega)).sub hs3 (by simp only [List.length_cons, List.length_nil]; omega), hE1.sub hs3 (by omega), a10.set 0 (by simp) _, (hR.sub hs1).sub hs3⟩⟩)
  have hlt : (t ++ l).length = t.length + l.length := List.length_append; obtain ⟨X, hX⟩ : ∃ X : ByteArray, (⟨t.toArray⟩ : ByteArray) = X := ⟨_, rfl⟩
  obtain ⟨Y, hY⟩ : ∃ Y : ByteArray, (⟨l.toArray⟩ : ByteArray) = Y := ⟨_, rfl⟩
  obtain ⟨Z, hZ⟩ : ∃ Z : ByteArray, (⟨(t ++ l).toArray⟩ : ByteArray) = Z := ⟨_, rfl⟩
  obtain ⟨E, hEE⟩ : ∃ E : Nat, errI s1 = E := ⟨_, rfl⟩
  simp only [hX, hY, hZ, hEE] at hS c10 hl1 hl2 hcat HF ⊢; have HS := hid hS; have key : Calls Tryz.prog 103 #[.pointer (some ⟨b, o, none⟩), .int .u8 x.toNat] w fun r w' => (E ≠ 0 → r = .returned (.tuple #[.slice none 0 0, .int .i64 E]) ∧ LPost w b o (.bad E) w') ∧
      (E = 0 → 200 < (t ++ l).length → r = .returned (.tuple #[.slice none 0 0, .int .i64 5]) ∧ LPost w b o (.bad 5) w') ∧ (E = 0 → (t ++ l).length ≤ 200 → r = .returned (.tuple #[.slice none 0 0, .int .i64 0]) ∧ LPost w b o (.str s1 (t ++ l)) w') := by
    rw [hlt]; generalize t.length = n1 at *
    generalize l.length = n2 at *
    have HLT := hid hlt; clear hS hE h0 h10 hR hx hX hY hZ hlt; by_cases h34 : x.toNat = 34
    · have hw : wholeI s = false := hq h34
      rw [hw] at HW; rw [h34]; rw [h34] at HS; clear hq hw h34; by_cases hE0 : E = 0
      · subst hE0
        by_cases hbig : 200 < n1 + n2
        · have hb : ((200 : Int) < (n1 : Int) + (n2 : Int)) = True := by simp only [eq_iff_iff, iff_true]; omega
          go_enter Tryz.func103, Tryz.ntmps103; (go_wp2_with fail); refine HW.out.mono ?_; rintro r w1 ⟨rfl, rfl⟩; (go_wp2_with fail); refine HS.out.mono ?_; rintro r w1 ⟨rfl, hE1, hs1⟩; obtain ⟨⟨k10, g10⟩, hh⟩ := HF.out w1 hE1 hs1; have HH := hid hh; clear hE1 hs1 hh; go_wp2; go_ret2; exact ⟨fun h => absurd rfl h, fun _ _ => ⟨rfl, HH.out.2.1⟩, fun _ h => absurd hbig (by omega)⟩
        · have hb : ((200 : Int) < (n1 : Int) + (n2 : Int)) = False := by simp only [eq_iff_iff, iff_false]; omega
          go_enter Tryz.func103, Tryz.ntmps103; (go_wp2_with fail); refine HW.out.mono ?_; rintro r w1 ⟨rfl, rfl⟩; (go_wp2_with fail); refine HS.out.mono ?_; rintro r w1 ⟨rfl, hE1, hs1⟩; obtain ⟨⟨k10, g10⟩, hh⟩ := HF.out w1 hE1 hs1; have HH := hid hh; clear hE1 hs1 hh; go_wp2; go_ret2; exact ⟨fun h => absurd rfl h, fun _ h => absurd h hbig, fun _ h => ⟨rfl, HH.out.2.2 (by trivial) (by rw [HLT.out]; exact h)⟩⟩
      · have hz : ((E : Int) != 0) = true := by simp; omega
        go_enter Tryz.func103, Tryz.ntmps103; (go_wp2_with fail); refine HW.out.mono ?_; rintro r w1 ⟨rfl, rfl⟩; (go_wp2_with fail); refine HS.out.mono ?_; rintro r w1 ⟨rfl, hE1, hs1⟩; obtain ⟨⟨k10, g10⟩, hh⟩ := HF.out w1 hE1 hs1; have HH := hid hh; clear hE1 hs1 hh; go_wp2; go_ret2; exact ⟨fun h => ⟨rfl, HH.out.1 h⟩, fun h => absurd h hE0, fun h => absurd h hE0⟩
    · have h34' : ((x.toNat : Int) == 34) = false := u8eq x 34 h34
      clear hq HW h34; generalize x.toNat = X34 at *
      by_cases hE0 : E = 0
      · subst hE0
        by_cases hbig : 200 < n1 + n2
        · have hb : ((200 : Int) < (n1 : Int) + (n2 : Int)) = True := by simp only [eq_iff_iff, iff_true]; omega
          go_enter Tryz.func103, Tryz.ntmps103; (go_wp2_with fail); refine HS.out.mono ?_; rintro r w1 ⟨rfl, hE1, hs1⟩; obtain ⟨⟨k10, g10⟩, hh⟩ := HF.out w1 hE1 hs1; have HH := hid hh; clear hE1 hs1 hh; go_wp2; go_ret2; exact ⟨fun h => absurd rfl h, fun _ _ => ⟨rfl, HH.out.2.1⟩, fun _ h => absurd hbig (by omega)⟩
        · have hb : ((200 : Int) < (n1 : Int) + (n2 : Int)) = False := by simp only [eq_iff_iff, iff_false]; omega
          go_enter Tryz.func103, Tryz.ntmps103; (go_wp2_with fail); refine HS.out.mono ?_; rintro r w1 ⟨rfl, hE1, hs1⟩; obtain ⟨⟨k10, g10⟩, hh⟩ := HF.out w1 hE1 hs1; have HH := hid hh; clear hE1 hs1 hh; go_wp2; go_ret2; exact ⟨fun h => absurd rfl h, fun _ h => absurd h hbig, fun _ h => ⟨rfl, HH.out.2.2 (by trivial) (by rw [HLT.out]; exact h)⟩⟩
      · have hz : ((E : Int) != 0) = true := by simp; omega
        go_enter Tryz.func103, Tryz.ntmps103; (go_wp2_with fail); refine HS.out.mono ?_; rintro r w1 ⟨rfl, hE1, hs1⟩; obtain ⟨⟨k10, g10⟩, hh⟩ := HF.out w1 hE1 hs1; have HH := hid hh; clear hE1 hs1 hh; go_wp2; go_ret2; exact ⟨fun h => ⟨rfl, HH.out.1 h⟩, fun h => absurd h hE0, fun h => absurd h hE0⟩
  refine key.mono ?_; rintro r w' ⟨k1, k2, k3⟩; by_cases hE0 : E = 0
  · rw [if_neg (by rw [hE0]; simp)]
    by_cases hbig : 200 < (t ++ l).length
    · rw [if_pos hbig]
      obtain ⟨rfl, hp⟩ := k2 hE0 hbig; exact ⟨rfl, hp, fun e => absurd e (by decide)⟩
    · rw [if_neg hbig]
      obtain ⟨rfl, hp⟩ := k3 hE0 (by omega); exact ⟨rfl, hp, fun _ => Tks.nil_ _ _⟩
  · rw [if_pos hE0]
    obtain ⟨rfl, hp⟩ := k1 hE0; exact ⟨rfl, hp, fun e => absurd e hE0⟩
end
section
open Go.RowKit
open Go.Lib
theorem Wrd.size {k i : Nat} {W : ByteArray} {r : List Nat} (h : Wrd k W i r) : W.size = i + r.length ∧ W.size ≤ 5 ∧ r ≠ [] := by
  obtain ⟨L, hL, rfl, h1, h2, rfl⟩ := h; have := (words_low hL).1; refine ⟨by rw [bytesN_size, List.length_drop]; omega, by rw [bytesN_size]; omega, fun e => ?_⟩; have := congrArg List.length e; simp at this; omega
theorem Wrd.next {k i : Nat} {W : ByteArray} {x : Nat} {q : List Nat} (h : Wrd k W i (x :: q)) (hq : q ≠ []) : Wrd k W (i + 1) q := by
  have hs := h.size.1; obtain ⟨L, hL, rfl, h1, h2, h3⟩ := h; have hq0 : 0 < q.length := List.length_pos_iff.2 hq; rw [bytesN_size, List.length_cons] at hs; refine ⟨L, hL, rfl, by omega, by omega, ?_⟩; rw [← List.drop_drop, ← h3]; rfl
theorem below_dq {B : Nat} {w w' : World} (h : Below B w w') (q : Nat) : Below B w (w'.drewN q) := ⟨h.os, h.tape, h.output, h.size, h.block⟩
theorem letter_no {w : World} {b o : Nat} {k i x : Nat} {q : List Nat} {W : ByteArray} (hW : Wrd k W i (x :: q)) (h16 : At w b (o + 16) [.string W, .int .i64 (i : Nat)]) (y : Nat) (hy : y < 256) (hne : y ≠ x) :
    Calls Tryz.prog 105 #[.pointer (some ⟨b, o, none⟩), .int .u8 y] w fun r w' => r = .returned (.tuple #[.slice none 0 0, .int .i64 2]) ∧ Below w.heap.size w w' := by
  have HL := hid (fun W0 => letter_word hW W0); obtain ⟨⟨c0, f0⟩, c1, f1⟩ := at_two h16; have hz : ((x : Int) != (y : Int)) = true := by simp; omega
  have hw : IntKind.i32.wrap (y : Int) = (y : Int) := wrap32 _ (by omega) (by omega); have HB := hid (fun q => below_dq (Below.refl w.heap.size w) q); clear hW h16 hne; go_enter Tryz.func105, Tryz.ntmps105; go_wp2
  go_region_with (go_at_call 114; refine (HL.out _).mono ?_; rintro r w1 ⟨rfl, hb⟩)
  all_goals
    have HBB := hid hb; clear hb; go_wp2; go_ret2; exact ⟨rfl, HBB.out.os, HBB.out.tape, HBB.out.output, HBB.out.size, HBB.out.block⟩
theorem letter_more {w : World} {b o : Nat} {k i x : Nat} {q : List Nat} {W : ByteArray} (hW : Wrd k W i (x :: q)) (hx : x < 256) (hq : q ≠ []) (h16 : At w b (o + 16) [.string W, .int .i64 (i : Nat)]) (hb : b < w.heap.size) :
    Calls Tryz.prog 105 #[.pointer (some ⟨b, o, none⟩), .int .u8 x] w fun r w' => r = .returned (.tuple #[.slice none 0 0, .int .i64 0]) ∧ ∃ w1, Below w.heap.size w w1 ∧ w' = w1.setCell ⟨b, o + 17, none⟩ (.int .i64 ((i + 1 : Nat) : Int)) := by
  have HL := hid (fun W0 => letter_word hW W0); obtain ⟨⟨c0, f0⟩, c1, f1⟩ := at_two h16; have hw : IntKind.i32.wrap (x : Int) = (x : Int) := wrap32 _ (by omega) (by omega); obtain ⟨hs1, hs2, _⟩ := hW.size; have hq0 : 0 < q.length := List.length_pos_iff.2 hq; have hi : i ≤ 5 := by omega
  have hlt : ((i : Int) + 1 < (W.size : Int)) = True := by simp only [List.length_cons] at hs1; simp only [eq_iff_iff, iff_true]; omega
  have hsm : W.size ≤ 1000 := by omega
  have hcast : (((i + 1 : Nat) : Int)) = (i : Int) + 1 := by omega
  rw [hcast]; have HG : Hid (∀ q w1, Below (w.drewN q).heap.size (w.drewN q) w1 → (w1.cell? ⟨b, o + 16, none⟩ = some (.string W) ∧ w1.frozen? ⟨b, o + 16, none⟩ = false) ∧ (w1.cell? ⟨b, o + 17, none⟩ = some (.int .i64 i) ∧ w1.frozen? ⟨b, o + 17, none⟩ = false) ∧ Below w.heap.size w w1) := hid (fun q w1 hB => by
    have hB' : Below w.heap.size w w1 := ⟨hB.os, hB.tape, hB.output, hB.size, hB.block⟩
    have hA := h16.keep (hB'.block b hb); exact ⟨(at_two hA).1, (at_two hA).2, hB'⟩)
  clear hW h16 hs1 hs2 hq hq0 hcast; go_enter Tryz.func105, Tryz.ntmps105; go_wp2
  go_region_with (go_at_call 114; refine (HL.out _).mono ?_; rintro r w1 ⟨rfl, hb1⟩)
  all_goals
    obtain ⟨⟨d0, e0⟩, ⟨d1, e1⟩, hB1⟩ := HG.out 1 w1 hb1; have HBB := hid hB1; clear hb1 hB1 c0 f0 c1 f1; go_wp2
    go_quiet (fail)
    go_wp2; go_ret2; refine ⟨rfl, _, below_dq HBB.out _, rfl⟩
end
end Go.Proofs.YtkgconbdmnmbnaaGreat
