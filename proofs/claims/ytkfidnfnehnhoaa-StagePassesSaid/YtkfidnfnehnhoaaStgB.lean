/-
  CONTRACTS of package stage, part B: had, Held, Empty, New; what a part is (passes, frees, event.Size).
-/
import Derived.Test.YtkfidnfnehnhoaaStgA
import Derived.Test.YtkfidnfnehnhoaaAs
import Derived.Test.YtkfidnfnehnhoaaVls
namespace Go.Proofs.Ytkfidnfnehnhoaa
open Go.RowKit
open Go.Lib
/-- A Stage in block b: its rows are vh (what is held), vo (what is open). -/
def StG (w : World) (b lim : Nat) (vh vo : Value) : Gs → Prop
  | .bad => Sgb w b 10 0 (.slice none 0 0) 0 (.slice none 0 0) ∧ vh = .slice none 0 0 ∧ vo = .slice none 0 0
  | .live z H op => Sgb w b 0 lim vh z vo ∧ Win w 20 1 vh H.length (H.map valE) ∧ Win w 95 4 vo op.length (cnL op)
def errG : Gs → Nat
  | .bad => 10
  | .live _ _ _ => 0
def limG (lim : Nat) : Gs → Nat
  | .bad => 0
  | .live _ _ _ => lim
theorem StG.sgb {w : World} {b lim : Nat} {vh vo : Value} {s : Gs} (h : StG w b lim vh vo s) : Sgb w b (errG s) (limG lim s) vh (heldG s) vo := by
  cases s with
  | bad => obtain ⟨h, rfl, rfl⟩ := h; exact h
  | live z H op => exact h.1
theorem StG.rows {w : World} {b lim : Nat} {vh vo : Value} {s : Gs} (h : StG w b lim vh vo s) : ∃ n m xs ys, Win w 20 1 vh n xs ∧ Win w 95 4 vo m ys ∧ emptyG s = (decide (errG s = 0) && decide (n = 0)) := by
  cases s with
  | bad => obtain ⟨h, rfl, rfl⟩ := h; exact ⟨0, 0, [], [], Win.nil_ _ _ _, Win.nil_ _ _ _, rfl⟩
  | live z H op => exact ⟨_, _, _, _, h.2.1, h.2.2, by simp [emptyG, errG]⟩
set_option maxHeartbeats 1000000 in
theorem ghad_at {w : World} {b e lim z : Nat} {vh vo : Value} (h : Sgb w b e lim vh z vo) :
    Calls Try.prog 24 #[.pointer (some ⟨b, 0, none⟩)] w fun r w' => r = .returned (.int .i64 (e : Int)) ∧ w = w' := by
  have c0 := h.cell 0
  have c1 := h.cell 1
  clear h
  go_enter Try.func24, Try.ntmps24
  go_wp2
  go_ret
  exact ⟨rfl, rfl⟩
set_option maxHeartbeats 1000000 in
theorem gheld_at {w : World} {b e lim z : Nat} {vh vo : Value} (h : Sgb w b e lim vh z vo) :
    Calls Try.prog 18 #[.pointer (some ⟨b, 0, none⟩)] w fun r w' => r = .returned (.int .i64 (z : Int)) ∧ w = w' := by
  have c0 := h.cell 4
  clear h
  go_enter Try.func18, Try.ntmps18
  go_wp2
  go_ret
  exact ⟨rfl, rfl⟩
set_option maxHeartbeats 1000000 in
theorem gempty_at {w : World} {b lim : Nat} {vh vo : Value} {s : Gs} (h : StG w b lim vh vo s) :
    Calls Try.prog 15 #[.pointer (some ⟨b, 0, none⟩)] w fun r w' => r = .returned (.bool (emptyG s)) ∧ w = w' := by
  obtain ⟨n, m, xs, ys, hW, _, hE⟩ := h.rows
  obtain ⟨a, cp, rfl, _, _⟩ := hW.slice_form
  have hs := h.sgb
  have c3 := hs.cell 3
  have HH := Lib.hid (ghad_at hs)
  rw [hE]
  generalize errG s = E at *
  clear h hs hE hW
  go_enter Try.func15, Try.ntmps15
  by_cases he : E = 0
  · subst he
    go_wp2_with fail
    refine HH.out.mono ?_
    rintro r w1 ⟨rfl, rfl⟩
    go_wp2
    go_ret
    refine ⟨?_, rfl⟩
    simp
    rw [Bool.eq_iff_iff, beq_iff_eq, decide_eq_true_eq]
    omega
  · have h1 : ((E : Int) == 0) = false := by simpa using he
    go_wp2_with fail
    refine HH.out.mono ?_
    rintro r w1 ⟨rfl, rfl⟩
    go_wp2
    go_ret
    refine ⟨?_, rfl⟩
    simp [he]
set_option maxHeartbeats 1000000 in
theorem gnew_any (lim : Int) (w : World) :
    Calls Try.prog 11 #[.int .i64 lim] w fun r w' => r = .returned (.pointer (some ⟨w.heap.size, 0, none⟩)) ∧ StG w' w.heap.size (min (max lim 0) 2000).toNat (.slice none 0 0) (.slice none 0 0) gs0 ∧ Below w.heap.size w w' := by
  have hl : ((min (max lim 0) 2000).toNat : Int) = min (max lim 0) 2000 := by omega
  have hF : ∀ W : World, Blk W w.heap.size #[.bool true, .int .i64 0, .int .i64 (min (max lim 0) 2000), .slice none 0 0, .int .i64 0, .slice none 0 0] 65 → StG W w.heap.size (min (max lim 0) 2000).toNat (.slice none 0 0) (.slice none 0 0) gs0 := fun W hB => by
    refine ⟨?_, Win.nil_ _ _ _, Win.nil_ _ _ _⟩
    unfold Sgb
    rw [hl]
    exact hB
  have HF := Lib.hid hF
  clear hF hl
  generalize (min (max lim 0) 2000).toNat = L at *
  go_enter Try.func11, Try.ntmps11
  go_wp2
  go_ret
  exact ⟨rfl, HF.out _ (blk_new _ _ _), up_alloc (Below.refl _ _) _⟩
set_option maxHeartbeats 1000000 in
theorem gsize_by (v : Value) (X : Ev) (hX : X.t.size ≤ 1000) (hP : ∀ w, Calls Try.prog 29 #[v] w fun r w' => r = .returned (.tuple #[evV X, .bool true]) ∧ Below w.heap.size w w') (w : World) :
    Calls Try.prog 20 #[v] w fun r w' => r = .returned (.int .i64 (1 + (X.t.size : Int))) ∧ Below w.heap.size w w' := by
  obtain ⟨k, y, m, t, c⟩ := X
  have hX : (t.size : Int) ≤ 1000 := by exact Int.ofNat_le.2 hX
  have HP := Lib.hid hP
  clear hP
  go_enter Try.func20, Try.ntmps20
  go_wp2_with fail
  refine (HP.out _).mono ?_
  rintro e w1 ⟨rfl, hb⟩
  have h1 := Lib.hid hb
  clear hb
  simp only [evV]
  go_wp2
  go_ret
  exact ⟨rfl, up_alloc h1.out _⟩
theorem gsize_any (e : Ev) (he : mayE e) (ht : sizG e ≤ 1000) (w : World) :
    Calls Try.prog 20 #[valE e] w fun r w' => r = .returned (.int .i64 (sizG e : Int)) ∧ Below w.heap.size w w' := by
  have := gsize_by (valE e) (tidyE e) (by unfold sizG at ht; omega) (plain_any e he) w
  simpa [sizG] using this
set_option maxHeartbeats 1000000 in
theorem gpasses_at {w : World} {b e lim z n : Nat} {vh : Value} {a : Option Addr} {cp : Nat} (h : Sgb w b e lim vh z (.slice a n cp)) (p : Ev) (hp : mayE p) :
    Calls Try.prog 25 #[.pointer (some ⟨b, 0, none⟩), valE p] w fun r w' => r = .returned (.bool (decide (n = 0 ∧ ¬ opnE p))) ∧ Below w.heap.size w w' := by
  have hA := as_begin p hp
  have c5 := fun x => (h.alloc (w := w) x).cell 5
  obtain ⟨k, y, m, t, c⟩ := p
  simp only [opnE] at *
  generalize valE ⟨k, y, m, t, c⟩ = V at *
  clear h hp
  by_cases hk : k = 5 ∨ k = 6
  · rw [if_pos hk, decide_eq_true hk] at hA
    have e1 : (c == -1) = decide (c = -1) := by rw [Bool.eq_iff_iff, beq_iff_eq, decide_eq_true_eq]
    have e2 : ((n : Int) == 0) = decide (n = 0) := by rw [Bool.eq_iff_iff, beq_iff_eq, decide_eq_true_eq]; omega
    simp only [hk, true_and]
    rw [Bool.decide_and, decide_not]
    clear hk
    generalize decide (k = 6) = K at *
    generalize decide (c = -1) = D at *
    generalize decide (n = 0) = N at *
    go_enter Try.func25, Try.ntmps25
    cases N
    · go_wp2
      go_ret
      exact ⟨by simp, up_alloc (Below.refl _ _) _⟩
    · go_wp2
      go_ret
      exact ⟨by simp, up_alloc (Below.refl _ _) _⟩
  · rw [if_neg hk, decide_eq_false hk] at hA
    have e2 : ((n : Int) == 0) = decide (n = 0) := by rw [Bool.eq_iff_iff, beq_iff_eq, decide_eq_true_eq]; omega
    simp only [hk, false_and, not_false_eq_true, and_true]
    clear hk
    generalize decide (k = 6) = K at *
    generalize decide (n = 0) = N at *
    go_enter Try.func25, Try.ntmps25
    cases N
    · go_wp2
      go_ret
      exact ⟨by simp, up_alloc (Below.refl _ _) _⟩
    · go_wp2
      go_ret
      exact ⟨by simp, up_alloc (Below.refl _ _) _⟩
set_option maxHeartbeats 1000000 in
theorem gfrees_at {w : World} {b e lim z n : Nat} {vh : Value} {a : Option Addr} {cp : Nat} (h : Sgb w b e lim vh z (.slice a n cp)) (p : Ev) (hp : mayE p) :
    Calls Try.prog 26 #[.pointer (some ⟨b, 0, none⟩), valE p] w fun r w' => r = .returned (.bool (decide (p.k = 7 ∧ n = 1))) ∧ Below w.heap.size w w' := by
  have hA := as_close p hp
  have c5 := fun x => (h.alloc (w := w) x).cell 5
  obtain ⟨k, y, m, t, c⟩ := p
  simp only at *
  generalize valE ⟨k, y, m, t, c⟩ = V at *
  have e2 : ((n : Int) == 1) = decide (n = 1) := by rw [Bool.eq_iff_iff, beq_iff_eq, decide_eq_true_eq]; omega
  rw [Bool.decide_and]
  clear h hp
  generalize decide (k = 7) = K at *
  generalize decide (n = 1) = N at *
  go_enter Try.func26, Try.ntmps26
  cases K
  · go_wp2
    go_ret
    exact ⟨by simp, up_alloc (Below.refl _ _) _⟩
  · go_wp2
    go_ret
    exact ⟨by simp, up_alloc (Below.refl _ _) _⟩
end Go.Proofs.Ytkfidnfnehnhoaa
