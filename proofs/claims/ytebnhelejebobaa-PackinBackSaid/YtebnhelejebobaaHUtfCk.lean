/-
  CONTRACTS of utf.Check (Step, Whole, Bad and what they call) WHEREVER IT LIES: its four cells, from place o of block b on, hold the state that UtfPure names; no other cell turns.
-/
import Derived.Test.YtebnhelejebobaaG0b
import Derived.Test.YtebnhelejebobaaG0a
/-
  CONTRACTS of utf.Check (Step, Whole, Bad and what they call) WHEREVER IT LIES: its four cells, from place o of block b on, hold the state that UtfPure names; no other cell turns.
-/
namespace Go.Proofs.Ytebnhelejebobaa
open Go.RowKit
open Go.Lib
/-- The four cells of a Check. -/
def ckCells (n lo hi : Nat) (bad : Bool) : List Value := [.int .i64 n, .int .u8 lo, .int .u8 hi, .bool bad]
/-- The Check at place o of block b stands at a state. -/
def CAt (w : World) (b o : Nat) : Option (Nat × Nat × Nat) → Prop
  | none => ∃ n lo hi : Nat, At w b o (ckCells n lo hi true)
  | some (k, l, h) => k ≤ 3 ∧ ∃ lo hi : Nat, At w b o (ckCells k lo hi false) ∧ (0 < k → lo = l ∧ hi = h)
theorem CAt.cells {w : World} {b o : Nat} {s : Option (Nat × Nat × Nat)} (h : CAt w b o s) : ∃ n lo hi, At w b o (ckCells n lo hi s.isNone) := by
  match s, h with
  | none, ⟨n, lo, hi, h⟩ => exact ⟨n, lo, hi, h⟩
  | some (k, _, _), ⟨_, lo, hi, h, _⟩ => exact ⟨k, lo, hi, h⟩
theorem CAt.lt {w : World} {b o : Nat} {s : Option (Nat × Nat × Nat)} (h : CAt w b o s) : b < w.heap.size := by
  obtain ⟨_, _, _, h⟩ := h.cells
  exact h.lt (by simp [ckCells])
theorem CAt.map {w w' : World} {b o : Nat} {s : Option (Nat × Nat × Nat)} (h : CAt w b o s) (hk : ∀ vs : List Value, vs.length = 4 → At w b o vs → At w' b o vs) : CAt w' b o s := by
  match s, h with
  | none, ⟨n, lo, hi, h⟩ => exact ⟨n, lo, hi, hk _ rfl h⟩
  | some (_, _, _), ⟨h0, lo, hi, h, h1⟩ => exact ⟨h0, lo, hi, hk _ rfl h, h1⟩
theorem CAt.keep {w w' : World} {b o : Nat} {s : Option (Nat × Nat × Nat)} (h : CAt w b o s) (hk : w'.heap[b]? = w.heap[b]?) : CAt w' b o s := h.map fun _ _ h => h.keep hk
theorem CAt.below {w w' : World} {b o B : Nat} {s : Option (Nat × Nat × Nat)} (h : CAt w b o s) (hb : Below B w w') (hB : b < B) : CAt w' b o s := h.keep (hb.block b hB)
theorem CAt.sub {w w' : World} {b o o' n : Nat} {s : Option (Nat × Nat × Nat)} (h : CAt w b o s) (k : Sub b o' n w w') (hd : o + 4 ≤ o' ∨ o' + n ≤ o) : CAt w' b o s := h.map fun vs hv h => h.sub k (by omega)
def CPost (w : World) (b o : Nat) (s : Option (Nat × Nat × Nat)) (w' : World) : Prop := CAt w' b o s ∧ Sub b o 4 w w'
theorem cat_zero {w : World} {b o : Nat} (h : At w b o (ckCells 0 0 0 false)) : CAt w b o st0 := ⟨by omega, 0, 0, h, fun h => by omega⟩
theorem At.four {w : World} {b o : Nat} {v0 v1 v2 v3 : Value} (h : At w b o [v0, v1, v2, v3]) :
    (w.cell? ⟨b, o, none⟩ = some v0 ∧ w.frozen? ⟨b, o, none⟩ = false) ∧ (w.cell? ⟨b, o + 1, none⟩ = some v1 ∧ w.frozen? ⟨b, o + 1, none⟩ = false) ∧
    (w.cell? ⟨b, o + 2, none⟩ = some v2 ∧ w.frozen? ⟨b, o + 2, none⟩ = false) ∧ (w.cell? ⟨b, o + 3, none⟩ = some v3 ∧ w.frozen? ⟨b, o + 3, none⟩ = false) :=
  ⟨h 0 v0 rfl, h 1 v1 rfl, h 2 v2 rfl, h 3 v3 rfl⟩
set_option maxHeartbeats 400000 in
theorem lack_any (w : World) (b o : Nat) (v0 v1 v2 v3 : Value) (hb : At w b o [v0, v1, v2, v3]) (n lo hi : Int) :
    Calls Try.prog 82 #[.pointer (some ⟨b, o, none⟩), .int .i64 n, .int .u8 lo, .int .u8 hi] w fun e w' => e = .returned (.tuple #[]) ∧
      At w' b o [.int .i64 n, .int .u8 lo, .int .u8 hi, v3] ∧ Sub b o 4 w w' := by
  obtain ⟨⟨hc0, hf0⟩, ⟨hc1, hf1⟩, ⟨hc2, hf2⟩, _⟩ := hb.four
  have e1 := hb.set 0 (by simp) (.int .i64 n)
  have e2 := e1.set 1 (by simp) (.int .u8 lo)
  have e3 := e2.set 2 (by simp) (.int .u8 hi)
  have s3 : Sub b o 4 w (((w.setCell ⟨b, o, none⟩ (.int .i64 n)).setCell ⟨b, o + 1, none⟩ (.int .u8 lo)).setCell ⟨b, o + 2, none⟩ (.int .u8 hi)) :=
    ((sub_setCell w o _ (by omega)).setCell (o + 1) _ (by omega)).setCell (o + 2) _ (by omega)
  have HP := Lib.hid (And.intro e3 s3)
  clear hb e1 e2 e3 s3
  go_enter Try.func82, Try.ntmps82
  go_wp2
  go_end0
  exact ⟨rfl, HP.out⟩
/-- What 'c.bad = true' leaves. -/
theorem bad_post {w : World} {b o : Nat} {n lo hi : Nat} {v : Value} (hb : At w b o [.int .i64 n, .int .u8 lo, .int .u8 hi, v]) : CPost w b o none (w.setCell ⟨b, o + 3, none⟩ (.bool true)) :=
  ⟨⟨n, lo, hi, hb.set 3 (by simp) _⟩, sub_setCell w (o + 3) _ (by omega)⟩
theorem cat_bad {w : World} {b o : Nat} {s : Option (Nat × Nat × Nat)} (h : CAt w b o s) : w.cell? ⟨b, o + 3, none⟩ = some (.bool s.isNone) := by
  obtain ⟨_, _, _, h⟩ := h.cells
  exact h.four.2.2.2.1
set_option maxHeartbeats 1600000 in
theorem open_any (w : World) (b o : Nat) (lo hi : Nat) (hb : At w b o (ckCells 0 lo hi false)) (x : Nat) (hx : x < 256) :
    Calls Try.prog 79 #[.pointer (some ⟨b, o, none⟩), .int .u8 x] w fun e w' => e = .returned (.tuple #[]) ∧ CPost w b o (openS x) w' := by
  obtain ⟨_, _, _, hc3, hf3⟩ := hb.four
  have HB := Lib.hid hb
  have HL := Lib.hid (lack_any w b o _ _ _ _ hb)
  clear hb
  by_cases c0 : (x : Int) < 128
  · have he : openS x = some (0, 0, 0) := by unfold openS; rw [if_pos (by omega)]
    rw [he]
    go_enter Try.func79, Try.ntmps79
    go_wp2
    go_end0
    exact ⟨rfl, ⟨by omega, lo, hi, HB.out, fun h => by omega⟩, Sub.refl _ _ _ _⟩
  by_cases c1 : (194 : Int) ≤ x ∧ (x : Int) ≤ 223
  · obtain ⟨c1a, c1b⟩ := c1
    have he : openS x = some (1, 128, 191) := by unfold openS; rw [if_neg (by omega), if_pos (by omega)]
    rw [he]
    go_enter Try.func79, Try.ntmps79
    go_wp2_with fail
    refine (HL.out 1 128 191).mono ?_
    rintro e w' ⟨rfl, hb', hs⟩
    go_wp2
    go_end0
    exact ⟨rfl, ⟨by omega, 128, 191, hb', fun _ => ⟨rfl, rfl⟩⟩, hs⟩
  have c1' : (194 : Int) ≤ x → ¬ (x : Int) ≤ 223 := fun h h' => c1 ⟨h, h'⟩
  clear c1
  by_cases d1 : (194 : Int) ≤ x
  · have c1'' := c1' d1
    clear c1'
    by_cases c2 : (x : Int) = 224
    · have c2z : ((x : Int) == 224) = true := by rw [beq_iff_eq]; exact c2
      have he : openS x = some (2, 160, 191) := by unfold openS; rw [if_neg (by omega), if_neg (by omega), if_pos (by omega)]
      rw [he]
      go_enter Try.func79, Try.ntmps79
      go_wp2_with fail
      refine (HL.out 2 160 191).mono ?_
      rintro e w' ⟨rfl, hb', hs⟩
      go_wp2
      go_end0
      exact ⟨rfl, ⟨by omega, 160, 191, hb', fun _ => ⟨rfl, rfl⟩⟩, hs⟩
    have c2z : ((x : Int) == 224) = false := by rw [beq_eq_false_iff_ne]; exact c2
    by_cases c3 : (x : Int) = 237
    · have c3z : ((x : Int) == 237) = true := by rw [beq_iff_eq]; exact c3
      have he : openS x = some (2, 128, 159) := by unfold openS; rw [if_neg (by omega), if_neg (by omega), if_neg (by omega), if_pos (by omega)]
      rw [he]
      go_enter Try.func79, Try.ntmps79
      go_wp2_with fail
      refine (HL.out 2 128 159).mono ?_
      rintro e w' ⟨rfl, hb', hs⟩
      go_wp2
      go_end0
      exact ⟨rfl, ⟨by omega, 128, 159, hb', fun _ => ⟨rfl, rfl⟩⟩, hs⟩
    have c3z : ((x : Int) == 237) = false := by rw [beq_eq_false_iff_ne]; exact c3
    have c4a : (225 : Int) ≤ x := by omega
    by_cases c4 : (x : Int) ≤ 239
    · skip
      have he : openS x = some (2, 128, 191) := by unfold openS; rw [if_neg (by omega), if_neg (by omega), if_neg (by omega), if_neg (by omega), if_pos (by omega)]
      rw [he]
      go_enter Try.func79, Try.ntmps79
      go_wp2_with fail
      refine (HL.out 2 128 191).mono ?_
      rintro e w' ⟨rfl, hb', hs⟩
      go_wp2
      go_end0
      exact ⟨rfl, ⟨by omega, 128, 191, hb', fun _ => ⟨rfl, rfl⟩⟩, hs⟩
    by_cases c5 : (x : Int) = 240
    · have c5z : ((x : Int) == 240) = true := by rw [beq_iff_eq]; exact c5
      have he : openS x = some (3, 144, 191) := by unfold openS; rw [if_neg (by omega), if_neg (by omega), if_neg (by omega), if_neg (by omega), if_neg (by omega), if_pos (by omega)]
      rw [he]
      go_enter Try.func79, Try.ntmps79
      go_wp2_with fail
      refine (HL.out 3 144 191).mono ?_
      rintro e w' ⟨rfl, hb', hs⟩
      go_wp2
      go_end0
      exact ⟨rfl, ⟨by omega, 144, 191, hb', fun _ => ⟨rfl, rfl⟩⟩, hs⟩
    have c5z : ((x : Int) == 240) = false := by rw [beq_eq_false_iff_ne]; exact c5
    have c6a : (241 : Int) ≤ x := by omega
    by_cases c6 : (x : Int) ≤ 243
    · skip
      have he : openS x = some (3, 128, 191) := by unfold openS; rw [if_neg (by omega), if_neg (by omega), if_neg (by omega), if_neg (by omega), if_neg (by omega), if_neg (by omega), if_pos (by omega)]
      rw [he]
      go_enter Try.func79, Try.ntmps79
      go_wp2_with fail
      refine (HL.out 3 128 191).mono ?_
      rintro e w' ⟨rfl, hb', hs⟩
      go_wp2
      go_end0
      exact ⟨rfl, ⟨by omega, 128, 191, hb', fun _ => ⟨rfl, rfl⟩⟩, hs⟩
    by_cases c7 : (x : Int) = 244
    · have c7z : ((x : Int) == 244) = true := by rw [beq_iff_eq]; exact c7
      have he : openS x = some (3, 128, 143) := by unfold openS; rw [if_neg (by omega), if_neg (by omega), if_neg (by omega), if_neg (by omega), if_neg (by omega), if_neg (by omega), if_neg (by omega), if_pos (by omega)]
      rw [he]
      go_enter Try.func79, Try.ntmps79
      go_wp2_with fail
      refine (HL.out 3 128 143).mono ?_
      rintro e w' ⟨rfl, hb', hs⟩
      go_wp2
      go_end0
      exact ⟨rfl, ⟨by omega, 128, 143, hb', fun _ => ⟨rfl, rfl⟩⟩, hs⟩
    have c7z : ((x : Int) == 244) = false := by rw [beq_eq_false_iff_ne]; exact c7
    have he : openS x = none := by unfold openS; rw [if_neg (by omega), if_neg (by omega), if_neg (by omega), if_neg (by omega), if_neg (by omega), if_neg (by omega), if_neg (by omega), if_neg (by omega)]
    rw [he]
    have HN := Lib.hid (bad_post HB.out)
    go_enter Try.func79, Try.ntmps79
    go_wp2
    go_end0
    exact ⟨rfl, HN.out⟩
  · have c1a : (x : Int) < 194 := by omega
    clear c1'
    have c2z : ((x : Int) == 224) = false := by rw [beq_eq_false_iff_ne]; omega
    have c3z : ((x : Int) == 237) = false := by rw [beq_eq_false_iff_ne]; omega
    have c4 : ¬ (225 : Int) ≤ x := by omega
    have c5z : ((x : Int) == 240) = false := by rw [beq_eq_false_iff_ne]; omega
    have c6 : ¬ (241 : Int) ≤ x := by omega
    have c7z : ((x : Int) == 244) = false := by rw [beq_eq_false_iff_ne]; omega
    have he : openS x = none := by unfold openS; rw [if_neg (by omega), if_neg (by omega), if_neg (by omega), if_neg (by omega), if_neg (by omega), if_neg (by omega), if_neg (by omega), if_neg (by omega)]
    rw [he]
    have HN := Lib.hid (bad_post HB.out)
    go_enter Try.func79, Try.ntmps79
    go_wp2
    go_end0
    exact ⟨rfl, HN.out⟩
set_option maxHeartbeats 1600000 in
theorem goon_any (w : World) (b o n : Nat) (lo hi : Nat) (hn : n < 3) (hb : At w b o (ckCells (n + 1) lo hi false)) (x : UInt8) :
    Calls Try.prog 80 #[.pointer (some ⟨b, o, none⟩), .int .u8 x.toNat] w fun e w' => e = .returned (.tuple #[]) ∧ CPost w b o (stepS (some (n + 1, lo, hi)) x) w' := by
  obtain ⟨⟨hc0, _⟩, ⟨hc1, _⟩, ⟨hc2, _⟩, hc3, hf3⟩ := hb.four
  have HN := Lib.hid (bad_post hb)
  have HL := Lib.hid (lack_any w b o _ _ _ _ hb)
  clear hb
  by_cases c1 : ((x.toNat : Nat) : Int) < (lo : Int)
  · have he : stepS (some (n + 1, lo, hi)) x = none := by simp only [stepS]; rw [if_pos (by omega)]
    rw [he]
    go_enter Try.func80, Try.ntmps80
    go_wp2
    refine bodyPost_ret (results_none rfl _ _ _) rfl ?_
    exact ⟨rfl, HN.out⟩
  by_cases c2 : (hi : Int) < ((x.toNat : Nat) : Int)
  · have he : stepS (some (n + 1, lo, hi)) x = none := by simp only [stepS]; rw [if_pos (by omega)]
    rw [he]
    go_enter Try.func80, Try.ntmps80
    go_wp2
    refine bodyPost_ret (results_none rfl _ _ _) rfl ?_
    exact ⟨rfl, HN.out⟩
  have hw : ((n + 1 : Nat) : Int) - 1 = (n : Int) := by omega
  have he : stepS (some (n + 1, lo, hi)) x = if n = 0 then some (0, 0, 0) else some (n, 128, 191) := by simp only [stepS]; rw [if_neg (by omega)]
  have hfin : ∀ w', At w' b o (ckCells n 128 191 false) → CAt w' b o (if n = 0 then some (0, 0, 0) else some (n, 128, 191)) := by
    intro w' h'
    by_cases h0 : n = 0
    · subst h0
      exact ⟨by omega, 128, 191, h', fun h => by omega⟩
    · rw [if_neg h0]
      exact ⟨by omega, 128, 191, h', fun _ => ⟨rfl, rfl⟩⟩
  obtain ⟨S, hS⟩ : ∃ S, (if n = 0 then some (0, 0, 0) else some (n, 128, 191)) = S := ⟨_, rfl⟩
  rw [he]
  rw [hS] at hfin ⊢
  have HF := Lib.hid hfin
  clear hfin he HN hS
  go_enter Try.func80, Try.ntmps80
  go_wp2_with fail
  refine (HL.out n 128 191).mono ?_
  rintro e w' ⟨rfl, hb', hs⟩
  go_wp2
  go_end0
  exact ⟨rfl, HF.out _ hb', hs⟩
set_option maxHeartbeats 400000 in
theorem bad_at {w : World} {b o : Nat} {s : Option (Nat × Nat × Nat)} (h : CAt w b o s) :
    Calls Try.prog 78 #[.pointer (some ⟨b, o, none⟩)] w fun e w' => e = .returned (.bool s.isNone) ∧ w = w' := by
  have hc := cat_bad h
  clear h
  generalize s.isNone = q at *
  go_enter Try.func78, Try.ntmps78
  go_wp2
  go_ret
  exact ⟨rfl, rfl⟩
theorem bad_nil (w : World) : Calls Try.prog 78 #[.pointer none] w fun e w' => e = .returned (.bool true) ∧ w = w' := by
  go_enter Try.func78, Try.ntmps78
  go_wp2
  go_ret
  exact ⟨rfl, rfl⟩
set_option maxHeartbeats 400000 in
theorem whole_at {w : World} {b o : Nat} {s : Option (Nat × Nat × Nat)} (h : CAt w b o s) :
    Calls Try.prog 69 #[.pointer (some ⟨b, o, none⟩)] w fun e w' => e = .returned (.bool (wholeS s)) ∧ w = w' := by
  have hB := bad_at h
  match s, h with
  | none, ⟨_, _, _, h⟩ =>
    have hs : wholeS none = false := rfl
    rw [hs]
    simp only [Option.isNone] at hB
    clear h
    go_enter Try.func69, Try.ntmps69
    go_wp2_with fail
    refine hB.mono ?_
    rintro e w' ⟨rfl, rfl⟩
    go_wp2
    go_ret
    exact ⟨rfl, rfl⟩
  | some (k, _, _), ⟨_, _, _, h, _⟩ =>
    have hc : w.cell? ⟨b, o, none⟩ = some (.int .i64 k) := h.four.1.1
    simp only [Option.isNone] at hB
    clear h
    by_cases h0 : k = 0
    · subst h0
      have hs : ∀ x y, wholeS (some (0, x, y)) = true := fun _ _ => rfl
      rw [hs]
      have hz : (((0 : Nat) : Int) == 0) = true := rfl
      go_enter Try.func69, Try.ntmps69
      go_wp2_with fail
      refine hB.mono ?_
      rintro e w' ⟨rfl, rfl⟩
      go_wp2
      go_ret
      exact ⟨rfl, rfl⟩
    · have hs : ∀ x y, wholeS (some (k, x, y)) = false := fun _ _ => by
        match k, h0 with
        | 0, h0 => exact absurd rfl h0
        | k + 1, _ => rfl
      rw [hs]
      have hz : ((k : Int) == 0) = false := by rw [beq_eq_false_iff_ne]; omega
      go_enter Try.func69, Try.ntmps69
      go_wp2_with fail
      refine hB.mono ?_
      rintro e w' ⟨rfl, rfl⟩
      go_wp2
      go_ret
      exact ⟨rfl, rfl⟩
theorem whole_nil (w : World) : Calls Try.prog 69 #[.pointer none] w fun e w' => e = .returned (.bool false) ∧ w = w' := by
  go_enter Try.func69, Try.ntmps69
  go_wp2_with fail
  refine (bad_nil w).mono ?_
  rintro e w' ⟨rfl, rfl⟩
  go_wp2
  go_ret
  exact ⟨rfl, rfl⟩
theorem step_nil (x : Int) (w : World) : Calls Try.prog 68 #[.pointer none, .int .u8 x] w fun e w' => e = .returned (.bool false) ∧ w = w' := by
  go_enter Try.func68, Try.ntmps68
  go_wp2_with fail
  refine (bad_nil w).mono ?_
  rintro e w' ⟨rfl, rfl⟩
  go_wp2
  go_ret
  exact ⟨rfl, rfl⟩
/-- STEP. -/
theorem step_at {w : World} {b o : Nat} {s : Option (Nat × Nat × Nat)} (h : CAt w b o s) (x : UInt8) :
    Calls Try.prog 68 #[.pointer (some ⟨b, o, none⟩), .int .u8 x.toNat] w fun e w' => e = .returned (.bool (stepS s x).isSome) ∧ CPost w b o (stepS s x) w' := by
  have hB := bad_at h
  match s, h with
  | none, h =>
    have hs : stepS none x = none := rfl
    rw [hs]
    have HC := Lib.hid h
    simp only [Option.isNone] at hB
    simp only [Option.isSome]
    clear h
    go_enter Try.func68, Try.ntmps68
    go_wp2_with fail
    refine hB.mono ?_
    rintro e w' ⟨rfl, rfl⟩
    go_wp2
    go_ret
    exact ⟨rfl, HC.out, Sub.refl _ _ _ _⟩
  | some (k, l, u), ⟨hk, lo, hi, h, hlo⟩ =>
    have hc : w.cell? ⟨b, o, none⟩ = some (.int .i64 k) := h.four.1.1
    simp only [Option.isNone] at hB
    have main : ∀ w' : World, CPost w b o (stepS (some (k, l, u)) x) w' → w'.cell? ⟨b, o + 3, none⟩ = some (.bool (!(stepS (some (k, l, u)) x).isSome)) := by
      intro w' hp
      have := cat_bad hp.1
      rw [this]
      cases stepS (some (k, l, u)) x <;> rfl
    cases k with
    | zero =>
      have hO := open_any w b o lo hi h x.toNat x.toNat_lt
      have hs : stepS (some (0, l, u)) x = openS x.toNat := rfl
      rw [hs] at main ⊢
      have hz : (((0 : Nat) : Int) == 0) = true := rfl
      have HM := Lib.hid main
      clear h main hlo hs
      go_enter Try.func68, Try.ntmps68
      go_wp2_with fail
      refine hB.mono ?_
      rintro e w' ⟨rfl, rfl⟩
      go_wp2_with fail
      refine hO.mono ?_
      rintro e w' ⟨rfl, hp⟩
      have hc3 := HM.out w' hp
      have HP := Lib.hid hp
      clear hp HM
      generalize hq : (openS x.toNat).isSome = q at hc3
      go_wp2
      go_ret
      exact ⟨by simp [hq], HP.out⟩
    | succ k =>
      obtain ⟨rfl, rfl⟩ := hlo (by omega)
      have hO := goon_any w b o k lo hi (by omega) h x
      have hz : (((k + 1 : Nat) : Int) == 0) = false := by rw [beq_eq_false_iff_ne]; omega
      have HM := Lib.hid main
      clear h main hlo
      go_enter Try.func68, Try.ntmps68
      go_wp2_with fail
      refine hB.mono ?_
      rintro e w' ⟨rfl, rfl⟩
      go_wp2_with fail
      refine hO.mono ?_
      rintro e w' ⟨rfl, hp⟩
      have hc3 := HM.out w' hp
      have HP := Lib.hid hp
      clear hp HM
      generalize hq : (stepS (some (k + 1, lo, hi)) x).isSome = q at hc3
      go_wp2
      go_ret
      exact ⟨by simp [hq], HP.out⟩
end Go.Proofs.Ytebnhelejebobaa
