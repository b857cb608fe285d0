/-
  CONTRACTS of utf.Check and escape.Reader, anywhere in a block.
-/
import Derived.Test.YtacngbngljfedaaGa
/-
  CONTRACTS of utf.Check (Step, Whole, Bad and what they call) WHEREVER IT LIES: its four cells, from place o of block b on, hold the state that UtfPure names; no other cell turns.
-/
namespace Go.Proofs.Ytacngbngljfedaa
open Go.RowKit
open Go.Lib
/-- The four cells of a Check. -/
def ckCells (n lo hi : Nat) (bad : Bool) : List Value := [.int .i64 n, .int .u8 lo, .int .u8 hi, .bool bad]
/-- The Check at place o of block b stands at a state. -/
def CAt (w : World) (b o : Nat) : Option (Nat × Nat × Nat) → Prop
  | none => ∃ n lo hi : Nat, At w b o (ckCells n lo hi true)
  | some (k, l, h) => k ≤ 3 ∧ ∃ lo hi : Nat, At w b o (ckCells k lo hi false) ∧ (0 < k → lo = l ∧ hi = h)
theorem CAt.cells {w : World} {b o : Nat} {s : Option (Nat × Nat × Nat)} (h : CAt w b o s) : ∃ n lo hi, At w b o (ckCells n lo hi s.isNone) := by
  match s, h with
  | none, ⟨n, lo, hi, h⟩ => exact ⟨n, lo, hi, h⟩
  | some (k, _, _), ⟨_, lo, hi, h, _⟩ => exact ⟨k, lo, hi, h⟩
theorem CAt.lt {w : World} {b o : Nat} {s : Option (Nat × Nat × Nat)} (h : CAt w b o s) : b < w.heap.size := by
  obtain ⟨_, _, _, h⟩ := h.cells
  exact h.lt (by simp [ckCells])
theorem CAt.map {w w' : World} {b o : Nat} {s : Option (Nat × Nat × Nat)} (h : CAt w b o s) (hk : ∀ vs : List Value, vs.length = 4 → At w b o vs → At w' b o vs) : CAt w' b o s := by
  match s, h with
  | none, ⟨n, lo, hi, h⟩ => exact ⟨n, lo, hi, hk _ rfl h⟩
  | some (_, _, _), ⟨h0, lo, hi, h, h1⟩ => exact ⟨h0, lo, hi, hk _ rfl h, h1⟩
theorem CAt.keep {w w' : World} {b o : Nat} {s : Option (Nat × Nat × Nat)} (h : CAt w b o s) (hk : w'.heap[b]? = w.heap[b]?) : CAt w' b o s := h.map fun _ _ h => h.keep hk
theorem CAt.below {w w' : World} {b o B : Nat} {s : Option (Nat × Nat × Nat)} (h : CAt w b o s) (hb : Below B w w') (hB : b < B) : CAt w' b o s := h.keep (hb.block b hB)
theorem CAt.sub {w w' : World} {b o o' n : Nat} {s : Option (Nat × Nat × Nat)} (h : CAt w b o s) (k : Sub b o' n w w') (hd : o + 4 ≤ o' ∨ o' + n ≤ o) : CAt w' b o s := h.map fun vs hv h => h.sub k (by omega)
def CPost (w : World) (b o : Nat) (s : Option (Nat × Nat × Nat)) (w' : World) : Prop := CAt w' b o s ∧ Sub b o 4 w w'
theorem cat_zero {w : World} {b o : Nat} (h : At w b o (ckCells 0 0 0 false)) : CAt w b o st0 := ⟨by omega, 0, 0, h, fun h => by omega⟩
theorem At.four {w : World} {b o : Nat} {v0 v1 v2 v3 : Value} (h : At w b o [v0, v1, v2, v3]) :
    (w.cell? ⟨b, o, none⟩ = some v0 ∧ w.frozen? ⟨b, o, none⟩ = false) ∧ (w.cell? ⟨b, o + 1, none⟩ = some v1 ∧ w.frozen? ⟨b, o + 1, none⟩ = false) ∧
    (w.cell? ⟨b, o + 2, none⟩ = some v2 ∧ w.frozen? ⟨b, o + 2, none⟩ = false) ∧ (w.cell? ⟨b, o + 3, none⟩ = some v3 ∧ w.frozen? ⟨b, o + 3, none⟩ = false) :=
  ⟨h 0 v0 rfl, h 1 v1 rfl, h 2 v2 rfl, h 3 v3 rfl⟩
set_option maxHeartbeats 400000 in
theorem lack_any (w : World) (b o : Nat) (v0 v1 v2 v3 : Value) (hb : At w b o [v0, v1, v2, v3]) (n lo hi : Int) :
    Calls Try.prog 93 #[.pointer (some ⟨b, o, none⟩), .int .i64 n, .int .u8 lo, .int .u8 hi] w fun e w' => e = .returned (.tuple #[]) ∧
      At w' b o [.int .i64 n, .int .u8 lo, .int .u8 hi, v3] ∧ Sub b o 4 w w' := by
  obtain ⟨⟨hc0, hf0⟩, ⟨hc1, hf1⟩, ⟨hc2, hf2⟩, _⟩ := hb.four
  have e1 := hb.set 0 (by simp) (.int .i64 n)
  have e2 := e1.set 1 (by simp) (.int .u8 lo)
  have e3 := e2.set 2 (by simp) (.int .u8 hi)
  have s3 : Sub b o 4 w (((w.setCell ⟨b, o, none⟩ (.int .i64 n)).setCell ⟨b, o + 1, none⟩ (.int .u8 lo)).setCell ⟨b, o + 2, none⟩ (.int .u8 hi)) :=
    ((sub_setCell w o _ (by omega)).setCell (o + 1) _ (by omega)).setCell (o + 2) _ (by omega)
  have HP := Lib.hid (And.intro e3 s3)
  clear hb e1 e2 e3 s3
  go_enter Try.func93, Try.ntmps93
  go_wp2
  go_end0
  exact ⟨rfl, HP.out⟩
/-- What 'c.bad = true' leaves. -/
theorem bad_post {w : World} {b o : Nat} {n lo hi : Nat} {v : Value} (hb : At w b o [.int .i64 n, .int .u8 lo, .int .u8 hi, v]) : CPost w b o none (w.setCell ⟨b, o + 3, none⟩ (.bool true)) :=
  ⟨⟨n, lo, hi, hb.set 3 (by simp) _⟩, sub_setCell w (o + 3) _ (by omega)⟩
theorem cat_bad {w : World} {b o : Nat} {s : Option (Nat × Nat × Nat)} (h : CAt w b o s) : w.cell? ⟨b, o + 3, none⟩ = some (.bool s.isNone) := by
  obtain ⟨_, _, _, h⟩ := h.cells
  exact h.four.2.2.2.1
set_option maxHeartbeats 1600000 in
theorem open_any (w : World) (b o : Nat) (lo hi : Nat) (hb : At w b o (ckCells 0 lo hi false)) (x : Nat) (hx : x < 256) :
    Calls Try.prog 87 #[.pointer (some ⟨b, o, none⟩), .int .u8 x] w fun e w' => e = .returned (.tuple #[]) ∧ CPost w b o (openS x) w' := by
  obtain ⟨_, _, _, hc3, hf3⟩ := hb.four
  have HB := Lib.hid hb
  have HL := Lib.hid (lack_any w b o _ _ _ _ hb)
  clear hb
  by_cases c0 : (x : Int) < 128
  · have he : openS x = some (0, 0, 0) := by unfold openS; rw [if_pos (by omega)]
    rw [he]
    go_enter Try.func87, Try.ntmps87
    go_wp2
    go_end0
    exact ⟨rfl, ⟨by omega, lo, hi, HB.out, fun h => by omega⟩, Sub.refl _ _ _ _⟩
  by_cases c1 : (194 : Int) ≤ x ∧ (x : Int) ≤ 223
  · obtain ⟨c1a, c1b⟩ := c1
    have he : openS x = some (1, 128, 191) := by unfold openS; rw [if_neg (by omega), if_pos (by omega)]
    rw [he]
    go_enter Try.func87, Try.ntmps87
    go_wp2_with fail
    refine (HL.out 1 128 191).mono ?_
    rintro e w' ⟨rfl, hb', hs⟩
    go_wp2
    go_end0
    exact ⟨rfl, ⟨by omega, 128, 191, hb', fun _ => ⟨rfl, rfl⟩⟩, hs⟩
  have c1' : (194 : Int) ≤ x → ¬ (x : Int) ≤ 223 := fun h h' => c1 ⟨h, h'⟩
  clear c1
  by_cases d1 : (194 : Int) ≤ x
  · have c1'' := c1' d1
    clear c1'
    by_cases c2 : (x : Int) = 224
    · have c2z : ((x : Int) == 224) = true := by rw [beq_iff_eq]; exact c2
      have he : openS x = some (2, 160, 191) := by unfold openS; rw [if_neg (by omega), if_neg (by omega), if_pos (by omega)]
      rw [he]
      go_enter Try.func87, Try.ntmps87
      go_wp2_with fail
      refine (HL.out 2 160 191).mono ?_
      rintro e w' ⟨rfl, hb', hs⟩
      go_wp2
      go_end0
      exact ⟨rfl, ⟨by omega, 160, 191, hb', fun _ => ⟨rfl, rfl⟩⟩, hs⟩
    have c2z : ((x : Int) == 224) = false := by rw [beq_eq_false_iff_ne]; exact c2
    by_cases c3 : (x : Int) = 237
    · have c3z : ((x : Int) == 237) = true := by rw [beq_iff_eq]; exact c3
      have he : openS x = some (2, 128, 159) := by unfold openS; rw [if_neg (by omega), if_neg (by omega), if_neg (by omega), if_pos (by omega)]
      rw [he]
      go_enter Try.func87, Try.ntmps87
      go_wp2_with fail
      refine (HL.out 2 128 159).mono ?_
      rintro e w' ⟨rfl, hb', hs⟩
      go_wp2
      go_end0
      exact ⟨rfl, ⟨by omega, 128, 159, hb', fun _ => ⟨rfl, rfl⟩⟩, hs⟩
    have c3z : ((x : Int) == 237) = false := by rw [beq_eq_false_iff_ne]; exact c3
    have c4a : (225 : Int) ≤ x := by omega
    by_cases c4 : (x : Int) ≤ 239
    · skip
      have he : openS x = some (2, 128, 191) := by unfold openS; rw [if_neg (by omega), if_neg (by omega), if_neg (by omega), if_neg (by omega), if_pos (by omega)]
      rw [he]
      go_enter Try.func87, Try.ntmps87
      go_wp2_with fail
      refine (HL.out 2 128 191).mono ?_
      rintro e w' ⟨rfl, hb', hs⟩
      go_wp2
      go_end0
      exact ⟨rfl, ⟨by omega, 128, 191, hb', fun _ => ⟨rfl, rfl⟩⟩, hs⟩
    by_cases c5 : (x : Int) = 240
    · have c5z : ((x : Int) == 240) = true := by rw [beq_iff_eq]; exact c5
      have he : openS x = some (3, 144, 191) := by unfold openS; rw [if_neg (by omega), if_neg (by omega), if_neg (by omega), if_neg (by omega), if_neg (by omega), if_pos (by omega)]
      rw [he]
      go_enter Try.func87, Try.ntmps87
      go_wp2_with fail
      refine (HL.out 3 144 191).mono ?_
      rintro e w' ⟨rfl, hb', hs⟩
      go_wp2
      go_end0
      exact ⟨rfl, ⟨by omega, 144, 191, hb', fun _ => ⟨rfl, rfl⟩⟩, hs⟩
    have c5z : ((x : Int) == 240) = false := by rw [beq_eq_false_iff_ne]; exact c5
    have c6a : (241 : Int) ≤ x := by omega
    by_cases c6 : (x : Int) ≤ 243
    · skip
      have he : openS x = some (3, 128, 191) := by unfold openS; rw [if_neg (by omega), if_neg (by omega), if_neg (by omega), if_neg (by omega), if_neg (by omega), if_neg (by omega), if_pos (by omega)]
      rw [he]
      go_enter Try.func87, Try.ntmps87
      go_wp2_with fail
      refine (HL.out 3 128 191).mono ?_
      rintro e w' ⟨rfl, hb', hs⟩
      go_wp2
      go_end0
      exact ⟨rfl, ⟨by omega, 128, 191, hb', fun _ => ⟨rfl, rfl⟩⟩, hs⟩
    by_cases c7 : (x : Int) = 244
    · have c7z : ((x : Int) == 244) = true := by rw [beq_iff_eq]; exact c7
      have he : openS x = some (3, 128, 143) := by unfold openS; rw [if_neg (by omega), if_neg (by omega), if_neg (by omega), if_neg (by omega), if_neg (by omega), if_neg (by omega), if_neg (by omega), if_pos (by omega)]
      rw [he]
      go_enter Try.func87, Try.ntmps87
      go_wp2_with fail
      refine (HL.out 3 128 143).mono ?_
      rintro e w' ⟨rfl, hb', hs⟩
      go_wp2
      go_end0
      exact ⟨rfl, ⟨by omega, 128, 143, hb', fun _ => ⟨rfl, rfl⟩⟩, hs⟩
    have c7z : ((x : Int) == 244) = false := by rw [beq_eq_false_iff_ne]; exact c7
    have he : openS x = none := by unfold openS; rw [if_neg (by omega), if_neg (by omega), if_neg (by omega), if_neg (by omega), if_neg (by omega), if_neg (by omega), if_neg (by omega), if_neg (by omega)]
    rw [he]
    have HN := Lib.hid (bad_post HB.out)
    go_enter Try.func87, Try.ntmps87
    go_wp2
    go_end0
    exact ⟨rfl, HN.out⟩
  · have c1a : (x : Int) < 194 := by omega
    clear c1'
    have c2z : ((x : Int) == 224) = false := by rw [beq_eq_false_iff_ne]; omega
    have c3z : ((x : Int) == 237) = false := by rw [beq_eq_false_iff_ne]; omega
    have c4 : ¬ (225 : Int) ≤ x := by omega
    have c5z : ((x : Int) == 240) = false := by rw [beq_eq_false_iff_ne]; omega
    have c6 : ¬ (241 : Int) ≤ x := by omega
    have c7z : ((x : Int) == 244) = false := by rw [beq_eq_false_iff_ne]; omega
    have he : openS x = none := by unfold openS; rw [if_neg (by omega), if_neg (by omega), if_neg (by omega), if_neg (by omega), if_neg (by omega), if_neg (by omega), if_neg (by omega), if_neg (by omega)]
    rw [he]
    have HN := Lib.hid (bad_post HB.out)
    go_enter Try.func87, Try.ntmps87
    go_wp2
    go_end0
    exact ⟨rfl, HN.out⟩
set_option maxHeartbeats 1600000 in
theorem goon_any (w : World) (b o n : Nat) (lo hi : Nat) (hn : n < 3) (hb : At w b o (ckCells (n + 1) lo hi false)) (x : UInt8) :
    Calls Try.prog 88 #[.pointer (some ⟨b, o, none⟩), .int .u8 x.toNat] w fun e w' => e = .returned (.tuple #[]) ∧ CPost w b o (stepS (some (n + 1, lo, hi)) x) w' := by
  obtain ⟨⟨hc0, _⟩, ⟨hc1, _⟩, ⟨hc2, _⟩, hc3, hf3⟩ := hb.four
  have HN := Lib.hid (bad_post hb)
  have HL := Lib.hid (lack_any w b o _ _ _ _ hb)
  clear hb
  by_cases c1 : ((x.toNat : Nat) : Int) < (lo : Int)
  · have he : stepS (some (n + 1, lo, hi)) x = none := by simp only [stepS]; rw [if_pos (by omega)]
    rw [he]
    go_enter Try.func88, Try.ntmps88
    go_wp2
    refine bodyPost_ret (results_none rfl _ _ _) rfl ?_
    exact ⟨rfl, HN.out⟩
  by_cases c2 : (hi : Int) < ((x.toNat : Nat) : Int)
  · have he : stepS (some (n + 1, lo, hi)) x = none := by simp only [stepS]; rw [if_pos (by omega)]
    rw [he]
    go_enter Try.func88, Try.ntmps88
    go_wp2
    refine bodyPost_ret (results_none rfl _ _ _) rfl ?_
    exact ⟨rfl, HN.out⟩
  have hw : ((n + 1 : Nat) : Int) - 1 = (n : Int) := by omega
  have he : stepS (some (n + 1, lo, hi)) x = if n = 0 then some (0, 0, 0) else some (n, 128, 191) := by simp only [stepS]; rw [if_neg (by omega)]
  have hfin : ∀ w', At w' b o (ckCells n 128 191 false) → CAt w' b o (if n = 0 then some (0, 0, 0) else some (n, 128, 191)) := by
    intro w' h'
    by_cases h0 : n = 0
    · subst h0
      exact ⟨by omega, 128, 191, h', fun h => by omega⟩
    · rw [if_neg h0]
      exact ⟨by omega, 128, 191, h', fun _ => ⟨rfl, rfl⟩⟩
  obtain ⟨S, hS⟩ : ∃ S, (if n = 0 then some (0, 0, 0) else some (n, 128, 191)) = S := ⟨_, rfl⟩
  rw [he]
  rw [hS] at hfin ⊢
  have HF := Lib.hid hfin
  clear hfin he HN hS
  go_enter Try.func88, Try.ntmps88
  go_wp2_with fail
  refine (HL.out n 128 191).mono ?_
  rintro e w' ⟨rfl, hb', hs⟩
  go_wp2
  go_end0
  exact ⟨rfl, HF.out _ hb', hs⟩
set_option maxHeartbeats 400000 in
theorem bad_at {w : World} {b o : Nat} {s : Option (Nat × Nat × Nat)} (h : CAt w b o s) :
    Calls Try.prog 79 #[.pointer (some ⟨b, o, none⟩)] w fun e w' => e = .returned (.bool s.isNone) ∧ w = w' := by
  have hc := cat_bad h
  clear h
  generalize s.isNone = q at *
  go_enter Try.func79, Try.ntmps79
  go_wp2
  go_ret
  exact ⟨rfl, rfl⟩
theorem bad_nil (w : World) : Calls Try.prog 79 #[.pointer none] w fun e w' => e = .returned (.bool true) ∧ w = w' := by
  go_enter Try.func79, Try.ntmps79
  go_wp2
  go_ret
  exact ⟨rfl, rfl⟩
set_option maxHeartbeats 400000 in
theorem whole_at {w : World} {b o : Nat} {s : Option (Nat × Nat × Nat)} (h : CAt w b o s) :
    Calls Try.prog 75 #[.pointer (some ⟨b, o, none⟩)] w fun e w' => e = .returned (.bool (wholeS s)) ∧ w = w' := by
  have hB := bad_at h
  match s, h with
  | none, ⟨_, _, _, h⟩ =>
    have hs : wholeS none = false := rfl
    rw [hs]
    simp only [Option.isNone] at hB
    clear h
    go_enter Try.func75, Try.ntmps75
    go_wp2_with fail
    refine hB.mono ?_
    rintro e w' ⟨rfl, rfl⟩
    go_wp2
    go_ret
    exact ⟨rfl, rfl⟩
  | some (k, _, _), ⟨_, _, _, h, _⟩ =>
    have hc : w.cell? ⟨b, o, none⟩ = some (.int .i64 k) := h.four.1.1
    simp only [Option.isNone] at hB
    clear h
    by_cases h0 : k = 0
    · subst h0
      have hs : ∀ x y, wholeS (some (0, x, y)) = true := fun _ _ => rfl
      rw [hs]
      have hz : (((0 : Nat) : Int) == 0) = true := rfl
      go_enter Try.func75, Try.ntmps75
      go_wp2_with fail
      refine hB.mono ?_
      rintro e w' ⟨rfl, rfl⟩
      go_wp2
      go_ret
      exact ⟨rfl, rfl⟩
    · have hs : ∀ x y, wholeS (some (k, x, y)) = false := fun _ _ => by
        match k, h0 with
        | 0, h0 => exact absurd rfl h0
        | k + 1, _ => rfl
      rw [hs]
      have hz : ((k : Int) == 0) = false := by rw [beq_eq_false_iff_ne]; omega
      go_enter Try.func75, Try.ntmps75
      go_wp2_with fail
      refine hB.mono ?_
      rintro e w' ⟨rfl, rfl⟩
      go_wp2
      go_ret
      exact ⟨rfl, rfl⟩
theorem whole_nil (w : World) : Calls Try.prog 75 #[.pointer none] w fun e w' => e = .returned (.bool false) ∧ w = w' := by
  go_enter Try.func75, Try.ntmps75
  go_wp2_with fail
  refine (bad_nil w).mono ?_
  rintro e w' ⟨rfl, rfl⟩
  go_wp2
  go_ret
  exact ⟨rfl, rfl⟩
theorem step_nil (x : Int) (w : World) : Calls Try.prog 81 #[.pointer none, .int .u8 x] w fun e w' => e = .returned (.bool false) ∧ w = w' := by
  go_enter Try.func81, Try.ntmps81
  go_wp2_with fail
  refine (bad_nil w).mono ?_
  rintro e w' ⟨rfl, rfl⟩
  go_wp2
  go_ret
  exact ⟨rfl, rfl⟩
/-- STEP. -/
theorem step_at {w : World} {b o : Nat} {s : Option (Nat × Nat × Nat)} (h : CAt w b o s) (x : UInt8) :
    Calls Try.prog 81 #[.pointer (some ⟨b, o, none⟩), .int .u8 x.toNat] w fun e w' => e = .returned (.bool (stepS s x).isSome) ∧ CPost w b o (stepS s x) w' := by
  have hB := bad_at h
  match s, h with
  | none, h =>
    have hs : stepS none x = none := rfl
    rw [hs]
    have HC := Lib.hid h
    simp only [Option.isNone] at hB
    simp only [Option.isSome]
    clear h
    go_enter Try.func81, Try.ntmps81
    go_wp2_with fail
    refine hB.mono ?_
    rintro e w' ⟨rfl, rfl⟩
    go_wp2
    go_ret
    exact ⟨rfl, HC.out, Sub.refl _ _ _ _⟩
  | some (k, l, u), ⟨hk, lo, hi, h, hlo⟩ =>
    have hc : w.cell? ⟨b, o, none⟩ = some (.int .i64 k) := h.four.1.1
    simp only [Option.isNone] at hB
    have main : ∀ w' : World, CPost w b o (stepS (some (k, l, u)) x) w' → w'.cell? ⟨b, o + 3, none⟩ = some (.bool (!(stepS (some (k, l, u)) x).isSome)) := by
      intro w' hp
      have := cat_bad hp.1
      rw [this]
      cases stepS (some (k, l, u)) x <;> rfl
    cases k with
    | zero =>
      have hO := open_any w b o lo hi h x.toNat x.toNat_lt
      have hs : stepS (some (0, l, u)) x = openS x.toNat := rfl
      rw [hs] at main ⊢
      have hz : (((0 : Nat) : Int) == 0) = true := rfl
      have HM := Lib.hid main
      clear h main hlo hs
      go_enter Try.func81, Try.ntmps81
      go_wp2_with fail
      refine hB.mono ?_
      rintro e w' ⟨rfl, rfl⟩
      go_wp2_with fail
      refine hO.mono ?_
      rintro e w' ⟨rfl, hp⟩
      have hc3 := HM.out w' hp
      have HP := Lib.hid hp
      clear hp HM
      generalize hq : (openS x.toNat).isSome = q at hc3
      go_wp2
      go_ret
      exact ⟨by simp [hq], HP.out⟩
    | succ k =>
      obtain ⟨rfl, rfl⟩ := hlo (by omega)
      have hO := goon_any w b o k lo hi (by omega) h x
      have hz : (((k + 1 : Nat) : Int) == 0) = false := by rw [beq_eq_false_iff_ne]; omega
      have HM := Lib.hid main
      clear h main hlo
      go_enter Try.func81, Try.ntmps81
      go_wp2_with fail
      refine hB.mono ?_
      rintro e w' ⟨rfl, rfl⟩
      go_wp2_with fail
      refine hO.mono ?_
      rintro e w' ⟨rfl, hp⟩
      have hc3 := HM.out w' hp
      have HP := Lib.hid hp
      clear hp HM
      generalize hq : (stepS (some (k + 1, lo, hi)) x).isSome = q at hc3
      go_wp2
      go_ret
      exact ⟨by simp [hq], HP.out⟩
end Go.Proofs.Ytacngbngljfedaa
/-
  CONTRACTS of escape.Reader (Step, Whole and what they call) WHEREVER IT LIES: its eight cells, from place o of block b on, hold the state that EscPure names; no other cell turns.
-/
namespace Go.Proofs.Ytacngbngljfedaa
open Go.RowKit
open Go.Lib
/-- What is told of a state: 9 of UTF-8, 2 of form, 0: no error. -/
def errI : Ins → Nat
  | .bad true => 9
  | .bad false => 2
  | _ => 0
def seenI : Ins → Nat
  | .back => 1
  | .hex k _ => k + 2
  | .high _ k _ => k
  | _ => 0
def codeI : Ins → Nat
  | .hex _ v => v
  | .high _ _ w => w
  | _ => 0
def highI : Ins → Nat
  | .high h _ _ => h
  | _ => 0
def utfI : Ins → Option (Nat × Nat × Nat)
  | .text n lo hi => some (n, lo, hi)
  | _ => st0
/-- States that there are. -/
def WfI : Ins → Prop
  | .text n lo hi => n ≤ 3 ∧ Conts (some (n, lo, hi))
  | .back => True
  | .hex k v => k ≤ 3 ∧ v < 16 ^ k
  | .high h k w => 55296 ≤ h ∧ h ≤ 56319 ∧ (k ≤ 2 ∧ w = 0 ∨ k = 3 ∧ w = 13 ∨ k = 4 ∧ 220 ≤ w ∧ w ≤ 223 ∨ k = 5 ∧ 3520 ≤ w ∧ w ≤ 3583)
  | .bad _ => True
theorem Sub.keep1 {w w' : World} {b o o' n : Nat} {vs : List Value} (h : At w b o' vs) (k : Sub b o n w w') (hd : o' + vs.length ≤ o ∨ o + n ≤ o') : At w' b o' vs := h.sub k hd
theorem At.tail {w : World} {b o : Nat} {v0 v1 v2 : Value} (h : At w b (o + 5) [v0, v1, v2]) :
    (w.cell? ⟨b, o + 5, none⟩ = some v0 ∧ w.frozen? ⟨b, o + 5, none⟩ = false) ∧ (w.cell? ⟨b, o + 6, none⟩ = some v1 ∧ w.frozen? ⟨b, o + 6, none⟩ = false) ∧
    (w.cell? ⟨b, o + 7, none⟩ = some v2 ∧ w.frozen? ⟨b, o + 7, none⟩ = false) := ⟨h 0 v0 rfl, h 1 v1 rfl, h 2 v2 rfl⟩
/-- seen, code, high. -/
abbrev tail3 (s c h : Nat) : List Value := [.int .i64 s, .int .i64 c, .int .i64 h]
/-- How end leaves the three cells. -/
def EndPost (w : World) (b o c : Nat) (w' : World) : Prop := At w' b (o + 5) (tail3 0 0 c) ∧ Sub b (o + 5) 3 w w'
theorem three_set {w : World} {b o s c h : Nat} (h0 : At w b (o + 5) (tail3 s c h)) (q : Nat) :
    At ((((w.drewN q).setCell ⟨b, o + 5, none⟩ (.int .i64 0)).setCell ⟨b, o + 6, none⟩ (.int .i64 0)).setCell ⟨b, o + 7, none⟩ (.int .i64 0)) b (o + 5) (tail3 0 0 0) ∧
    Sub b (o + 5) 3 w ((((w.drewN q).setCell ⟨b, o + 5, none⟩ (.int .i64 0)).setCell ⟨b, o + 6, none⟩ (.int .i64 0)).setCell ⟨b, o + 7, none⟩ (.int .i64 0)) := by
  have a0 : At (w.drewN q) b (o + 5) (tail3 s c h) := h0
  have e1 := a0.set 0 (by simp) (.int .i64 0)
  have e2 := e1.set 1 (by simp) (.int .i64 0)
  have e3 := e2.set 2 (by simp) (.int .i64 0)
  exact ⟨e3, ((((Sub.refl b (o + 5) 3 w).drewN q).setCell (o + 5) _ (by omega)).setCell (o + 6) _ (by omega)).setCell (o + 7) _ (by omega)⟩
set_option maxRecDepth 100000 in
set_option maxHeartbeats 800000 in
/-- end: of a rune that is none of the surrogates. -/
theorem end_rune (w : World) (b o s c : Nat) (hr : IsRune c) (h : At w b (o + 5) (tail3 s c 0)) :
    Calls Try.prog 90 #[.pointer (some ⟨b, o, none⟩)] w fun e w' => e = .returned (.tuple #[.string ⟨(encL c).toArray⟩, .int .i64 0]) ∧ EndPost w b o 0 w' := by
  obtain ⟨⟨hc0, hf0⟩, ⟨hc1, hf1⟩, hc2', hf2⟩ := h.tail
  have hc2 : w.cell? ⟨b, o + 7, none⟩ = some (.int .i64 0) := hc2'
  clear hc2'
  have HP := Lib.hid (three_set h)
  have hP := Lib.hid (put_ok c hr)
  have hE := enc_list c
  have HR := Lib.hid (show ((55296 : Int) ≤ c) = False ∨ (((55296 : Int) ≤ c) = True ∧ ((c : Int) < 56320) = False) by unfold IsRune at hr; simp only [eq_iff_iff, iff_false, iff_true]; omega)
  clear h hr
  rw [hE]
  clear hE
  generalize Utf8.encode (c : Int) = x at *
  go_enter Try.func90, Try.ntmps90
  go_wp2_with fail
  go_quiet (fail)
  rcases HR.out with h1 | ⟨h1, h2⟩
  · go_wp2_with fail
    refine (hP.out _).mono ?_
    rintro e w' ⟨rfl, rfl⟩
    go_wp2
    go_ret2
    exact ⟨rfl, HP.out _⟩
  · go_wp2_with fail
    refine (hP.out _).mono ?_
    rintro e w' ⟨rfl, rfl⟩
    go_wp2
    go_ret2
    exact ⟨rfl, HP.out _⟩
set_option maxRecDepth 100000 in
set_option maxHeartbeats 800000 in
/-- end: of a high surrogate. -/
theorem end_sur (w : World) (b o s c : Nat) (hr : 55296 ≤ c ∧ c < 56320) (h : At w b (o + 5) (tail3 s c 0)) :
    Calls Try.prog 90 #[.pointer (some ⟨b, o, none⟩)] w fun e w' => e = .returned (.tuple #[.string ⟨#[]⟩, .int .i64 0]) ∧ EndPost w b o c w' := by
  obtain ⟨⟨hc0, hf0⟩, ⟨hc1, hf1⟩, hc2', hf2⟩ := h.tail
  have hc2 : w.cell? ⟨b, o + 7, none⟩ = some (.int .i64 0) := hc2'
  clear hc2'
  have HP := Lib.hid (fun q => And.intro ((three_set h q).1.set 2 (by simp) (.int .i64 c)) ((three_set h q).2.setCell (o + 7) (.int .i64 c) (by omega)))
  have h1 : ((55296 : Int) ≤ c) = True := by simp only [eq_iff_iff, iff_true]; omega
  have h2 : ((c : Int) < 56320) = True := by simp only [eq_iff_iff, iff_true]; omega
  clear h hr
  go_enter Try.func90, Try.ntmps90
  go_wp2_with fail
  go_quiet (fail)
  go_wp2
  go_ret2
  exact ⟨rfl, HP.out _⟩
set_option maxRecDepth 100000 in
set_option maxHeartbeats 800000 in
/-- end: of a low surrogate alone. -/
theorem end_low (w : World) (b o s c : Nat) (hr : 56320 ≤ c ∧ c ≤ 57343) (h : At w b (o + 5) (tail3 s c 0)) :
    Calls Try.prog 90 #[.pointer (some ⟨b, o, none⟩)] w fun e w' => e = .returned (.tuple #[.string ⟨#[]⟩, .int .i64 9]) ∧ EndPost w b o 0 w' := by
  obtain ⟨⟨hc0, hf0⟩, ⟨hc1, hf1⟩, hc2', hf2⟩ := h.tail
  have hc2 : w.cell? ⟨b, o + 7, none⟩ = some (.int .i64 0) := hc2'
  clear hc2'
  have HP := Lib.hid (three_set h)
  have hP := Lib.hid (put_no (c : Int) (.inr (.inr (by omega))))
  have h1 : ((55296 : Int) ≤ c) = True := by simp only [eq_iff_iff, iff_true]; omega
  have h2 : ((c : Int) < 56320) = False := by simp only [eq_iff_iff, iff_false]; omega
  clear h hr
  go_enter Try.func90, Try.ntmps90
  go_wp2_with fail
  go_quiet (fail)
  go_wp2_with fail
  refine (hP.out _).mono ?_
  rintro e w' ⟨rfl, rfl⟩
  go_wp2
  go_ret2
  exact ⟨rfl, HP.out _⟩
theorem pair_rune {h c : Nat} (hh : 55296 ≤ h ∧ h ≤ 56319) (hc : 56320 ≤ c ∧ c ≤ 57343) : IsRune (pairN h c) := by
  unfold IsRune pairN
  omega
set_option maxRecDepth 100000 in
set_option maxHeartbeats 800000 in
/-- end: of a pair. -/
theorem end_pair (w : World) (b o s c hi : Nat) (hh : 55296 ≤ hi ∧ hi ≤ 56319) (hr : 56320 ≤ c ∧ c ≤ 57343) (h : At w b (o + 5) (tail3 s c hi)) :
    Calls Try.prog 90 #[.pointer (some ⟨b, o, none⟩)] w fun e w' => e = .returned (.tuple #[.string ⟨(encL (pairN hi c)).toArray⟩, .int .i64 0]) ∧ EndPost w b o 0 w' := by
  obtain ⟨⟨hc0, hf0⟩, ⟨hc1, hf1⟩, hc2, hf2⟩ := h.tail
  have HP := Lib.hid (three_set h)
  have hP0 := put_ok (pairN hi c) (pair_rune hh hr)
  have hE := enc_list (pairN hi c)
  have hz : ((hi : Int) == 0) = false := by rw [beq_eq_false_iff_ne]; omega
  rw [hE]
  clear hE
  have hv : ((pairN hi c : Nat) : Int) = (65536 : Int) + ((hi : Int) - 55296) * 1024 + (c : Int) - 56320 := by unfold pairN; omega
  generalize hx : Utf8.encode ((pairN hi c : Nat) : Int) = x at *
  rw [hv] at hP0
  have hP := Lib.hid hP0
  clear h hv hP0 hx
  go_enter Try.func90, Try.ntmps90
  go_wp2_with fail
  go_quiet (fail)
  go_wp2_with fail
  refine (hP.out _).mono ?_
  rintro e w' ⟨rfl, rfl⟩
  go_wp2
  go_ret2
  exact ⟨rfl, HP.out _⟩
end Go.Proofs.Ytacngbngljfedaa
/-
  CONTRACTS of escape.Reader, part B: digit, open, take, Step, Whole.
-/
namespace Go.Proofs.Ytacngbngljfedaa
open Go.RowKit
open Go.Lib
theorem bits_or_i64 (a b : Nat) (ha : a < 4611686018427387904) (hb : b < 4611686018427387904) : bits .or .i64 (a : Int) (b : Int) = ((a ||| b : Nat) : Int) := by
  have hx : a ||| b < 2 ^ 62 := Nat.or_lt_two_pow (by omega) (by omega)
  have h1 : (BitVec.ofInt 64 (a : Int)).toNat = a := by
    rw [BitVec.ofInt_natCast, BitVec.toNat_ofNat]; exact Nat.mod_eq_of_lt (by omega)
  have h2 : (BitVec.ofInt 64 (b : Int)).toNat = b := by
    rw [BitVec.ofInt_natCast, BitVec.toNat_ofNat]; exact Nat.mod_eq_of_lt (by omega)
  show IntKind.i64.wrap ((BitVec.ofInt 64 (a : Int) ||| BitVec.ofInt 64 (b : Int)).toNat : Int) = _
  rw [BitVec.toNat_or, h1, h2, IntKind.wrap_i64]
  omega
theorem or16 (v d : Nat) (hv : v < 65536) (hd : d < 16) : bits .or .i64 ((v : Int) * 16) (d : Int) = (v : Int) * 16 + d := by
  have h1 := bits_or_i64 (v * 16) d (by omega) (by omega)
  have h2 := Nat.two_pow_add_eq_or_of_lt (i := 4) (b := d) (by omega) v
  rw [show v * 16 = 2 ^ 4 * v by omega, ← h2] at h1
  rw [show (v : Int) * 16 = ((2 ^ 4 * v : Nat) : Int) by omega, h1]
  omega
set_option maxHeartbeats 800000 in
theorem digit_no (w : World) (b o x : Nat) (hx : hexV x = none) :
    Calls Try.prog 83 #[.pointer (some ⟨b, o, none⟩), .int .u8 x] w fun e w' => e = .returned (.tuple #[.string ⟨#[]⟩, .int .i64 2]) ∧ w = w' := by
  have hH := hexDigit_any x
  have he : hexR x = (0, false) := by unfold hexR; rw [hx]
  rw [he] at hH
  have HH := Lib.hid hH
  clear hH he hx
  go_enter Try.func83, Try.ntmps83
  go_wp2_with fail
  refine (HH.out _).mono ?_
  rintro e w' ⟨rfl, rfl⟩
  go_wp2
  go_ret2
  exact ⟨rfl, rfl⟩
theorem two_set {w : World} {b o s c h : Nat} (h0 : At w b (o + 5) (tail3 s c h)) (c' s' : Int) :
    At ((w.setCell ⟨b, o + 6, none⟩ (.int .i64 c')).setCell ⟨b, o + 5, none⟩ (.int .i64 s')) b (o + 5) [.int .i64 s', .int .i64 c', .int .i64 h] ∧
    Sub b (o + 5) 3 w ((w.setCell ⟨b, o + 6, none⟩ (.int .i64 c')).setCell ⟨b, o + 5, none⟩ (.int .i64 s')) := by
  have e1 := h0.set 1 (by simp) (.int .i64 c')
  have e2 := e1.set 0 (by simp) (.int .i64 s')
  exact ⟨e2, (sub_setCell w (o + 6) _ (by omega)).setCell (o + 5) _ (by omega)⟩
set_option maxRecDepth 100000 in
set_option maxHeartbeats 800000 in
theorem digit_mid (w : World) (b o n v hi x d : Nat) (hx : hexV x = some d) (hn : n < 5) (hv : v < 65536) (h : At w b (o + 5) (tail3 n v hi)) :
    Calls Try.prog 83 #[.pointer (some ⟨b, o, none⟩), .int .u8 x] w fun e w' => e = .returned (.tuple #[.string ⟨#[]⟩, .int .i64 0]) ∧ At w' b (o + 5) (tail3 (n + 1) (v * 16 + d) hi) ∧ Sub b (o + 5) 3 w w' := by
  obtain ⟨⟨hc0, hf0⟩, ⟨hc1, hf1⟩, hc2, hf2⟩ := h.tail
  have hH := hexDigit_any x
  have he : hexR x = (d, true) := by unfold hexR; rw [hx]
  rw [he] at hH
  have HH := Lib.hid hH
  have hd := (hexV_lt hx).1
  have hor := or16 v d hv hd
  have hP := two_set h ((v : Int) * 16 + d) ((n : Int) + 1)
  have HP := Lib.hid hP
  have hlt : ((n : Int) + 1 < 6) = True := by simp only [eq_iff_iff, iff_true]; omega
  clear hH he hx h hP
  go_enter Try.func83, Try.ntmps83
  go_wp2_with fail
  refine (HH.out _).mono ?_
  rintro e w' ⟨rfl, rfl⟩
  go_wp2
  go_ret2
  refine ⟨rfl, ?_, HP.out.2⟩
  have := HP.out.1
  unfold tail3
  rw [show ((n + 1 : Nat) : Int) = (n : Int) + 1 by omega, show ((v * 16 + d : Nat) : Int) = (v : Int) * 16 + d by omega]
  exact this
set_option maxRecDepth 100000 in
set_option maxHeartbeats 800000 in
theorem digit_end (w : World) (b o v hi x d c : Nat) (R : Value × Value) (hx : hexV x = some d) (hv : v < 65536) (h : At w b (o + 5) (tail3 5 v hi))
    (hE : ∀ w1 : World, At w1 b (o + 5) (tail3 6 (v * 16 + d) hi) → Calls Try.prog 90 #[.pointer (some ⟨b, o, none⟩)] w1 fun e w' => e = .returned (.tuple #[R.1, R.2]) ∧ EndPost w1 b o c w') :
    Calls Try.prog 83 #[.pointer (some ⟨b, o, none⟩), .int .u8 x] w fun e w' => e = .returned (.tuple #[R.1, R.2]) ∧ EndPost w b o c w' := by
  obtain ⟨⟨hc0', hf0⟩, ⟨hc1, hf1⟩, hc2, hf2⟩ := h.tail
  have hc0 : w.cell? ⟨b, o + 5, none⟩ = some (.int .i64 5) := hc0'
  clear hc0'
  obtain ⟨R1, R2⟩ := R
  simp only [] at hE ⊢
  have hH := hexDigit_any x
  have he : hexR x = (d, true) := by unfold hexR; rw [hx]
  rw [he] at hH
  have HH := Lib.hid hH
  have hd := (hexV_lt hx).1
  have hor := or16 v d hv hd
  have hP := two_set h ((v : Int) * 16 + d) 6
  have hA := hE _ (by
    unfold tail3
    rw [show ((v * 16 + d : Nat) : Int) = (v : Int) * 16 + d by omega]
    exact hP.1)
  have HE := Lib.hid hA
  have HP := Lib.hid hP.2
  clear hH he hx h hP hE hA
  go_enter Try.func83, Try.ntmps83
  go_wp2_with fail
  refine (HH.out _).mono ?_
  rintro e w' ⟨rfl, rfl⟩
  go_wp2_with fail
  refine HE.out.mono ?_
  rintro e w' ⟨rfl, hp⟩
  go_wp2
  go_ret2
  exact ⟨rfl, hp.1, HP.out.trans hp.2⟩
theorem one_set {w : World} {b o s c h : Nat} (h0 : At w b (o + 5) (tail3 s c h)) (s' : Int) :
    At (w.setCell ⟨b, o + 5, none⟩ (.int .i64 s')) b (o + 5) [.int .i64 s', .int .i64 c, .int .i64 h] ∧ Sub b (o + 5) 3 w (w.setCell ⟨b, o + 5, none⟩ (.int .i64 s')) :=
  ⟨h0.set 0 (by simp) (.int .i64 s'), sub_setCell w (o + 5) _ (by omega)⟩
set_option maxHeartbeats 800000 in
theorem open_u (w : World) (b o s c hi : Nat) (h : At w b (o + 5) (tail3 s c hi)) :
    Calls Try.prog 82 #[.pointer (some ⟨b, o, none⟩), .int .u8 117] w fun e w' => e = .returned (.tuple #[.string ⟨#[]⟩, .int .i64 0]) ∧ At w' b (o + 5) (tail3 2 c hi) ∧ Sub b (o + 5) 3 w w' := by
  obtain ⟨⟨hc0, hf0⟩, ⟨hc1, hf1⟩, hc2, hf2⟩ := h.tail
  have HP := Lib.hid (one_set h 2)
  clear h
  go_enter Try.func82, Try.ntmps82
  go_wp2
  go_ret2
  exact ⟨rfl, HP.out⟩
set_option maxHeartbeats 800000 in
theorem open_short (w : World) (b o s c hi x y : Nat) (hx : shortOf x = some y) (h : At w b (o + 5) (tail3 s c hi)) :
    Calls Try.prog 82 #[.pointer (some ⟨b, o, none⟩), .int .u8 x] w fun e w' => e = .returned (.tuple #[.string ⟨#[UInt8.ofNat y]⟩, .int .i64 0]) ∧ At w' b (o + 5) (tail3 0 c hi) ∧ Sub b (o + 5) 3 w w' := by
  obtain ⟨⟨hc0, hf0⟩, ⟨hc1, hf1⟩, hc2, hf2⟩ := h.tail
  have HP := Lib.hid (one_set h 0)
  have hM := meant_any x
  have he : shortL x = [UInt8.ofNat y] := by unfold shortL; rw [hx]
  rw [he] at hM
  have h117 : ((x : Int) == 117) = false := by
    rw [beq_eq_false_iff_ne]
    intro e
    have : x = 117 := by omega
    subst this
    rw [show shortOf 117 = none by decide] at hx
    cases hx
  have HM := Lib.hid hM
  obtain ⟨z, hz⟩ : ∃ z : ByteArray, z = ⟨#[UInt8.ofNat y]⟩ := ⟨_, rfl⟩
  have hz1 : z.toList = [UInt8.ofNat y] := by rw [hz, ByteArray.toList_eq]
  have hz2 : z.toList.isEmpty = false := by rw [hz1]; rfl
  have hz3 : (z.toList = []) = False := by rw [hz1]; simp
  have HM' : Hid (∀ w, Calls Try.prog 89 #[.int .u8 x] w fun e w' => e = .returned (.string z) ∧ w = w') := Lib.hid (by rw [hz]; exact HM.out)
  rw [← hz]
  clear h hM he hx HM hz hz1
  go_enter Try.func82, Try.ntmps82
  go_wp2_with fail
  refine (HM'.out _).mono ?_
  rintro e w' ⟨rfl, rfl⟩
  go_wp2
  go_ret2
  exact ⟨rfl, HP.out⟩
set_option maxHeartbeats 800000 in
theorem open_no (w : World) (b o x : Nat) (hx : shortOf x = none) (hu : x ≠ 117) :
    Calls Try.prog 82 #[.pointer (some ⟨b, o, none⟩), .int .u8 x] w fun e w' => e = .returned (.tuple #[.string ⟨#[]⟩, .int .i64 2]) ∧ w = w' := by
  have hM := meant_any x
  have he : shortL x = [] := by unfold shortL; rw [hx]
  rw [he] at hM
  have h117 : ((x : Int) == 117) = false := by rw [beq_eq_false_iff_ne]; omega
  have HM := Lib.hid hM
  clear hM he hx hu
  go_enter Try.func82, Try.ntmps82
  go_wp2_with fail
  refine (HM.out _).mono ?_
  rintro e w' ⟨rfl, rfl⟩
  go_wp2
  go_ret2
  exact ⟨rfl, rfl⟩
end Go.Proofs.Ytacngbngljfedaa
/-
  CONTRACTS of escape.Reader, part C: take.
-/
namespace Go.Proofs.Ytacngbngljfedaa
open Go.RowKit
open Go.Lib
/-- WHAT take LEAVES: the state, but for the error's cell, which does not turn; behind an error whatever. -/
def TPost (w : World) (b o : Nat) (s : Ins) (w' : World) : Prop := Sub b (o + 1) 7 w w' ∧ (errI s = 0 → WfI s ∧ CAt w' b (o + 1) (utfI s) ∧ At w' b (o + 5) (tail3 (seenI s) (codeI s) (highI s)))
theorem At.zeros {w : World} {b o s c h : Nat} (hT : At w b (o + 5) (tail3 s c h)) (s' c' h' : Int) (e1 : s' = s) (e2 : c' = c) (e3 : h' = h) :
    (w.cell? ⟨b, o + 5, none⟩ = some (.int .i64 s') ∧ w.frozen? ⟨b, o + 5, none⟩ = false) ∧ (w.cell? ⟨b, o + 6, none⟩ = some (.int .i64 c') ∧ w.frozen? ⟨b, o + 6, none⟩ = false) ∧
    (w.cell? ⟨b, o + 7, none⟩ = some (.int .i64 h') ∧ w.frozen? ⟨b, o + 7, none⟩ = false) := by
  subst e1 e2 e3
  exact hT.tail
theorem tpost_bad {w w' : World} {b o n : Nat} {u : Bool} (h : Sub b (o + 1) n w w') (hn : n ≤ 7) : TPost w b o (.bad u) w' :=
  ⟨h.widen (Nat.le_refl _) (by omega), fun he => by cases u <;> cases he⟩
theorem tpost_ref {w : World} {b o : Nat} {u : Bool} : TPost w b o (.bad u) w := tpost_bad (n := 0) (Sub.refl _ _ _ _) (by omega)
theorem u8z (x : UInt8) (k : Nat) (h : x.toNat ≠ k) : (((x.toNat : Nat) : Int) == (k : Int)) = false := by rw [beq_eq_false_iff_ne]; omega
theorem alloc_at {w : World} {b o : Nat} {vs : List Value} (h : At w b o vs) (hv : vs ≠ []) (x : Obj) : At (w.alloc x) b o vs := h.alloc hv x
theorem CAt.alloc {w : World} {b o : Nat} {s : Option (Nat × Nat × Nat)} (h : CAt w b o s) (x : Obj) : CAt (w.alloc x) b o s := h.map fun vs hv h => h.alloc (by intro e; rw [e] at hv; simp at hv) x
set_option maxRecDepth 100000 in
set_option maxHeartbeats 1600000 in
theorem take_text (w : World) (b o n lo hi : Nat) (hW : WfI (.text n lo hi)) (hC : CAt w b (o + 1) (some (n, lo, hi))) (hT : At w b (o + 5) (tail3 0 0 0)) (x : UInt8) :
    Calls Try.prog 76 #[.pointer (some ⟨b, o, none⟩), .int .u8 x.toNat] w fun e w' =>
      e = .returned (.tuple #[.string ⟨(stepI (.text n lo hi) x).2.toArray⟩, .int .i64 (errI (stepI (.text n lo hi) x).1)]) ∧ TPost w b o (stepI (.text n lo hi) x).1 w' := by
  obtain ⟨⟨hc0, hf0⟩, ⟨hc1, hf1⟩, hc2, hf2⟩ := hT.zeros 0 0 0 rfl rfl rfl
  by_cases hq : x.toNat = 34 ∨ x.toNat < 32
  · have hs : stepI (.text n lo hi) x = (.bad false, []) := by simp only [stepI]; rw [if_pos hq]
    rw [hs]
    have HP : Hid (TPost w b o (.bad false) w) := Lib.hid tpost_ref
    simp only [errI]
    clear hs hC hT hW
    by_cases h32 : x.toNat < 32
    · have g : (((x.toNat : Nat) : Int) < 32) = True := by simp only [eq_iff_iff, iff_true]; omega
      clear hq h32
      go_enter Try.func76, Try.ntmps76
      go_wp2
      go_ret2
      exact ⟨rfl, HP.out⟩
    · have g : (((x.toNat : Nat) : Int) < 32) = False := by simp only [eq_iff_iff, iff_false]; omega
      have g2 : (((x.toNat : Nat) : Int) == 34) = true := by rw [beq_iff_eq]; omega
      clear hq h32
      go_enter Try.func76, Try.ntmps76
      go_wp2
      go_ret2
      exact ⟨rfl, HP.out⟩
  have g : (((x.toNat : Nat) : Int) < 32) = False := by simp only [eq_iff_iff, iff_false]; omega
  have g2 : (((x.toNat : Nat) : Int) == 34) = false := u8z x 34 (by omega)
  have hS := step_at hC x
  have HT := Lib.hid hT
  cases hp : stepS (some (n, lo, hi)) x with
  | none =>
    have h92 : ¬ (n = 0 ∧ x.toNat = 92) := by
      rintro ⟨rfl, h⟩
      have : stepS (some (0, lo, hi)) x = some (0, 0, 0) := by simp [stepS, openS, h]
      rw [this] at hp
      cases hp
    have hs : stepI (.text n lo hi) x = (.bad true, []) := by simp only [stepI]; rw [if_neg hq, if_neg h92, hp]
    rw [hs]
    rw [hp] at hS
    have HS := Lib.hid hS
    simp only [errI]
    clear hS hs hp hC hT hW hq h92
    go_enter Try.func76, Try.ntmps76
    go_wp2_with fail
    refine HS.out.mono ?_
    rintro e w' ⟨rfl, hp⟩
    have HP : Hid (TPost w b o (.bad true) w') := Lib.hid (tpost_bad hp.2 (by omega))
    simp only [Option.isSome]
    clear hp
    go_wp2
    go_ret2
    exact ⟨rfl, HP.out⟩
  | some p =>
    obtain ⟨m, lo', hi'⟩ := p
    rw [hp] at hS
    have HS := Lib.hid hS
    by_cases h92 : x.toNat = 92
    · have hn : n = 0 := by
        cases n with
        | zero => rfl
        | succ n =>
          have := hW.2.1
          simp only [stepS] at hp
          rw [if_pos (by omega)] at hp
          cases hp
      subst hn
      have hs : stepI (.text 0 lo hi) x = (.back, []) := by simp only [stepI]; rw [if_neg hq, if_pos ⟨trivial, h92⟩]
      have e0 : stepS (some (0, lo, hi)) x = some (0, 0, 0) := by simp [stepS, openS, h92]
      rw [e0] at hp
      injection hp with hp
      injection hp with hp1 hp2
      injection hp2 with hp2 hp3
      subst hp1 hp2 hp3
      rw [hs]
      have g3 : (((x.toNat : Nat) : Int) == 92) = true := by rw [beq_iff_eq]; omega
      simp only [errI]
      clear hS hs hC hT hW hq h92 e0
      go_enter Try.func76, Try.ntmps76
      go_wp2_with fail
      refine HS.out.mono ?_
      rintro e w' ⟨rfl, hp⟩
      simp only [Option.isSome]
      have hT' := HT.out.sub hp.2 (.inr (by omega))
      obtain ⟨⟨hd0, he0⟩, ⟨hd1, he1⟩, hd2, he2⟩ := hT'.zeros 0 0 0 rfl rfl rfl
      have HP : Hid (TPost w b o .back (w'.setCell ⟨b, o + 5, none⟩ (.int .i64 1))) := Lib.hid
        ⟨(hp.2.widen (Nat.le_refl _) (by omega)).trans ((one_set hT' 1).2.widen (by omega) (by omega)), fun _ => ⟨trivial, hp.1.sub (one_set hT' 1).2 (.inl (by omega)), (one_set hT' 1).1⟩⟩
      clear hp hT'
      go_wp2
      go_ret2
      exact ⟨rfl, HP.out⟩
    · have hs : stepI (.text n lo hi) x = (.text m lo' hi', [x]) := by simp only [stepI]; rw [if_neg hq, if_neg (fun h => h92 h.2), hp]
      have hm : WfI (.text m lo' hi') := by
        refine ⟨?_, ?_⟩
        · cases n with
          | zero =>
            by_cases hb : x.toNat < 128
            · have : openS x.toNat = some (0, 0, 0) := by unfold openS; rw [if_pos hb]
              have hp' : openS x.toNat = some (m, lo', hi') := hp
              rw [this] at hp'
              injection hp' with hp'
              injection hp' with hp' _
              omega
            · have := openS_pos x.toNat m lo' hi' hp (by omega)
              omega
          | succ n =>
            have := hW.1
            simp only [stepS] at hp
            split at hp
            · cases hp
            · split at hp
              · injection hp with hp
                injection hp with hp _
                omega
              · injection hp with hp
                injection hp with hp _
                omega
        · have := conts_step _ x hW.2
          rw [hp] at this
          exact this
      rw [hs]
      have g3 : (((x.toNat : Nat) : Int) == 92) = false := u8z x 92 h92
      have HM := Lib.hid hm
      have HL := Lib.hid hC.lt
      have hcv : ∀ W : World, (convert 44 9 (.slice (some ⟨W.heap.size, 0, none⟩) 1 1)).run Try.prog (W.alloc (.cells #[.int .u8 x.toNat] 5)) = .ok (.string ⟨[x].toArray⟩) (W.alloc (.cells #[.int .u8 x.toNat] 5)) :=
        fun W => conv_new W [x] _ 1 rfl rfl _ rfl
      simp only [errI]
      obtain ⟨z, hz⟩ : ∃ z : ByteArray, z = ⟨[x].toArray⟩ := ⟨_, rfl⟩
      rw [← hz] at hcv ⊢
      clear hS hs hp hC hT hW hq h92 hm hz
      go_enter Try.func76, Try.ntmps76
      go_wp2_with fail
      refine HS.out.mono ?_
      rintro e w' ⟨rfl, hp⟩
      simp only [Option.isSome]
      have hT' := HT.out.sub hp.2 (.inr (by omega))
      obtain ⟨⟨hd0, he0⟩, ⟨hd1, he1⟩, hd2, he2⟩ := hT'.zeros 0 0 0 rfl rfl rfl
      have HP : Hid (TPost w b o (.text m lo' hi') (w'.alloc (.cells #[.int .u8 x.toNat] 5))) := Lib.hid
        ⟨(hp.2.widen (Nat.le_refl _) (by omega)).alloc _ HL.out, fun _ => ⟨HM.out, hp.1.alloc _, hT'.alloc (by simp) _⟩⟩
      have hcw := hcv w'
      clear hp hT' hcv
      go_wp2
      go_ret2
      exact ⟨rfl, HP.out⟩
theorem short_lt {x y : Nat} (h : shortOf x = some y) : x < 128 ∧ 32 ≤ x := by
  unfold shortOf at h
  repeat' split at h
  all_goals first | omega | (cases h)
theorem step0 (x : UInt8) : stepS st0 x = openS x.toNat := rfl
theorem open_low {n : Nat} (h : n < 128) : openS n = some (0, 0, 0) := by unfold openS; rw [if_pos h]
set_option maxRecDepth 100000 in
set_option maxHeartbeats 1600000 in
theorem take_back (w : World) (b o : Nat) (hC : CAt w b (o + 1) st0) (hT : At w b (o + 5) (tail3 1 0 0)) (x : UInt8) :
    Calls Try.prog 76 #[.pointer (some ⟨b, o, none⟩), .int .u8 x.toNat] w fun e w' =>
      e = .returned (.tuple #[.string ⟨(stepI .back x).2.toArray⟩, .int .i64 (errI (stepI .back x).1)]) ∧ TPost w b o (stepI .back x).1 w' := by
  obtain ⟨⟨hc0, hf0⟩, ⟨hc1, hf1⟩, hc2, hf2⟩ := hT.zeros 1 0 0 rfl rfl rfl
  by_cases h32 : x.toNat < 32
  · have hs : stepI .back x = (.bad false, []) := by
      have h1 : shortOf x.toNat = none := by
        cases h : shortOf x.toNat with
        | none => rfl
        | some y => have := short_lt h; omega
      simp only [stepI, h1]
      rw [if_neg (by omega), open_low (by omega)]
      rfl
    rw [hs]
    have HP : Hid (TPost w b o (.bad false) w) := Lib.hid tpost_ref
    simp only [errI]
    have g : (((x.toNat : Nat) : Int) < 32) = True := by simp only [eq_iff_iff, iff_true]; omega
    clear hs hC hT h32
    go_enter Try.func76, Try.ntmps76
    go_wp2
    go_ret2
    exact ⟨rfl, HP.out⟩
  have g : (((x.toNat : Nat) : Int) < 32) = False := by simp only [eq_iff_iff, iff_false]; omega
  have hS := step_at hC x
  rw [step0] at hS
  have HT := Lib.hid hT
  cases hp : openS x.toNat with
  | none =>
    have hx : ¬ x.toNat < 128 := fun h => by rw [open_low h] at hp; cases hp
    have hs : stepI .back x = (.bad true, []) := by
      have h1 : shortOf x.toNat = none := by
        cases h : shortOf x.toNat with
        | none => rfl
        | some y => have := short_lt h; omega
      simp only [stepI, h1, hp]
      rw [if_neg (by omega)]
      rfl
    rw [hs]
    rw [hp] at hS
    have HS := Lib.hid hS
    have g2 : (((x.toNat : Nat) : Int) == 34) = false := u8z x 34 (by omega)
    simp only [errI]
    clear hS hs hp hC hT h32 hx
    go_enter Try.func76, Try.ntmps76
    go_wp2_with fail
    refine HS.out.mono ?_
    rintro e w' ⟨rfl, hp⟩
    have HP : Hid (TPost w b o (.bad true) w') := Lib.hid (tpost_bad hp.2 (by omega))
    simp only [Option.isSome]
    clear hp
    go_wp2
    go_ret2
    exact ⟨rfl, HP.out⟩
  | some p =>
    rw [hp] at hS
    have HS := Lib.hid hS
    by_cases hu : x.toNat = 117
    · have hs : stepI .back x = (.hex 0 0, []) := by
        simp only [stepI, hu]
        rw [show shortOf 117 = none by decide]
        rfl
      rw [open_low (by omega)] at hp
      cases hp
      rw [hs]
      have g3 : ((x.toNat : Nat) : Int) = 117 := by omega
      simp only [errI]
      rw [g3] at HS g ⊢
      clear hS hs hC hT hu h32 g3
      go_enter Try.func76, Try.ntmps76
      go_wp2_with fail
      refine HS.out.mono ?_
      rintro e w' ⟨rfl, hp⟩
      simp only [Option.isSome]
      have hT' := HT.out.sub hp.2 (.inr (by omega))
      obtain ⟨⟨hd0, he0⟩, ⟨hd1, he1⟩, hd2, he2⟩ := hT'.zeros 1 0 0 rfl rfl rfl
      have HO := Lib.hid (open_u w' b o 1 0 0 hT')
      have HP := Lib.hid hp
      clear hp hT'
      go_wp2_with fail
      refine HO.out.mono ?_
      rintro e w2 ⟨rfl, a2, s2⟩
      go_wp2
      go_ret2
      exact ⟨rfl, (HP.out.2.widen (Nat.le_refl _) (by omega)).trans (s2.widen (by omega) (by omega)), fun _ => ⟨⟨by omega, by decide⟩, HP.out.1.sub s2 (.inl (by omega)), a2⟩⟩
    · cases hm : shortOf x.toNat with
      | some y =>
        have hs : stepI .back x = (insT, [UInt8.ofNat y]) := by simp only [stepI, hm]
        rw [open_low (short_lt hm).1] at hp
        cases hp
        rw [hs]
        have hO := fun w' => open_short w' b o 1 0 0 x.toNat y hm
        have HO := Lib.hid hO
        obtain ⟨z, hz⟩ : ∃ z : ByteArray, z = ⟨#[UInt8.ofNat y]⟩ := ⟨_, rfl⟩
        simp only [errI, insT]
        rw [show (⟨[UInt8.ofNat y].toArray⟩ : ByteArray) = z from hz.symm]
        rw [← hz] at HO
        by_cases h34 : x.toNat = 34
        · have g3 : ((x.toNat : Nat) : Int) = 34 := by omega
          rw [g3] at HS g HO ⊢
          clear hS hs hC hT hu h32 hO hz hm h34 g3
          go_enter Try.func76, Try.ntmps76
          go_wp2_with fail
          refine HS.out.mono ?_
          rintro e w' ⟨rfl, hp⟩
          simp only [Option.isSome]
          have hT' := HT.out.sub hp.2 (.inr (by omega))
          obtain ⟨⟨hd0, he0⟩, ⟨hd1, he1⟩, hd2, he2⟩ := hT'.zeros 1 0 0 rfl rfl rfl
          have HO' := Lib.hid (HO.out w' hT')
          have HP := Lib.hid hp
          clear hp hT'
          go_wp2_with fail
          refine HO'.out.mono ?_
          rintro e w2 ⟨rfl, a2, s2⟩
          go_wp2
          go_ret2
          exact ⟨rfl, (HP.out.2.widen (Nat.le_refl _) (by omega)).trans (s2.widen (by omega) (by omega)), fun _ => ⟨⟨by omega, rfl, rfl⟩, HP.out.1.sub s2 (.inl (by omega)), a2⟩⟩
        · have g2 : (((x.toNat : Nat) : Int) == 34) = false := u8z x 34 h34
          clear hS hs hC hT hu h32 hO hz hm h34
          go_enter Try.func76, Try.ntmps76
          go_wp2_with fail
          refine HS.out.mono ?_
          rintro e w' ⟨rfl, hp⟩
          simp only [Option.isSome]
          have hT' := HT.out.sub hp.2 (.inr (by omega))
          obtain ⟨⟨hd0, he0⟩, ⟨hd1, he1⟩, hd2, he2⟩ := hT'.zeros 1 0 0 rfl rfl rfl
          have HO' := Lib.hid (HO.out w' hT')
          have HP := Lib.hid hp
          clear hp hT'
          go_wp2_with fail
          refine HO'.out.mono ?_
          rintro e w2 ⟨rfl, a2, s2⟩
          go_wp2
          go_ret2
          exact ⟨rfl, (HP.out.2.widen (Nat.le_refl _) (by omega)).trans (s2.widen (by omega) (by omega)), fun _ => ⟨⟨by omega, rfl, rfl⟩, HP.out.1.sub s2 (.inl (by omega)), a2⟩⟩
      | none =>
        have h34 : x.toNat ≠ 34 := fun e => by rw [e, show shortOf 34 = some 34 by decide] at hm; cases hm
        have hs : stepI .back x = (.bad false, []) := by
          simp only [stepI, hm, hp]
          rw [if_neg hu]
          rfl
        rw [hs]
        have HO := Lib.hid (fun w' => open_no w' b o x.toNat hm hu)
        have g2 : (((x.toNat : Nat) : Int) == 34) = false := u8z x 34 h34
        simp only [errI]
        clear hS hs hC hT hu h32 hm h34 hp
        go_enter Try.func76, Try.ntmps76
        go_wp2_with fail
        refine HS.out.mono ?_
        rintro e w' ⟨rfl, hp⟩
        simp only [Option.isSome]
        have hT' := HT.out.sub hp.2 (.inr (by omega))
        obtain ⟨⟨hd0, he0⟩, ⟨hd1, he1⟩, hd2, he2⟩ := hT'.zeros 1 0 0 rfl rfl rfl
        have HP : Hid (TPost w b o (.bad false) w') := Lib.hid (tpost_bad hp.2 (by omega))
        clear hp hT'
        go_wp2_with fail
        refine (HO.out _).mono ?_
        rintro e w2 ⟨rfl, rfl⟩
        go_wp2
        go_ret2
        exact ⟨rfl, HP.out⟩
end Go.Proofs.Ytacngbngljfedaa
/-
  CONTRACTS of escape.Reader, part D: take within an escape's digits, and behind a high surrogate.
-/
namespace Go.Proofs.Ytacngbngljfedaa
open Go.RowKit
open Go.Lib
theorem hex_none {x : UInt8} (h : x.toNat < 48) : hexV x.toNat = none := by
  cases hh : hexV x.toNat with
  | none => rfl
  | some d => have := (hexV_lt hh).2.2; omega
theorem hex_none_hi {x : UInt8} (h : openS x.toNat = none) : hexV x.toNat = none := by
  cases hh : hexV x.toNat with
  | none => rfl
  | some d =>
    rw [open_low (hexV_lt hh).2.1] at h
    cases h
theorem step_hex_none {k v : Nat} {x : UInt8} (h : hexV x.toNat = none) : stepI (.hex k v) x = (.bad (openS x.toNat).isNone, []) := by
  simp only [stepI, h]
theorem step_hex_mid {k v d : Nat} {x : UInt8} (h : hexV x.toNat = some d) (hk : k < 3) : stepI (.hex k v) x = (.hex (k + 1) (v * 16 + d), []) := by
  simp only [stepI, h]
  rw [if_pos hk]
theorem pow_lt {k v d : Nat} (hv : v < 16 ^ k) (hd : d < 16) : v * 16 + d < 16 ^ (k + 1) := by
  rw [Nat.pow_succ]
  omega
/-- The state behind the last digit. -/
def endI (c : Nat) : Ins × List UInt8 := if 56320 ≤ c ∧ c ≤ 57343 then (.bad true, []) else if 55296 ≤ c ∧ c ≤ 56319 then (.high c 0 0, []) else (insT, encL c)
theorem step_hex_end {v d : Nat} {x : UInt8} (h : hexV x.toNat = some d) : stepI (.hex 3 v) x = endI (v * 16 + d) := by
  simp only [stepI, h]
  rw [if_neg (by omega)]
  rfl
set_option maxRecDepth 100000 in
set_option maxHeartbeats 1600000 in
/-- Of a byte that is told ahead of utf.Check: below 32, or a quote. -/
theorem take_early (w : World) (b o n : Nat) (c h : Nat) (hn : 2 ≤ n) (hh : h = 0) (hT : At w b (o + 5) (tail3 n c h)) (x : UInt8) (hx : x.toNat < 32 ∨ x.toNat = 34) :
    Calls Try.prog 76 #[.pointer (some ⟨b, o, none⟩), .int .u8 x.toNat] w fun e w' => e = .returned (.tuple #[.string ⟨#[]⟩, .int .i64 2]) ∧ w = w' := by
  obtain ⟨⟨hc0, hf0⟩, ⟨hc1, hf1⟩, hc2, hf2⟩ := hT.zeros n c 0 rfl rfl (by rw [hh]; rfl)
  have n1 : ((n : Int) == 1) = false := by rw [beq_eq_false_iff_ne]; omega
  clear hT hh hn
  by_cases h32 : x.toNat < 32
  · have g : (((x.toNat : Nat) : Int) < 32) = True := by simp only [eq_iff_iff, iff_true]; omega
    clear hx h32
    go_enter Try.func76, Try.ntmps76
    go_wp2
    go_ret2
    exact ⟨rfl, rfl⟩
  · have g : (((x.toNat : Nat) : Int) < 32) = False := by simp only [eq_iff_iff, iff_false]; omega
    have g2 : (((x.toNat : Nat) : Int) == 34) = true := by rw [beq_iff_eq]; omega
    clear hx h32
    go_enter Try.func76, Try.ntmps76
    go_wp2
    go_ret2
    exact ⟨rfl, rfl⟩
set_option maxRecDepth 100000 in
set_option maxHeartbeats 1600000 in
/-- Of a byte that utf.Check refuses. -/
theorem take_utf (w : World) (b o n c : Nat) (hn : 2 ≤ n) (hC : CAt w b (o + 1) st0) (hT : At w b (o + 5) (tail3 n c 0)) (x : UInt8) (hx : openS x.toNat = none) :
    Calls Try.prog 76 #[.pointer (some ⟨b, o, none⟩), .int .u8 x.toNat] w fun e w' => e = .returned (.tuple #[.string ⟨#[]⟩, .int .i64 9]) ∧ Sub b (o + 1) 4 w w' := by
  obtain ⟨⟨hc0, hf0⟩, ⟨hc1, hf1⟩, hc2, hf2⟩ := hT.zeros n c 0 rfl rfl rfl
  have n1 : ((n : Int) == 1) = false := by rw [beq_eq_false_iff_ne]; omega
  have hlt : ¬ x.toNat < 128 := fun h => by rw [open_low h] at hx; cases hx
  have g : (((x.toNat : Nat) : Int) < 32) = False := by simp only [eq_iff_iff, iff_false]; omega
  have g2 : (((x.toNat : Nat) : Int) == 34) = false := u8z x 34 (by omega)
  have hS := step_at hC x
  rw [step0, hx] at hS
  have HS := Lib.hid hS
  clear hT hn hS hC hx hlt
  go_enter Try.func76, Try.ntmps76
  go_wp2_with fail
  refine HS.out.mono ?_
  rintro e w' ⟨rfl, hp⟩
  have HP := Lib.hid hp.2
  simp only [Option.isSome]
  clear hp
  go_wp2
  go_ret2
  exact ⟨rfl, HP.out⟩
set_option maxRecDepth 100000 in
set_option maxHeartbeats 1600000 in
/-- Of a byte that digit takes: what digit tells. -/
theorem take_digit (w : World) (b o n c : Nat) (hn : 2 ≤ n) (hC : CAt w b (o + 1) st0) (hT : At w b (o + 5) (tail3 n c 0)) (x : UInt8) (p : Nat × Nat × Nat) (hx : openS x.toNat = some p) (h1 : 32 ≤ x.toNat) (h2 : x.toNat ≠ 34)
    (R : Value × Value) (Q : World → World → Prop)
    (hD : ∀ w1 : World, At w1 b (o + 5) (tail3 n c 0) → Calls Try.prog 83 #[.pointer (some ⟨b, o, none⟩), .int .u8 x.toNat] w1 fun e w' => e = .returned (.tuple #[R.1, R.2]) ∧ Q w1 w') :
    Calls Try.prog 76 #[.pointer (some ⟨b, o, none⟩), .int .u8 x.toNat] w fun e w' => e = .returned (.tuple #[R.1, R.2]) ∧ ∃ w1, CPost w b (o + 1) (openS x.toNat) w1 ∧ Q w1 w' := by
  obtain ⟨⟨hc0, hf0⟩, ⟨hc1, hf1⟩, hc2, hf2⟩ := hT.zeros n c 0 rfl rfl rfl
  obtain ⟨R1, R2⟩ := R
  simp only [] at hD ⊢
  have n1 : ((n : Int) == 1) = false := by rw [beq_eq_false_iff_ne]; omega
  have n0 : ((n : Int) == 0) = false := by rw [beq_eq_false_iff_ne]; omega
  have g : (((x.toNat : Nat) : Int) < 32) = False := by simp only [eq_iff_iff, iff_false]; omega
  have g2 : (((x.toNat : Nat) : Int) == 34) = false := u8z x 34 (by omega)
  have hS := step_at hC x
  rw [step0] at hS
  have hq : (openS x.toNat).isSome = true := by rw [hx]; rfl
  rw [hq] at hS
  have HS := Lib.hid hS
  have HT := Lib.hid hT
  have HD := Lib.hid hD
  obtain ⟨S, hSS⟩ : ∃ S, openS x.toNat = S := ⟨_, rfl⟩
  rw [hSS] at HS ⊢
  clear hT hn hS hC hx h1 h2 hD hq hSS
  go_enter Try.func76, Try.ntmps76
  go_wp2_with fail
  refine HS.out.mono ?_
  rintro e w1 ⟨rfl, hp⟩
  have hT' := HT.out.sub hp.2 (.inr (by omega))
  obtain ⟨⟨hd0, he0⟩, ⟨hd1, he1⟩, hd2, he2⟩ := hT'.zeros n c 0 rfl rfl rfl
  have HO := Lib.hid (HD.out w1 hT')
  have HP := Lib.hid hp
  clear hp hT'
  go_wp2_with fail
  refine HO.out.mono ?_
  rintro e w2 ⟨rfl, hq⟩
  have HQ := Lib.hid hq
  clear hq
  go_wp2
  go_ret2
  exact ⟨rfl, w1, HP.out, HQ.out⟩
theorem rune_of {c : Nat} (h : c < 65536) (h1 : ¬ (56320 ≤ c ∧ c ≤ 57343)) (h2 : ¬ (55296 ≤ c ∧ c ≤ 56319)) : IsRune c := by
  unfold IsRune
  omega
theorem take_hex (w : World) (b o k v : Nat) (hW : WfI (.hex k v)) (hC : CAt w b (o + 1) st0) (hT : At w b (o + 5) (tail3 (k + 2) v 0)) (x : UInt8) :
    Calls Try.prog 76 #[.pointer (some ⟨b, o, none⟩), .int .u8 x.toNat] w fun e w' =>
      e = .returned (.tuple #[.string ⟨(stepI (.hex k v) x).2.toArray⟩, .int .i64 (errI (stepI (.hex k v) x).1)]) ∧ TPost w b o (stepI (.hex k v) x).1 w' := by
  by_cases h1 : x.toNat < 32 ∨ x.toNat = 34
  · rw [step_hex_none (hex_none (by omega)), open_low (by omega)]
    refine (take_early w b o (k + 2) v 0 (by omega) rfl hT x h1).mono ?_
    rintro e w' ⟨rfl, rfl⟩
    exact ⟨rfl, tpost_ref⟩
  cases hp : openS x.toNat with
  | none =>
    rw [step_hex_none (hex_none_hi hp), hp]
    refine (take_utf w b o (k + 2) v (by omega) hC hT x hp).mono ?_
    rintro e w' ⟨rfl, hs⟩
    exact ⟨rfl, tpost_bad hs (by omega)⟩
  | some p =>
    have hv4 : v < 4096 := Nat.lt_of_lt_of_le hW.2 (Nat.le_trans (Nat.pow_le_pow_right (by omega) hW.1) (by decide))
    cases hh : hexV x.toNat with
    | none =>
      rw [step_hex_none hh, hp]
      refine (take_digit w b o (k + 2) v (by omega) hC hT x p hp (by omega) (by omega) (.string ⟨#[]⟩, .int .i64 2) (fun a c => a = c) (fun w1 _ => digit_no w1 b o x.toNat hh)).mono ?_
      rintro e w' ⟨rfl, w1, hc, rfl⟩
      exact ⟨rfl, tpost_bad hc.2 (by omega)⟩
    | some d =>
      obtain ⟨hd, hx128, _⟩ := hexV_lt hh
      have ho := open_low hx128
      by_cases hk : k < 3
      · rw [step_hex_mid hh hk]
        refine (take_digit w b o (k + 2) v (by omega) hC hT x p hp (by omega) (by omega) (.string ⟨#[]⟩, .int .i64 0) (fun w1 w' => At w' b (o + 5) (tail3 (k + 2 + 1) (v * 16 + d) 0) ∧ Sub b (o + 5) 3 w1 w')
          (fun w1 ht => digit_mid w1 b o (k + 2) v 0 x.toNat d hh (by omega) (by omega) ht)).mono ?_
        rintro e w' ⟨rfl, w1, hc, ha, hs⟩
        rw [ho] at hc
        exact ⟨rfl, (hc.2.widen (Nat.le_refl _) (by omega)).trans (hs.widen (by omega) (by omega)), fun _ => ⟨⟨by omega, pow_lt hW.2 hd⟩, hc.1.sub hs (.inl (by omega)), ha⟩⟩
      · have hk3 : k = 3 := by have := hW.1; omega
        subst hk3
        rw [step_hex_end hh]
        have go : ∀ (R : Value × Value) (c : Nat), (∀ w1 : World, At w1 b (o + 5) (tail3 6 (v * 16 + d) 0) → Calls Try.prog 90 #[.pointer (some ⟨b, o, none⟩)] w1 fun e w' => e = .returned (.tuple #[R.1, R.2]) ∧ EndPost w1 b o c w') →
            Calls Try.prog 76 #[.pointer (some ⟨b, o, none⟩), .int .u8 x.toNat] w fun e w' => e = .returned (.tuple #[R.1, R.2]) ∧ CAt w' b (o + 1) st0 ∧ At w' b (o + 5) (tail3 0 0 c) ∧ Sub b (o + 1) 7 w w' := by
          intro R c hE
          refine (take_digit w b o (3 + 2) v (by omega) hC hT x p hp (by omega) (by omega) R (fun w1 w' => EndPost w1 b o c w') (fun w1 ht => digit_end w1 b o v 0 x.toNat d c R hh (by omega) ht hE)).mono ?_
          rintro e w' ⟨rfl, w1, hc, ha, hs⟩
          rw [ho] at hc
          exact ⟨rfl, hc.1.sub hs (.inl (by omega)), ha, (hc.2.widen (Nat.le_refl _) (by omega)).trans (hs.widen (by omega) (by omega))⟩
        have hcl : v * 16 + d < 65536 := by omega
        generalize v * 16 + d = c at *
        unfold endI
        by_cases q1 : 56320 ≤ c ∧ c ≤ 57343
        · rw [if_pos q1]
          refine (go (.string ⟨#[]⟩, .int .i64 9) 0 (fun w1 ht => end_low w1 b o 6 c q1 ht)).mono ?_
          rintro e w' ⟨rfl, _, _, hs⟩
          exact ⟨rfl, tpost_bad hs (by omega)⟩
        · rw [if_neg q1]
          by_cases q2 : 55296 ≤ c ∧ c ≤ 56319
          · rw [if_pos q2]
            refine (go (.string ⟨#[]⟩, .int .i64 0) c (fun w1 ht => end_sur w1 b o 6 c (by omega) ht)).mono ?_
            rintro e w' ⟨rfl, hc, ha, hs⟩
            exact ⟨rfl, hs, fun _ => ⟨⟨q2.1, q2.2, .inl ⟨by omega, rfl⟩⟩, hc, ha⟩⟩
          · rw [if_neg q2]
            have hE := fun (w1 : World) ht => end_rune w1 b o 6 c (rune_of hcl q1 q2) ht
            generalize encL c = l at hE ⊢
            refine (go (.string ⟨l.toArray⟩, .int .i64 0) 0 hE).mono ?_
            rintro e w' ⟨rfl, hc, ha, hs⟩
            exact ⟨rfl, hs, fun _ => ⟨⟨by omega, rfl, rfl⟩, hc, ha⟩⟩
theorem lowOk_byte {k x : Nat} (h : lowOk k x = true) : x < 128 ∧ 48 ≤ x ∧ (k = 0 → x = 92) ∧ (k = 1 → x = 117) ∧ (2 ≤ k → ∃ d, hexV x = some d) := by
  match k, h with
  | 0, h =>
    have : x = 92 := by simpa [lowOk] using h
    exact ⟨by omega, by omega, fun _ => this, fun h => by omega, fun h => by omega⟩
  | 1, h =>
    have : x = 117 := by simpa [lowOk] using h
    exact ⟨by omega, by omega, fun h => by omega, fun _ => this, fun h => by omega⟩
  | 2, h =>
    have : x = 100 ∨ x = 68 := by simpa [lowOk] using h
    refine ⟨by omega, by omega, fun h => by omega, fun h => by omega, fun _ => ⟨13, ?_⟩⟩
    rcases this with rfl | rfl <;> decide
  | 3, h =>
    cases hh : hexV x with
    | none => simp [lowOk, hh] at h
    | some d =>
      have := hexV_lt hh
      exact ⟨by omega, by omega, fun h => by omega, fun h => by omega, fun _ => ⟨d, rfl⟩⟩
  | k + 4, h =>
    cases hh : hexV x with
    | none => simp [lowOk, hh] at h
    | some d =>
      have := hexV_lt hh
      exact ⟨by omega, by omega, fun h => by omega, fun h => by omega, fun _ => ⟨d, rfl⟩⟩
theorem low_two {x d : Nat} (h : lowOk 2 x = true) (hd : hexV x = some d) : d = 13 := by
  have : x = 100 ∨ x = 68 := by simpa [lowOk] using h
  rcases this with rfl | rfl
  · have : hexV 100 = some 13 := by decide
    rw [this] at hd
    injection hd with hd
    exact hd.symm
  · have : hexV 68 = some 13 := by decide
    rw [this] at hd
    injection hd with hd
    exact hd.symm
theorem low_three {x d : Nat} (h : lowOk 3 x = true) (hd : hexV x = some d) : 12 ≤ d := by
  rw [lowOk3 hd] at h
  exact of_decide_eq_true h
set_option maxRecDepth 100000 in
set_option maxHeartbeats 1600000 in
/-- Behind a high surrogate: a byte that may not stand there. -/
theorem take_alone (w : World) (b o h k c : Nat) (hh : 55296 ≤ h) (hT : At w b (o + 5) (tail3 k c h)) (x : UInt8) (hx : lowOk k x.toNat = false) :
    Calls Try.prog 76 #[.pointer (some ⟨b, o, none⟩), .int .u8 x.toNat] w fun e w' => e = .returned (.tuple #[.string ⟨#[]⟩, .int .i64 9]) ∧ w = w' := by
  obtain ⟨⟨hc0, hf0⟩, ⟨hc1, hf1⟩, hc2, hf2⟩ := hT.zeros k c h rfl rfl rfl
  have z : ((h : Int) == 0) = false := by rw [beq_eq_false_iff_ne]; omega
  have z2 : ((h : Int) = 0) = False := by simp only [eq_iff_iff, iff_false]; omega
  have hM := mayPair_any k x.toNat
  rw [hx] at hM
  have HM := Lib.hid hM
  clear hT hM hx
  go_enter Try.func76, Try.ntmps76
  go_wp2_with fail
  refine (HM.out _).mono ?_
  rintro e w' ⟨rfl, rfl⟩
  go_wp2
  go_ret2
  exact ⟨rfl, rfl⟩
set_option maxRecDepth 100000 in
set_option maxHeartbeats 1600000 in
/-- Behind a high surrogate: the backslash. -/
theorem take_high0 (w : World) (b o h : Nat) (hh : 55296 ≤ h) (hC : CAt w b (o + 1) st0) (hT : At w b (o + 5) (tail3 0 0 h)) :
    Calls Try.prog 76 #[.pointer (some ⟨b, o, none⟩), .int .u8 92] w fun e w' => e = .returned (.tuple #[.string ⟨#[]⟩, .int .i64 0]) ∧ CAt w' b (o + 1) st0 ∧ At w' b (o + 5) (tail3 1 0 h) ∧ Sub b (o + 1) 7 w w' := by
  obtain ⟨⟨hc0, hf0⟩, ⟨hc1, hf1⟩, hc2, hf2⟩ := hT.zeros 0 0 h rfl rfl rfl
  have z : ((h : Int) == 0) = false := by rw [beq_eq_false_iff_ne]; omega
  have z2 : ((h : Int) = 0) = False := by simp only [eq_iff_iff, iff_false]; omega
  have hM := mayPair_any 0 92
  have HM : Hid (∀ w, Calls Try.prog 80 #[.int .i64 0, .int .u8 92] w fun e w' => e = .returned (.bool true) ∧ w = w') := Lib.hid hM
  have hS : Calls Try.prog 81 #[.pointer (some ⟨b, o + 1, none⟩), .int .u8 92] w fun e w' => e = .returned (.bool true) ∧ CPost w b (o + 1) st0 w' := step_at hC 92
  have HS := Lib.hid hS
  have HT := Lib.hid hT
  clear hT hM hC hS
  go_enter Try.func76, Try.ntmps76
  go_wp2_with fail
  refine (HM.out _).mono ?_
  rintro e w' ⟨rfl, rfl⟩
  go_wp2_with fail
  refine HS.out.mono ?_
  rintro e w' ⟨rfl, hp⟩
  have hT' := HT.out.sub hp.2 (.inr (by omega))
  obtain ⟨⟨hd0, he0⟩, ⟨hd1, he1⟩, hd2, he2⟩ := hT'.zeros 0 0 h rfl rfl rfl
  have HP := Lib.hid (And.intro hp (one_set hT' 1))
  clear hp hT'
  go_wp2
  go_ret2
  obtain ⟨hp, ha, hs⟩ := HP.out
  exact ⟨rfl, hp.1.sub hs (.inl (by omega)), ha, (hp.2.widen (Nat.le_refl _) (by omega)).trans (hs.widen (by omega) (by omega))⟩
set_option maxRecDepth 100000 in
set_option maxHeartbeats 1600000 in
/-- Behind a high surrogate and a backslash: the u. -/
theorem take_high1 (w : World) (b o h : Nat) (hh : 55296 ≤ h) (hC : CAt w b (o + 1) st0) (hT : At w b (o + 5) (tail3 1 0 h)) :
    Calls Try.prog 76 #[.pointer (some ⟨b, o, none⟩), .int .u8 117] w fun e w' => e = .returned (.tuple #[.string ⟨#[]⟩, .int .i64 0]) ∧ CAt w' b (o + 1) st0 ∧ At w' b (o + 5) (tail3 2 0 h) ∧ Sub b (o + 1) 7 w w' := by
  obtain ⟨⟨hc0, hf0⟩, ⟨hc1, hf1⟩, hc2, hf2⟩ := hT.zeros 1 0 h rfl rfl rfl
  have z : ((h : Int) == 0) = false := by rw [beq_eq_false_iff_ne]; omega
  have z2 : ((h : Int) = 0) = False := by simp only [eq_iff_iff, iff_false]; omega
  have hM := mayPair_any 1 117
  have HM : Hid (∀ w, Calls Try.prog 80 #[.int .i64 1, .int .u8 117] w fun e w' => e = .returned (.bool true) ∧ w = w') := Lib.hid hM
  have hS : Calls Try.prog 81 #[.pointer (some ⟨b, o + 1, none⟩), .int .u8 117] w fun e w' => e = .returned (.bool true) ∧ CPost w b (o + 1) st0 w' := step_at hC 117
  have HS := Lib.hid hS
  have HT := Lib.hid hT
  clear hT hM hC hS
  go_enter Try.func76, Try.ntmps76
  go_wp2_with fail
  refine (HM.out _).mono ?_
  rintro e w' ⟨rfl, rfl⟩
  go_wp2_with fail
  refine HS.out.mono ?_
  rintro e w' ⟨rfl, hp⟩
  have hT' := HT.out.sub hp.2 (.inr (by omega))
  obtain ⟨⟨hd0, he0⟩, ⟨hd1, he1⟩, hd2, he2⟩ := hT'.zeros 1 0 h rfl rfl rfl
  have HP := Lib.hid hp
  have HO := Lib.hid (open_u w' b o 1 0 h hT')
  clear hp hT'
  go_wp2_with fail
  refine HO.out.mono ?_
  rintro e w2 ⟨rfl, ha, hs⟩
  have HA := Lib.hid (And.intro ha hs)
  clear ha hs
  go_wp2
  go_ret2
  obtain ⟨ha, hs⟩ := HA.out
  have hp := HP.out
  exact ⟨rfl, hp.1.sub hs (.inl (by omega)), ha, (hp.2.widen (Nat.le_refl _) (by omega)).trans (hs.widen (by omega) (by omega))⟩
set_option maxRecDepth 100000 in
set_option maxHeartbeats 1600000 in
/-- Behind a high surrogate, a backslash and a u: a digit. -/
theorem take_low (w : World) (b o n c h : Nat) (hn : 2 ≤ n) (hh : 55296 ≤ h) (hC : CAt w b (o + 1) st0) (hT : At w b (o + 5) (tail3 n c h)) (x : UInt8) (hx : lowOk n x.toNat = true)
    (R : Value × Value) (Q : World → World → Prop)
    (hD : ∀ w1 : World, At w1 b (o + 5) (tail3 n c h) → Calls Try.prog 83 #[.pointer (some ⟨b, o, none⟩), .int .u8 x.toNat] w1 fun e w' => e = .returned (.tuple #[R.1, R.2]) ∧ Q w1 w') :
    Calls Try.prog 76 #[.pointer (some ⟨b, o, none⟩), .int .u8 x.toNat] w fun e w' => e = .returned (.tuple #[R.1, R.2]) ∧ ∃ w1, CPost w b (o + 1) st0 w1 ∧ Q w1 w' := by
  obtain ⟨⟨hc0, hf0⟩, ⟨hc1, hf1⟩, hc2, hf2⟩ := hT.zeros n c h rfl rfl rfl
  obtain ⟨R1, R2⟩ := R
  simp only [] at hD ⊢
  obtain ⟨hx1, hx2, _, _, _⟩ := lowOk_byte hx
  have z : ((h : Int) == 0) = false := by rw [beq_eq_false_iff_ne]; omega
  have z2 : ((h : Int) = 0) = False := by simp only [eq_iff_iff, iff_false]; omega
  have n1 : ((n : Int) == 1) = false := by rw [beq_eq_false_iff_ne]; omega
  have n0 : ((n : Int) == 0) = false := by rw [beq_eq_false_iff_ne]; omega
  have g : (((x.toNat : Nat) : Int) < 32) = False := by simp only [eq_iff_iff, iff_false]; omega
  have g2 : (((x.toNat : Nat) : Int) == 34) = false := u8z x 34 (by omega)
  have hM := mayPair_any n x.toNat
  rw [hx] at hM
  have HM := Lib.hid hM
  have hS := step_at hC x
  rw [step0, open_low hx1] at hS
  have HS := Lib.hid hS
  have HT := Lib.hid hT
  have HD := Lib.hid hD
  clear hT hn hS hC hx hD hM hx1 hx2
  go_enter Try.func76, Try.ntmps76
  go_wp2_with fail
  refine (HM.out _).mono ?_
  rintro e w' ⟨rfl, rfl⟩
  go_wp2_with fail
  refine HS.out.mono ?_
  rintro e w1 ⟨rfl, hp⟩
  have hT' := HT.out.sub hp.2 (.inr (by omega))
  obtain ⟨⟨hd0, he0⟩, ⟨hd1, he1⟩, hd2, he2⟩ := hT'.zeros n c h rfl rfl rfl
  have HO := Lib.hid (HD.out w1 hT')
  have HP := Lib.hid hp
  simp only [Option.isSome]
  clear hp hT'
  go_wp2_with fail
  refine HO.out.mono ?_
  rintro e w2 ⟨rfl, hq⟩
  have HQ := Lib.hid hq
  clear hq
  go_wp2
  go_ret2
  exact ⟨rfl, w1, HP.out, HQ.out⟩
theorem step_high_no {h k c : Nat} {x : UInt8} (hl : lowOk k x.toNat = false) : stepI (.high h k c) x = (.bad true, []) := by
  simp only [stepI]
  rw [if_neg (by rw [hl]; decide)]
theorem step_high0 (h : Nat) : stepI (.high h 0 0) 92 = (.high h 1 0, []) := step_lt (by decide) (by decide) (by decide)
theorem step_high1 (h : Nat) : stepI (.high h 1 0) 117 = (.high h 2 0, []) := step_lt (by decide) (by decide) (by decide)
theorem take_high (w : World) (b o h k c : Nat) (hW : WfI (.high h k c)) (hC : CAt w b (o + 1) st0) (hT : At w b (o + 5) (tail3 k c h)) (x : UInt8) :
    Calls Try.prog 76 #[.pointer (some ⟨b, o, none⟩), .int .u8 x.toNat] w fun e w' =>
      e = .returned (.tuple #[.string ⟨(stepI (.high h k c) x).2.toArray⟩, .int .i64 (errI (stepI (.high h k c) x).1)]) ∧ TPost w b o (stepI (.high h k c) x).1 w' := by
  obtain ⟨hh1, hh2, hkc⟩ := hW
  by_cases hl : lowOk k x.toNat = false
  · rw [step_high_no hl]
    refine (take_alone w b o h k c hh1 hT x hl).mono ?_
    rintro e w' ⟨rfl, rfl⟩
    exact ⟨rfl, tpost_ref⟩
  have hl' : lowOk k x.toNat = true := by simpa using hl
  obtain ⟨hx1, hx2, e0, e1, e2⟩ := lowOk_byte hl'
  by_cases k0 : k = 0
  · subst k0
    obtain ⟨_, rfl⟩ : 0 ≤ 2 ∧ c = 0 := by omega
    have hx : x = 92 := UInt8.toNat_inj.1 (by rw [e0 rfl]; rfl)
    subst hx
    rw [step_high0]
    refine (take_high0 w b o h hh1 hC hT).mono ?_
    rintro e w' ⟨rfl, hc, ha, hs⟩
    exact ⟨rfl, hs, fun _ => ⟨⟨hh1, hh2, .inl ⟨by omega, rfl⟩⟩, hc, ha⟩⟩
  by_cases k1 : k = 1
  · subst k1
    obtain ⟨_, rfl⟩ : 1 ≤ 2 ∧ c = 0 := by omega
    have hx : x = 117 := UInt8.toNat_inj.1 (by rw [e1 rfl]; rfl)
    subst hx
    rw [step_high1]
    refine (take_high1 w b o h hh1 hC hT).mono ?_
    rintro e w' ⟨rfl, hc, ha, hs⟩
    exact ⟨rfl, hs, fun _ => ⟨⟨hh1, hh2, .inl ⟨by omega, rfl⟩⟩, hc, ha⟩⟩
  obtain ⟨d, hd⟩ := e2 (by omega)
  have hdl := (hexV_lt hd).1
  by_cases k5 : k < 5
  · rw [step_lt hl' k5 (lowW_d (by omega) hd)]
    refine (take_low w b o k c h (by omega) hh1 hC hT x hl' (.string ⟨#[]⟩, .int .i64 0) (fun w1 w' => At w' b (o + 5) (tail3 (k + 1) (c * 16 + d) h) ∧ Sub b (o + 5) 3 w1 w')
      (fun w1 ht => digit_mid w1 b o k c h x.toNat d hd k5 (by omega) ht)).mono ?_
    rintro e w' ⟨rfl, w1, hc, ha, hs⟩
    refine ⟨rfl, (hc.2.widen (Nat.le_refl _) (by omega)).trans (hs.widen (by omega) (by omega)), fun _ => ⟨⟨hh1, hh2, ?_⟩, hc.1.sub hs (.inl (by omega)), ha⟩⟩
    by_cases k2 : k = 2
    · subst k2
      have := low_two hl' hd
      omega
    by_cases k3 : k = 3
    · subst k3
      have := low_three hl' hd
      omega
    · omega
  · have hk : k = 5 := by omega
    subst hk
    rw [step_end hl' (lowW_d (by omega) hd)]
    have hE := fun (w1 : World) ht => end_pair w1 b o 6 (c * 16 + d) h ⟨hh1, hh2⟩ (by omega) ht
    generalize encL (pairN h (c * 16 + d)) = l at hE ⊢
    refine (take_low w b o 5 c h (by omega) hh1 hC hT x hl' (.string ⟨l.toArray⟩, .int .i64 0) (fun w1 w' => EndPost w1 b o 0 w')
      (fun w1 ht => digit_end w1 b o c h x.toNat d 0 (.string ⟨l.toArray⟩, .int .i64 0) hd (by omega) ht hE)).mono ?_
    rintro e w' ⟨rfl, w1, hc, ha, hs⟩
    exact ⟨rfl, (hc.2.widen (Nat.le_refl _) (by omega)).trans (hs.widen (by omega) (by omega)), fun _ => ⟨⟨by omega, rfl, rfl⟩, hc.1.sub hs (.inl (by omega)), ha⟩⟩
end Go.Proofs.Ytacngbngljfedaa
/-
  CONTRACTS of escape.Reader, part E: Step, Whole; a new Reader; a nil one; what stands beside it.
-/
namespace Go.Proofs.Ytacngbngljfedaa
open Go.RowKit
open Go.Lib
/-- The Reader at place o of block b stands at a state. -/
def EAt (w : World) (b o : Nat) (s : Ins) : Prop := At w b o [.int .i64 (errI s)] ∧ (errI s = 0 → WfI s ∧ CAt w b (o + 1) (utfI s) ∧ At w b (o + 5) (tail3 (seenI s) (codeI s) (highI s)))
theorem EAt.keep {w w' : World} {b o : Nat} {s : Ins} (h : EAt w b o s) (hk : w'.heap[b]? = w.heap[b]?) : EAt w' b o s := ⟨h.1.keep hk, fun e => ⟨(h.2 e).1, (h.2 e).2.1.keep hk, (h.2 e).2.2.keep hk⟩⟩
theorem EAt.lt {w : World} {b o : Nat} {s : Ins} (h : EAt w b o s) : b < w.heap.size := h.1.lt (by simp)
theorem EAt.below {w w' : World} {b o B : Nat} {s : Ins} (h : EAt w b o s) (hb : Below B w w') (hB : b < B) : EAt w' b o s := h.keep (hb.block b hB)
theorem EAt.wf {w : World} {b o : Nat} {s : Ins} (h : EAt w b o s) (e : errI s = 0) : WfI s := (h.2 e).1
theorem EAt.sub {w w' : World} {b o o' n : Nat} {s : Ins} (h : EAt w b o s) (k : Sub b o' n w w') (hd : o + 8 ≤ o' ∨ o' + n ≤ o) : EAt w' b o s :=
  ⟨h.1.sub k (by simp only [List.length_singleton]; omega), fun e => ⟨(h.2 e).1, (h.2 e).2.1.sub k (by omega), (h.2 e).2.2.sub k (by simp only [tail3, List.length_cons, List.length_nil]; omega)⟩⟩
theorem bad_of {s : Ins} (h : errI s ≠ 0) : ∃ u, s = .bad u := by
  match s with
  | .text _ _ _ => exact absurd rfl h
  | .back => exact absurd rfl h
  | .hex _ _ => exact absurd rfl h
  | .high _ _ _ => exact absurd rfl h
  | .bad u => exact ⟨u, rfl⟩
theorem take_at {w : World} {b o : Nat} {s : Ins} (he : errI s = 0) (hW : WfI s) (hC : CAt w b (o + 1) (utfI s)) (hT : At w b (o + 5) (tail3 (seenI s) (codeI s) (highI s))) (x : UInt8) :
    Calls Try.prog 76 #[.pointer (some ⟨b, o, none⟩), .int .u8 x.toNat] w fun e w' =>
      e = .returned (.tuple #[.string ⟨(stepI s x).2.toArray⟩, .int .i64 (errI (stepI s x).1)]) ∧ TPost w b o (stepI s x).1 w' := by
  match s with
  | .text n lo hi => exact take_text w b o n lo hi hW hC hT x
  | .back => exact take_back w b o hC hT x
  | .hex k v => exact take_hex w b o k v hW hC hT x
  | .high h k c => exact take_high w b o h k c hW hC hT x
  | .bad u => cases u <;> cases he
set_option maxRecDepth 100000 in
set_option maxHeartbeats 1600000 in
/-- STEP. -/
theorem estep_at {w : World} {b o : Nat} {s : Ins} (h : EAt w b o s) (x : UInt8) :
    Calls Try.prog 67 #[.pointer (some ⟨b, o, none⟩), .int .u8 x.toNat] w fun e w' =>
      e = .returned (.tuple #[.string ⟨(stepI s x).2.toArray⟩, .int .i64 (errI (stepI s x).1)]) ∧ EAt w' b o (stepI s x).1 ∧ Sub b o 8 w w' := by
  by_cases he : errI s = 0
  · obtain ⟨hA, hR⟩ := h
    obtain ⟨hW, hC, hT⟩ := hR he
    have hK := take_at he hW hC hT x
    obtain ⟨hc', hf⟩ := hA 0 _ rfl
    have hc : w.cell? ⟨b, o, none⟩ = some (.int .i64 0) := by rw [he] at hc'; exact hc'
    have hP : ∀ w', TPost w b o (stepI s x).1 w' → (w'.cell? ⟨b, o, none⟩ = some (.int .i64 0) ∧ w'.frozen? ⟨b, o, none⟩ = false) ∧ EAt (w'.setCell ⟨b, o, none⟩ (.int .i64 (errI (stepI s x).1))) b o (stepI s x).1 ∧ Sub b o 8 w (w'.setCell ⟨b, o, none⟩ (.int .i64 (errI (stepI s x).1))) := by
      intro w' hp
      have a1 := hA.sub hp.1 (.inl (by simp))
      have hs := sub_setCell (b := b) (o := o) (n := 1) w' o (.int .i64 (errI (stepI s x).1)) (by omega)
      have a2 := a1 0 _ rfl
      rw [he] at a2
      refine ⟨a2, ⟨a1.set 0 (by simp) _, fun e => ?_⟩, (hp.1.widen (by omega) (by omega)).trans (hs.widen (by omega) (by omega))⟩
      obtain ⟨q1, q2, q3⟩ := hp.2 e
      exact ⟨q1, q2.sub hs (.inr (by omega)), q3.sub hs (.inr (by omega))⟩
    have HP := Lib.hid hP
    have HK := Lib.hid hK
    clear hP hK hA hR hW hC hT hc' he
    generalize (stepI s x).1 = s' at *
    generalize (stepI s x).2 = l at *
    obtain ⟨z, hz⟩ : ∃ z : ByteArray, (⟨l.toArray⟩ : ByteArray) = z := ⟨_, rfl⟩
    rw [hz] at HK ⊢
    clear hz
    obtain ⟨E, hE⟩ : ∃ E, ((errI s' : Nat) : Int) = E := ⟨_, rfl⟩
    rw [hE] at HP HK ⊢
    clear hE
    go_enter Try.func67, Try.ntmps67
    go_wp2_with fail
    refine HK.out.mono ?_
    rintro e w' ⟨rfl, hp⟩
    obtain ⟨⟨hc', hf'⟩, hq⟩ := HP.out w' hp
    have HQ := Lib.hid hq
    clear hp hq
    go_wp2
    go_ret2
    exact ⟨rfl, HQ.out⟩
  · obtain ⟨u, rfl⟩ := bad_of he
    obtain ⟨hc, hf⟩ := h.1 0 _ rfl
    have hE : (((errI (.bad u) : Nat) : Int) == 0) = false := by rw [beq_eq_false_iff_ne]; omega
    have hE2 : (((errI (.bad u) : Nat) : Int) = 0) = False := by simp only [eq_iff_iff, iff_false]; omega
    have hn : (0 : Int) < ((errI (.bad u) : Nat) : Int) := by omega
    simp only [stepI]
    have HP : Hid (EAt w b o (.bad u)) := Lib.hid h
    obtain ⟨E, hEE⟩ : ∃ E, ((errI (.bad u) : Nat) : Int) = E := ⟨_, rfl⟩
    rw [hEE] at hc hE hE2 hn ⊢
    have hc0 : w.cell? ⟨b, o, none⟩ = some (.int .i64 E) := hc
    clear h hc he hEE
    go_enter Try.func67, Try.ntmps67
    go_wp2_with fail
    go_region
    go_wp2
    go_ret2
    exact ⟨rfl, HP.out, (Sub.refl _ _ _ _).drew⟩
theorem estep_nil (x : Int) (w : World) : Calls Try.prog 67 #[.pointer none, .int .u8 x] w fun e w' => e = .returned (.tuple #[.string ⟨#[]⟩, .int .i64 14]) ∧ w = w' := by
  go_enter Try.func67, Try.ntmps67
  go_wp2
  go_ret2
  exact ⟨rfl, rfl⟩
theorem ewhole_nil (w : World) : Calls Try.prog 66 #[.pointer none] w fun e w' => e = .returned (.bool false) ∧ w = w' := by
  go_enter Try.func66, Try.ntmps66
  go_wp2
  go_ret
  exact ⟨rfl, rfl⟩
set_option maxRecDepth 100000 in
set_option maxHeartbeats 1600000 in
theorem ewhole_bad {w : World} {b o : Nat} {u : Bool} (h : EAt w b o (.bad u)) :
    Calls Try.prog 66 #[.pointer (some ⟨b, o, none⟩)] w fun e w' => e = .returned (.bool false) ∧ w = w' := by
  obtain ⟨hc, hf⟩ := h.1 0 _ rfl
  have hE : (((errI (.bad u) : Nat) : Int) == 0) = false := by cases u <;> rfl
  obtain ⟨E, hEE⟩ : ∃ E, ((errI (.bad u) : Nat) : Int) = E := ⟨_, rfl⟩
  rw [hEE] at hc hE
  have hc0 : w.cell? ⟨b, o, none⟩ = some (.int .i64 E) := hc
  clear h hc hEE
  go_enter Try.func66, Try.ntmps66
  go_wp2
  go_ret
  exact ⟨rfl, rfl⟩
set_option maxRecDepth 100000 in
set_option maxHeartbeats 1600000 in
theorem ewhole_open {w : World} {b o n c hi : Nat} (h0 : At w b o [.int .i64 (0 : Nat)]) (hT : At w b (o + 5) (tail3 n c hi)) (hne : n ≠ 0 ∨ hi ≠ 0) :
    Calls Try.prog 66 #[.pointer (some ⟨b, o, none⟩)] w fun e w' => e = .returned (.bool false) ∧ w = w' := by
  obtain ⟨hc', hf⟩ := h0 0 _ rfl
  have hc : w.cell? ⟨b, o, none⟩ = some (.int .i64 0) := hc'
  obtain ⟨⟨hd0, he0⟩, ⟨hd1, he1⟩, hd2, he2⟩ := hT.tail
  clear h0 hT hc'
  by_cases hn : n = 0
  · subst hn
    have hd0' : w.cell? ⟨b, o + 5, none⟩ = some (.int .i64 0) := hd0
    have z : ((hi : Int) == 0) = false := by rw [beq_eq_false_iff_ne]; omega
    clear hd0 hne
    go_enter Try.func66, Try.ntmps66
    go_wp2
    go_ret
    exact ⟨rfl, rfl⟩
  · have z : ((n : Int) == 0) = false := by rw [beq_eq_false_iff_ne]; omega
    clear hne
    go_enter Try.func66, Try.ntmps66
    go_wp2
    go_ret
    exact ⟨rfl, rfl⟩
set_option maxRecDepth 100000 in
set_option maxHeartbeats 1600000 in
theorem ewhole_text {w : World} {b o : Nat} {s : Option (Nat × Nat × Nat)} (h0 : At w b o [.int .i64 (0 : Nat)]) (hC : CAt w b (o + 1) s) (hT : At w b (o + 5) (tail3 0 0 0)) :
    Calls Try.prog 66 #[.pointer (some ⟨b, o, none⟩)] w fun e w' => e = .returned (.bool (wholeS s)) ∧ w = w' := by
  obtain ⟨hc', hf⟩ := h0 0 _ rfl
  have hc : w.cell? ⟨b, o, none⟩ = some (.int .i64 0) := hc'
  obtain ⟨⟨hd0, he0⟩, ⟨hd1, he1⟩, hd2, he2⟩ := hT.zeros 0 0 0 rfl rfl rfl
  have HW := Lib.hid (whole_at hC)
  generalize wholeS s = q at *
  clear h0 hT hc' hC
  go_enter Try.func66, Try.ntmps66
  go_wp2_with fail
  refine HW.out.mono ?_
  rintro e w' ⟨rfl, rfl⟩
  go_wp2
  go_ret
  exact ⟨rfl, rfl⟩
/-- WHOLE. -/
theorem ewhole_at {w : World} {b o : Nat} {s : Ins} (h : EAt w b o s) :
    Calls Try.prog 66 #[.pointer (some ⟨b, o, none⟩)] w fun e w' => e = .returned (.bool (wholeI s)) ∧ w = w' := by
  match s with
  | .bad u => exact ewhole_bad h
  | .back =>
    obtain ⟨_, hC, hT⟩ := h.2 rfl
    exact ewhole_open h.1 hT (.inl (by decide))
  | .hex k v =>
    obtain ⟨_, hC, hT⟩ := h.2 rfl
    exact ewhole_open h.1 hT (.inl (by simp only [seenI]; omega))
  | .high a k c =>
    obtain ⟨hW, hC, hT⟩ := h.2 rfl
    exact ewhole_open h.1 hT (.inr (by have := hW.1; simp only [highI]; omega))
  | .text n lo hi =>
    obtain ⟨_, hC, hT⟩ := h.2 rfl
    have := ewhole_text h.1 hC hT
    have e : wholeS (some (n, lo, hi)) = wholeI (.text n lo hi) := by cases n <;> rfl
    rw [← e]
    exact this
/-- A new one. -/
abbrev rdZero : Array Value := #[.int .i64 0, .int .i64 0, .int .u8 0, .int .u8 0, .bool false, .int .i64 0, .int .i64 0, .int .i64 0]
theorem eat_of {w : World} {b o : Nat} (h : At w b o rdZero.toList) : EAt w b o insT := by
  have h1 : At w b o ([.int .i64 (0 : Nat)] ++ (ckCells 0 0 0 false ++ tail3 0 0 0)) := h
  exact ⟨h1.left, fun _ => ⟨⟨by omega, rfl, rfl⟩, cat_zero (h1.right).left, (h1.right).right⟩⟩
theorem at_block {w : World} {b : Nat} {c : Array Value} {t : TypeId} (h : w.heap[b]? = some (.cells c t (0, 0))) : At w b 0 c.toList := fun j u hj => by
  refine ⟨?_, ?_⟩
  · unfold World.cell?
    simp only [h]
    simpa using hj
  · unfold World.frozen?
    simp only [h]
    simp
theorem eat_new (w : World) : EAt (w.alloc (.cells rdZero 77)) w.heap.size 0 insT := eat_of (at_block (heap_alloc_new w _))
/-- The block of a Reader alone. -/
def RBlk (w : World) (b : Nat) : Prop := ∃ c fr, w.heap[b]? = some (.cells c 77 fr)
theorem rblk_new (w : World) : RBlk (w.alloc (.cells rdZero 77)) w.heap.size := ⟨_, _, heap_alloc_new w _⟩
theorem RBlk.keep {w w' : World} {b : Nat} (h : RBlk w b) (hk : w'.heap[b]? = w.heap[b]?) : RBlk w' b := by
  obtain ⟨c, fr, h⟩ := h
  exact ⟨c, fr, hk.trans h⟩
theorem RBlk.sub {w w' : World} {b b' o n : Nat} (h : RBlk w b) (k : Sub b' o n w w') : RBlk w' b := by
  obtain ⟨c, fr, h⟩ := h
  by_cases e : b = b'
  · subst e
    obtain ⟨c', h', _⟩ := k.shape _ _ _ h
    exact ⟨c', fr, h'⟩
  · exact ⟨c, fr, (k.step.block b (Array.getElem?_eq_some_iff.1 h).1 (by simpa using e)).trans h⟩
theorem RBlk.same {w w' : World} {b : Nat} {a : Option Nat} (h : RBlk w b) (k : Lib.OthersKept 5 a w w') (ha : a ≠ some b) : w'.heap[b]? = w.heap[b]? := by
  obtain ⟨c, fr, h⟩ := h
  rw [h]
  exact k b _ h (fun e => ha e.symm) (fun c' fz he => by injection he with _ h2 _; exact absurd h2 (by decide))
theorem step_len {s : Ins} (hW : WfI s) (x : UInt8) : (stepI s x).2.length ≤ 4 := by
  match s with
  | .bad u => simp [stepI]
  | .text n lo hi =>
    simp only [stepI]
    repeat' split
    all_goals simp
  | .back =>
    simp only [stepI]
    repeat' split
    all_goals simp
  | .hex k v =>
    obtain ⟨hk, hv⟩ := hW
    cases hh : hexV x.toNat with
    | none => rw [step_hex_none hh]; simp
    | some d =>
      by_cases h3 : k < 3
      · rw [step_hex_mid hh h3]; simp
      · have : k = 3 := by omega
        subst this
        rw [step_hex_end hh]
        have hd := (hexV_lt hh).1
        have hcl : v * 16 + d < 65536 := by omega
        generalize v * 16 + d = c at *
        unfold endI
        by_cases q1 : 56320 ≤ c ∧ c ≤ 57343
        · rw [if_pos q1]; simp
        · rw [if_neg q1]
          by_cases q2 : 55296 ≤ c ∧ c ≤ 56319
          · rw [if_pos q2]; simp
          · rw [if_neg q2]
            have h4 := (enc_len (rune_of hcl q1 q2)).2
            generalize encL c = l at h4 ⊢
            exact h4
  | .high h k c =>
    obtain ⟨hh1, hh2, hkc⟩ := hW
    by_cases hl : lowOk k x.toNat = false
    · rw [step_high_no hl]; simp
    have hl' : lowOk k x.toNat = true := by simpa using hl
    by_cases k5 : k < 5
    · rw [step_lt hl' k5 rfl]; simp
    · have hk : k = 5 := by omega
      subst hk
      obtain ⟨d, hd⟩ := (lowOk_byte hl').2.2.2.2 (by omega)
      have hdl := (hexV_lt hd).1
      rw [step_end hl' (lowW_d (by omega) hd)]
      have h4 := (enc_len (pair_rune (h := h) (c := c * 16 + d) ⟨hh1, hh2⟩ (by omega))).2
      generalize encL (pairN h (c * 16 + d)) = l at h4 ⊢
      exact h4
end Go.Proofs.Ytacngbngljfedaa
