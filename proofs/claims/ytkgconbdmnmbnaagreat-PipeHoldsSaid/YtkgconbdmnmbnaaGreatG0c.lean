/-
  Parts: UtfCk, EscFns, Vr, Rune, Esc, EscB, EscC.
-/
import Derived.Test.YtkgconbdmnmbnaaGreatG0b
import Derived.Test.YtkgconbdmnmbnaaGreatG0a
import Derived.Shelf.Small.Utf8
import Derived.Below
import Derived.Test.YtkgconbdmnmbnaaGreatProg
import Derived.OwnWalk
set_option maxRecDepth 100000
set_option maxHeartbeats 16000000
open Go.Lib (hid)
namespace Go.Proofs.YtkgconbdmnmbnaaGreat
section
open Go.RowKit
open Go.Lib
def ckCells (n lo hi : Nat) (bad : Bool) : List Value := [.int .i64 n, .int .u8 lo, .int .u8 hi, .bool bad]
def CAt (w : World) (b o : Nat) : Option (Nat × Nat × Nat) → Prop
  | none => ∃ n lo hi : Nat, At w b o (ckCells n lo hi true)
  | some (k, l, h) => k ≤ 3 ∧ ∃ lo hi : Nat, At w b o (ckCells k lo hi false) ∧ (0 < k → lo = l ∧ hi = h)
theorem CAt.cells {w : World} {b o : Nat} {s : Option (Nat × Nat × Nat)} (h : CAt w b o s) : ∃ n lo hi, At w b o (ckCells n lo hi s.isNone) := by
  match s, h with
  | none, ⟨n, lo, hi, h⟩ => exact ⟨n, lo, hi, h⟩
  | some (k, _, _), ⟨_, lo, hi, h, _⟩ => exact ⟨k, lo, hi, h⟩
theorem CAt.lt {w : World} {b o : Nat} {s : Option (Nat × Nat × Nat)} (h : CAt w b o s) : b < w.heap.size := by
  obtain ⟨_, _, _, h⟩ := h.cells; exact h.lt (by simp [ckCells])
theorem CAt.map {w w' : World} {b o : Nat} {s : Option (Nat × Nat × Nat)} (h : CAt w b o s) (hk : ∀ vs : List Value, vs.length = 4 → At w b o vs → At w' b o vs) : CAt w' b o s := by
  match s, h with
  | none, ⟨n, lo, hi, h⟩ => exact ⟨n, lo, hi, hk _ rfl h⟩
  | some (_, _, _), ⟨h0, lo, hi, h, h1⟩ => exact ⟨h0, lo, hi, hk _ rfl h, h1⟩
theorem CAt.keep {w w' : World} {b o : Nat} {s : Option (Nat × Nat × Nat)} (h : CAt w b o s) (hk : w'.heap[b]? = w.heap[b]?) : CAt w' b o s := h.map fun _ _ h => h.keep hk
theorem CAt.sub {w w' : World} {b o o' n : Nat} {s : Option (Nat × Nat × Nat)} (h : CAt w b o s) (k : Sub b o' n w w') (hd : o + 4 ≤ o' ∨ o' + n ≤ o) : CAt w' b o s := h.map fun vs hv h => h.sub k (by omega)
def CPost (w : World) (b o : Nat) (s : Option (Nat × Nat × Nat)) (w' : World) : Prop := CAt w' b o s ∧ Sub b o 4 w w'
theorem cat_zero {w : World} {b o : Nat} (h : At w b o (ckCells 0 0 0 false)) : CAt w b o st0 := ⟨by omega, 0, 0, h, fun h => by omega⟩
theorem At.four {w : World} {b o : Nat} {v0 v1 v2 v3 : Value} (h : At w b o [v0, v1, v2, v3]) :
    (w.cell? ⟨b, o, none⟩ = some v0 ∧ w.frozen? ⟨b, o, none⟩ = false) ∧ (w.cell? ⟨b, o + 1, none⟩ = some v1 ∧ w.frozen? ⟨b, o + 1, none⟩ = false) ∧
    (w.cell? ⟨b, o + 2, none⟩ = some v2 ∧ w.frozen? ⟨b, o + 2, none⟩ = false) ∧ (w.cell? ⟨b, o + 3, none⟩ = some v3 ∧ w.frozen? ⟨b, o + 3, none⟩ = false) :=
  ⟨h 0 v0 rfl, h 1 v1 rfl, h 2 v2 rfl, h 3 v3 rfl⟩
theorem lack_any (w : World) (b o : Nat) (v0 v1 v2 v3 : Value) (hb : At w b o [v0, v1, v2, v3]) (n lo hi : Int) :
    Calls Tryz.prog 136 #[.pointer (some ⟨b, o, none⟩), .int .i64 n, .int .u8 lo, .int .u8 hi] w fun e w' => e = .returned (.tuple #[]) ∧
      At w' b o [.int .i64 n, .int .u8 lo, .int .u8 hi, v3] ∧ Sub b o 4 w w' := by
  obtain ⟨⟨hc0, hf0⟩, ⟨hc1, hf1⟩, ⟨hc2, hf2⟩, _⟩ := hb.four; have e1 := hb.set 0 (by simp) (.int .i64 n); have e2 := e1.set 1 (by simp) (.int .u8 lo); have e3 := e2.set 2 (by simp) (.int .u8 hi); have s3 : Sub b o 4 w (((w.setCell ⟨b, o, none⟩ (.int .i64 n)).setCell ⟨b, o + 1, none⟩ (.int .u8 lo)).setCell ⟨b, o + 2, none⟩ (.int .u8 hi)) :=
    ((sub_setCell w o _ (by omega)).setCell (o + 1) _ (by omega)).setCell (o + 2) _ (by omega)
  have HP := hid (And.intro e3 s3); clear hb e1 e2 e3 s3; go_enter Tryz.func136, Tryz.ntmps136; go_wp2
  go_end0
  exact ⟨rfl, HP.out⟩
theorem bad_post {w : World} {b o : Nat} {n lo hi : Nat} {v : Value} (hb : At w b o [.int .i64 n, .int .u8 lo, .int .u8 hi, v]) : CPost w b o none (w.setCell ⟨b, o + 3, none⟩ (.bool true)) :=
  ⟨⟨n, lo, hi, hb.set 3 (by simp) _⟩, sub_setCell w (o + 3) _ (by omega)⟩
theorem cat_bad {w : World} {b o : Nat} {s : Option (Nat × Nat × Nat)} (h : CAt w b o s) : w.cell? ⟨b, o + 3, none⟩ = some (.bool s.isNone) := by
  obtain ⟨_, _, _, h⟩ := h.cells; exact h.four.2.2.2.1
theorem open_any (w : World) (b o : Nat) (lo hi : Nat) (hb : At w b o (ckCells 0 lo hi false)) (x : Nat) (hx : x < 256) :
    Calls Tryz.prog 130 #[.pointer (some ⟨b, o, none⟩), .int .u8 x] w fun e w' => e = .returned (.tuple #[]) ∧ CPost w b o (openS x) w' := by
  obtain ⟨_, _, _, hc3, hf3⟩ := hb.four; have HB := hid hb; have HL := hid (lack_any w b o _ _ _ _ hb); clear hb; by_cases c0 : (x : Int) < 128
  · have he : openS x = some (0, 0, 0) := by unfold openS; rw [if_pos (by omega)]
    rw [he]; go_enter Tryz.func130, Tryz.ntmps130; go_wp2
    go_end0
    exact ⟨rfl, ⟨by omega, lo, hi, HB.out, fun h => by omega⟩, Sub.refl _ _ _ _⟩
  by_cases c1 : (194 : Int) ≤ x ∧ (x : Int) ≤ 223
  · obtain ⟨c1a, c1b⟩ := c1
    have he : openS x = some (1, 128, 191) := by unfold openS; rw [if_neg (by omega), if_pos (by omega)]
    rw [he]; go_enter Tryz.func130, Tryz.ntmps130; (go_wp2_with fail); refine (HL.out 1 128 191).mono ?_; rintro e w' ⟨rfl, hb', hs⟩; go_wp2
    go_end0
    exact ⟨rfl, ⟨by omega, 128, 191, hb', fun _ => ⟨rfl, rfl⟩⟩, hs⟩
  have c1' : (194 : Int) ≤ x → ¬ (x : Int) ≤ 223 := fun h h' => c1 ⟨h, h'⟩
  clear c1; by_cases d1 : (194 : Int) ≤ x
  · have c1'' := c1' d1
    clear c1'; by_cases c2 : (x : Int) = 224
    · have c2z : ((x : Int) == 224) = true := by rw [beq_iff_eq]; exact c2
      have he : openS x = some (2, 160, 191) := by unfold openS; rw [if_neg (by omega), if_neg (by omega), if_pos (by omega)]
      rw [he]; go_enter Tryz.func130, Tryz.ntmps130; (go_wp2_with fail); refine (HL.out 2 160 191).mono ?_; rintro e w' ⟨rfl, hb', hs⟩; go_wp2
      go_end0
      exact ⟨rfl, ⟨by omega, 160, 191, hb', fun _ => ⟨rfl, rfl⟩⟩, hs⟩
    have c2z : ((x : Int) == 224) = false := by rw [beq_eq_false_iff_ne]; exact c2
    by_cases c3 : (x : Int) = 237
    · have c3z : ((x : Int) == 237) = true := by rw [beq_iff_eq]; exact c3
      have he : openS x = some (2, 128, 159) := by unfold openS; rw [if_neg (by omega), if_neg (by omega), if_neg (by omega), if_pos (by omega)]
      rw [he]; go_enter Tryz.func130, Tryz.ntmps130; (go_wp2_with fail); refine (HL.out 2 128 159).mono ?_; rintro e w' ⟨rfl, hb', hs⟩; go_wp2
      go_end0
      exact ⟨rfl, ⟨by omega, 128, 159, hb', fun _ => ⟨rfl, rfl⟩⟩, hs⟩
    have c3z : ((x : Int) == 237) = false := by rw [beq_eq_false_iff_ne]; exact c3
    have c4a : (225 : Int) ≤ x := by omega
    by_cases c4 : (x : Int) ≤ 239
    · skip
      have he : openS x = some (2, 128, 191) := by unfold openS; rw [if_neg (by omega), if_neg (by omega), if_neg (by omega), if_neg (by omega), if_pos (by omega)]
      rw [he]; go_enter Tryz.func130, Tryz.ntmps130; (go_wp2_with fail); refine (HL.out 2 128 191).mono ?_; rintro e w' ⟨rfl, hb', hs⟩; go_wp2
      go_end0
      exact ⟨rfl, ⟨by omega, 128, 191, hb', fun _ => ⟨rfl, rfl⟩⟩, hs⟩
    by_cases c5 : (x : Int) = 240
    · have c5z : ((x : Int) == 240) = true := by rw [beq_iff_eq]; exact c5
      have he : openS x = some (3, 144, 191) := by unfold openS; rw [if_neg (by omega), if_neg (by omega), if_neg (by omega), if_neg (by omega), if_neg (by omega), if_pos (by omega)]
      rw [he]; go_enter Tryz.func130, Tryz.ntmps130; (go_wp2_with fail); refine (HL.out 3 144 191).mono ?_; rintro e w' ⟨rfl, hb', hs⟩; go_wp2
      go_end0
      exact ⟨rfl, ⟨by omega, 144, 191, hb', fun _ => ⟨rfl, rfl⟩⟩, hs⟩
    have c5z : ((x : Int) == 240) = false := by rw [beq_eq_false_iff_ne]; exact c5
    have c6a : (241 : Int) ≤ x := by omega
    by_cases c6 : (x : Int) ≤ 243
    · skip
      have he : openS x = some (3, 128, 191) := by unfold openS; rw [if_neg (by omega), if_neg (by omega), if_neg (by omega), if_neg (by omega), if_neg (by omega), if_neg (by omega), if_pos (by omega)]
      rw [he]; go_enter Tryz.func130, Tryz.ntmps130; (go_wp2_with fail); refine (HL.out 3 128 191).mono ?_; rintro e w' ⟨rfl, hb', hs⟩; go_wp2
      go_end0
      exact ⟨rfl, ⟨by omega, 128, 191, hb', fun _ => ⟨rfl, rfl⟩⟩, hs⟩
    by_cases c7 : (x : Int) = 244
    · have c7z : ((x : Int) == 244) = true := by rw [beq_iff_eq]; exact c7
      have he : openS x = some (3, 128, 143) := by unfold openS; rw [if_neg (by omega), if_neg (by omega), if_neg (by omega), if_neg (by omega), if_neg (by omega), if_neg (by omega), if_neg (by omega), if_pos (by omega)]
      rw [he]; go_enter Tryz.func130, Tryz.ntmps130; (go_wp2_with fail); refine (HL.out 3 128 143).mono ?_; rintro e w' ⟨rfl, hb', hs⟩; go_wp2
      go_end0
      exact ⟨rfl, ⟨by omega, 128, 143, hb', fun _ => ⟨rfl, rfl⟩⟩, hs⟩
    have c7z : ((x : Int) == 244) = false := by rw [beq_eq_false_iff_ne]; exact c7
    have he : openS x = none := by unfold openS; rw [if_neg (by omega), if_neg (by omega), if_neg (by omega), if_neg (by omega), if_neg (by omega), if_neg (by omega), if_neg (by omega), if_neg (by omega)]
    rw [he]; have HN := hid (bad_post HB.out); go_enter Tryz.func130, Tryz.ntmps130; go_wp2
    go_end0
    exact ⟨rfl, HN.out⟩
  · have c1a : (x : Int) < 194 := by omega
    clear c1'; have c2z : ((x : Int) == 224) = false := by rw [beq_eq_false_iff_ne]; omega
    have c3z : ((x : Int) == 237) = false := by rw [beq_eq_false_iff_ne]; omega
    have c4 : ¬ (225 : Int) ≤ x := by omega
    have c5z : ((x : Int) == 240) = false := by rw [beq_eq_false_iff_ne]; omega
    have c6 : ¬ (241 : Int) ≤ x := by omega
    have c7z : ((x : Int) == 244) = false := by rw [beq_eq_false_iff_ne]; omega
    have he : openS x = none := by unfold openS; rw [if_neg (by omega), if_neg (by omega), if_neg (by omega), if_neg (by omega), if_neg (by omega), if_neg (by omega), if_neg (by omega), if_neg (by omega)]
    rw [he]; have HN := hid (bad_post HB.out); go_enter Tryz.func130, Tryz.ntmps130; go_wp2
    go_end0
    exact ⟨rfl, HN.out⟩
theorem goon_any (w : World) (b o n : Nat) (lo hi : Nat) (hn : n < 3) (hb : At w b o (ckCells (n + 1) lo hi false)) (x : UInt8) :
    Calls Tryz.prog 131 #[.pointer (some ⟨b, o, none⟩), .int .u8 x.toNat] w fun e w' => e = .returned (.tuple #[]) ∧ CPost w b o (stepS (some (n + 1, lo, hi)) x) w' := by
  obtain ⟨⟨hc0, _⟩, ⟨hc1, _⟩, ⟨hc2, _⟩, hc3, hf3⟩ := hb.four; have HN := hid (bad_post hb); have HL := hid (lack_any w b o _ _ _ _ hb); clear hb; by_cases c1 : ((x.toNat : Nat) : Int) < (lo : Int)
  · have he : stepS (some (n + 1, lo, hi)) x = none := by simp only [stepS]; rw [if_pos (by omega)]
    rw [he]; go_enter Tryz.func131, Tryz.ntmps131; go_wp2; refine bodyPost_ret (results_none rfl _ _ _) rfl ?_; exact ⟨rfl, HN.out⟩
  by_cases c2 : (hi : Int) < ((x.toNat : Nat) : Int)
  · have he : stepS (some (n + 1, lo, hi)) x = none := by simp only [stepS]; rw [if_pos (by omega)]
    rw [he]; go_enter Tryz.func131, Tryz.ntmps131; go_wp2; refine bodyPost_ret (results_none rfl _ _ _) rfl ?_; exact ⟨rfl, HN.out⟩
  have hw : ((n + 1 : Nat) : Int) - 1 = (n : Int) := by omega
  have he : stepS (some (n + 1, lo, hi)) x = if n = 0 then some (0, 0, 0) else some (n, 128, 191) := by simp only [stepS]; rw [if_neg (by omega)]
  have hfin : ∀ w', At w' b o (ckCells n 128 191 false) → CAt w' b o (if n = 0 then some (0, 0, 0) else some (n, 128, 191)) := by
    intro w' h'; by_cases h0 : n = 0
    · subst h0
      exact ⟨by omega, 128, 191, h', fun h => by omega⟩
    · rw [if_neg h0]
      exact ⟨by omega, 128, 191, h', fun _ => ⟨rfl, rfl⟩⟩
  obtain ⟨S, hS⟩ : ∃ S, (if n = 0 then some (0, 0, 0) else some (n, 128, 191)) = S := ⟨_, rfl⟩
  rw [he]; rw [hS] at hfin ⊢; have HF := hid hfin; clear hfin he HN hS; go_enter Tryz.func131, Tryz.ntmps131; (go_wp2_with fail); refine (HL.out n 128 191).mono ?_; rintro e w' ⟨rfl, hb', hs⟩; go_wp2
  go_end0
  exact ⟨rfl, HF.out _ hb', hs⟩
theorem bad_at {w : World} {b o : Nat} {s : Option (Nat × Nat × Nat)} (h : CAt w b o s) :
    Calls Tryz.prog 122 #[.pointer (some ⟨b, o, none⟩)] w fun e w' => e = .returned (.bool s.isNone) ∧ w = w' := by
  have hc := cat_bad h; clear h; generalize s.isNone = q at *
  go_enter Tryz.func122, Tryz.ntmps122; go_wp2; go_ret; exact ⟨rfl, rfl⟩
theorem whole_at {w : World} {b o : Nat} {s : Option (Nat × Nat × Nat)} (h : CAt w b o s) :
    Calls Tryz.prog 119 #[.pointer (some ⟨b, o, none⟩)] w fun e w' => e = .returned (.bool (wholeS s)) ∧ w = w' := by
  have hB := bad_at h
  match s, h with
  | none, ⟨_, _, _, h⟩ =>
    have hs : wholeS none = false := rfl; rw [hs]; simp only [Option.isNone] at hB; clear h; go_enter Tryz.func119, Tryz.ntmps119; (go_wp2_with fail); refine hB.mono ?_; rintro e w' ⟨rfl, rfl⟩; go_wp2; go_ret; exact ⟨rfl, rfl⟩
  | some (k, _, _), ⟨_, _, _, h, _⟩ =>
    have hc : w.cell? ⟨b, o, none⟩ = some (.int .i64 k) := h.four.1.1; simp only [Option.isNone] at hB; clear h; by_cases h0 : k = 0
    · subst h0
      have hs : ∀ x y, wholeS (some (0, x, y)) = true := fun _ _ => rfl
      rw [hs]; have hz : (((0 : Nat) : Int) == 0) = true := rfl; go_enter Tryz.func119, Tryz.ntmps119; (go_wp2_with fail); refine hB.mono ?_; rintro e w' ⟨rfl, rfl⟩; go_wp2; go_ret; exact ⟨rfl, rfl⟩
    · have hs : ∀ x y, wholeS (some (k, x, y)) = false := fun _ _ => by
        match k, h0 with
        | 0, h0 => exact absurd rfl h0
        | k + 1, _ => rfl
      rw [hs]; have hz : ((k : Int) == 0) = false := by rw [beq_eq_false_iff_ne]; omega
      go_enter Tryz.func119, Tryz.ntmps119; (go_wp2_with fail); refine hB.mono ?_; rintro e w' ⟨rfl, rfl⟩; go_wp2; go_ret; exact ⟨rfl, rfl⟩
theorem step_at {w : World} {b o : Nat} {s : Option (Nat × Nat × Nat)} (h : CAt w b o s) (x : UInt8) :
    Calls Tryz.prog 124 #[.pointer (some ⟨b, o, none⟩), .int .u8 x.toNat] w fun e w' => e = .returned (.bool (stepS s x).isSome) ∧ CPost w b o (stepS s x) w' := by
  have hB := bad_at h
  match s, h with
  | none, h =>
    have hs : stepS none x = none := rfl; rw [hs]; have HC := hid h; simp only [Option.isNone] at hB; simp only [Option.isSome]; clear h; go_enter Tryz.func124, Tryz.ntmps124; (go_wp2_with fail); refine hB.mono ?_; rintro e w' ⟨rfl, rfl⟩; go_wp2; go_ret; exact ⟨rfl, HC.out, Sub.refl _ _ _ _⟩
  | some (k, l, u), ⟨hk, lo, hi, h, hlo⟩ =>
    have hc : w.cell? ⟨b, o, none⟩ = some (.int .i64 k) := h.four.1.1; simp only [Option.isNone] at hB; have main : ∀ w' : World, CPost w b o (stepS (some (k, l, u)) x) w' → w'.cell? ⟨b, o + 3, none⟩ = some (.bool (!(stepS (some (k, l, u)) x).isSome)) := by
      intro w' hp; have := cat_bad hp.1; rw [this]; cases stepS (some (k, l, u)) x <;> rfl
    cases k with
    | zero =>
      have hO := open_any w b o lo hi h x.toNat x.toNat_lt; have hs : stepS (some (0, l, u)) x = openS x.toNat := rfl; rw [hs] at main ⊢; have hz : (((0 : Nat) : Int) == 0) = true := rfl; have HM := hid main; clear h main hlo hs; go_enter Tryz.func124, Tryz.ntmps124; (go_wp2_with fail); refine hB.mono ?_; rintro e w' ⟨rfl, rfl⟩; (go_wp2_with fail); refine hO.mono ?_; rintro e w' ⟨rfl, hp⟩; have hc3 := HM.out w' hp; have HP := hid hp; clear hp HM; generalize hq : (openS x.toNat).isSome = q at hc3; go_wp2; go_ret; exact ⟨by simp [hq], HP.out⟩
    | succ k =>
      obtain ⟨rfl, rfl⟩ := hlo (by omega); have hO := goon_any w b o k lo hi (by omega) h x; have hz : (((k + 1 : Nat) : Int) == 0) = false := by rw [beq_eq_false_iff_ne]; omega
      have HM := hid main; clear h main hlo; go_enter Tryz.func124, Tryz.ntmps124; (go_wp2_with fail); refine hB.mono ?_; rintro e w' ⟨rfl, rfl⟩; (go_wp2_with fail); refine hO.mono ?_; rintro e w' ⟨rfl, hp⟩; have hc3 := HM.out w' hp; have HP := hid hp; clear hp HM; generalize hq : (stepS (some (k + 1, lo, hi)) x).isSome = q at hc3; go_wp2; go_ret; exact ⟨by simp [hq], HP.out⟩
end
section
open Go.RowKit
open Go.Lib
def hexR (b : Nat) : Nat × Bool := match hexV b with
  | some d => (d, true)
  | none => (0, false)
theorem hexV_lt {b d : Nat} (h : hexV b = some d) : d < 16 ∧ b < 128 ∧ 48 ≤ b := by
  unfold hexV at h
  repeat' split at h
  all_goals first | (simp only [Option.some.injEq] at h; omega) | (cases h)
theorem hexDigit_any (x : Nat) (w : World) :
    Calls Tryz.prog 129 #[.int .u8 x] w fun e w' => e = .returned (.tuple #[.int .i64 (hexR x).1, .bool (hexR x).2]) ∧ w = w' := by
  by_cases a1 : (48 : Int) ≤ x
  · by_cases a2 : (x : Int) ≤ 57
    · have he : hexR x = (x - 48, true) := by unfold hexR hexV; rw [if_pos (by omega)]
      rw [he, show ((x - 48 : Nat) : Int) = (x : Int) - 48 by omega]; clear he; go_enter Tryz.func129, Tryz.ntmps129; go_wp2; go_ret2; exact ⟨rfl, rfl⟩
    by_cases b1 : (97 : Int) ≤ x
    · have n65 : (65 : Int) ≤ x := by omega
      have n70 : ¬ (x : Int) ≤ 70 := by omega
      by_cases b2 : (x : Int) ≤ 102
      · have he : hexR x = (x - 87, true) := by unfold hexR hexV; rw [if_neg (by omega), if_pos (by omega)]
        rw [he, show ((x - 87 : Nat) : Int) = (x : Int) - 97 + 10 by omega]; clear he; go_enter Tryz.func129, Tryz.ntmps129; go_wp2; go_ret2; exact ⟨rfl, rfl⟩
      · have he : hexR x = (0, false) := by unfold hexR hexV; rw [if_neg (by omega), if_neg (by omega), if_neg (by omega)]
        rw [he]; clear he; go_enter Tryz.func129, Tryz.ntmps129; go_wp2; go_ret2; exact ⟨rfl, rfl⟩
    · by_cases c1 : (65 : Int) ≤ x
      · by_cases c2 : (x : Int) ≤ 70
        · have he : hexR x = (x - 55, true) := by unfold hexR hexV; rw [if_neg (by omega), if_neg (by omega), if_pos (by omega)]
          rw [he, show ((x - 55 : Nat) : Int) = (x : Int) - 65 + 10 by omega]; clear he; go_enter Tryz.func129, Tryz.ntmps129; go_wp2; go_ret2; exact ⟨rfl, rfl⟩
        · have he : hexR x = (0, false) := by unfold hexR hexV; rw [if_neg (by omega), if_neg (by omega), if_neg (by omega)]
          rw [he]; clear he; go_enter Tryz.func129, Tryz.ntmps129; go_wp2; go_ret2; exact ⟨rfl, rfl⟩
      · have he : hexR x = (0, false) := by unfold hexR hexV; rw [if_neg (by omega), if_neg (by omega), if_neg (by omega)]
        rw [he]; clear he; go_enter Tryz.func129, Tryz.ntmps129; go_wp2; go_ret2; exact ⟨rfl, rfl⟩
  · have b1 : ¬ (97 : Int) ≤ x := by omega
    have c1 : ¬ (65 : Int) ≤ x := by omega
    have he : hexR x = (0, false) := by unfold hexR hexV; rw [if_neg (by omega), if_neg (by omega), if_neg (by omega)]
    rw [he]; clear he; go_enter Tryz.func129, Tryz.ntmps129; go_wp2; go_ret2; exact ⟨rfl, rfl⟩
def shortL (b : Nat) : List UInt8 := match shortOf b with
  | some c => [UInt8.ofNat c]
  | none => []
theorem shortL_none {b : Nat} (h1 : b ≠ 34) (h2 : b ≠ 92) (h3 : b ≠ 47) (h4 : b ≠ 98) (h5 : b ≠ 102) (h6 : b ≠ 110) (h7 : b ≠ 114) (h8 : b ≠ 116) : shortOf b = none := by
  unfold shortOf; rw [if_neg (by omega), if_neg h4, if_neg h5, if_neg h6, if_neg h7, if_neg h8]
theorem meant_any (x : Nat) (w : World) :
    Calls Tryz.prog 132 #[.int .u8 x] w fun e w' => e = .returned (.string ⟨(shortL x).toArray⟩) ∧ w = w' := by
  by_cases a1 : x = 34
  · subst a1
    go_enter Tryz.func132, Tryz.ntmps132; go_wp2; go_ret; exact ⟨rfl, rfl⟩
  by_cases a2 : x = 92
  · subst a2
    go_enter Tryz.func132, Tryz.ntmps132; go_wp2; go_ret; exact ⟨rfl, rfl⟩
  by_cases a3 : x = 47
  · subst a3
    go_enter Tryz.func132, Tryz.ntmps132; go_wp2; go_ret; exact ⟨rfl, rfl⟩
  by_cases a4 : x = 98
  · subst a4
    go_enter Tryz.func132, Tryz.ntmps132; go_wp2; go_ret; exact ⟨rfl, rfl⟩
  by_cases a5 : x = 102
  · subst a5
    go_enter Tryz.func132, Tryz.ntmps132; go_wp2; go_ret; exact ⟨rfl, rfl⟩
  by_cases a6 : x = 110
  · subst a6
    go_enter Tryz.func132, Tryz.ntmps132; go_wp2; go_ret; exact ⟨rfl, rfl⟩
  by_cases a7 : x = 114
  · subst a7
    go_enter Tryz.func132, Tryz.ntmps132; go_wp2; go_ret; exact ⟨rfl, rfl⟩
  by_cases a8 : x = 116
  · subst a8
    go_enter Tryz.func132, Tryz.ntmps132; go_wp2; go_ret; exact ⟨rfl, rfl⟩
  have he : shortL x = [] := by unfold shortL; rw [shortL_none a1 a2 a3 a4 a5 a6 a7 a8]
  rw [he]; have z1 : ((x : Int) == 34) = false := by rw [beq_eq_false_iff_ne]; omega
  have z2 : ((x : Int) == 92) = false := by rw [beq_eq_false_iff_ne]; omega
  have z3 : ((x : Int) == 47) = false := by rw [beq_eq_false_iff_ne]; omega
  have z4 : ((x : Int) == 98) = false := by rw [beq_eq_false_iff_ne]; omega
  have z5 : ((x : Int) == 102) = false := by rw [beq_eq_false_iff_ne]; omega
  have z6 : ((x : Int) == 110) = false := by rw [beq_eq_false_iff_ne]; omega
  have z7 : ((x : Int) == 114) = false := by rw [beq_eq_false_iff_ne]; omega
  have z8 : ((x : Int) == 116) = false := by rw [beq_eq_false_iff_ne]; omega
  clear a1 a2 a3 a4 a5 a6 a7 a8 he; go_enter Tryz.func132, Tryz.ntmps132; go_wp2; go_ret; exact ⟨rfl, rfl⟩
def lowQ (k b : Nat) : Bool := if k = 0 then b == 92 else if k = 1 then b == 117 else if k = 2 then (hexR b).2 && decide ((hexR b).1 = 13) else if k = 3 then (hexR b).2 && decide (12 ≤ (hexR b).1) else (hexR b).2
theorem lowOk_is (k b : Nat) : lowOk k b = lowQ k b := by
  unfold lowOk lowQ hexR
  match k with
  | 0 => rfl
  | 1 => rfl
  | 2 =>
    show (b == 100 || b == 68) = _; simp only [show ¬ (2 = 0) by decide, show ¬ (2 = 1) by decide, if_true, if_false]; unfold hexV; by_cases h1 : b = 100
    · subst h1; rfl
    by_cases h2 : b = 68
    · subst h2; rfl
    have e1 : (b == 100) = false := by rw [beq_eq_false_iff_ne]; exact h1
    have e2 : (b == 68) = false := by rw [beq_eq_false_iff_ne]; exact h2
    rw [e1, e2]; split <;> rename_i hh
    · repeat' split at hh
      all_goals first | (simp only [Option.some.injEq] at hh; simp; omega) | (cases hh)
    · rfl
  | 3 =>
    simp only [show ¬ (3 = 0) by decide, show ¬ (3 = 1) by decide, show ¬ (3 = 2) by decide, if_true, if_false]; cases hexV b <;> simp
  | k + 4 =>
    rw [if_neg (by omega), if_neg (by omega), if_neg (by omega), if_neg (by omega)]; show (hexV b).isSome = _; cases hexV b <;> rfl
theorem mayPair_any (k x : Nat) (w : World) :
    Calls Tryz.prog 123 #[.int .i64 k, .int .u8 x] w fun e w' => e = .returned (.bool (lowOk k x)) ∧ w = w' := by
  have hH := hid (hexDigit_any x); rw [lowOk_is]; unfold lowQ; generalize hexR x = p at *
  obtain ⟨d, q⟩ := p; simp only []; by_cases k0 : k = 0
  · subst k0
    have e : (x == 92) = ((x : Int) == 92) := by rw [Bool.eq_iff_iff]; simp; omega
    rw [if_pos rfl, e]; go_enter Tryz.func123, Tryz.ntmps123; (go_wp2_with fail); refine (hH.out _).mono ?_; rintro e w' ⟨rfl, rfl⟩; go_wp2; go_ret; exact ⟨rfl, rfl⟩
  rw [if_neg k0]; have z0 : ((k : Int) == 0) = false := by rw [beq_eq_false_iff_ne]; omega
  by_cases k1 : k = 1
  · subst k1
    have e : (x == 117) = ((x : Int) == 117) := by rw [Bool.eq_iff_iff]; simp; omega
    rw [if_pos rfl, e]; go_enter Tryz.func123, Tryz.ntmps123; (go_wp2_with fail); refine (hH.out _).mono ?_; rintro e w' ⟨rfl, rfl⟩; go_wp2; go_ret; exact ⟨rfl, rfl⟩
  rw [if_neg k1]; have z1 : ((k : Int) == 1) = false := by rw [beq_eq_false_iff_ne]; omega
  by_cases k2 : k = 2
  · subst k2
    rw [if_pos rfl]; cases q with
    | false =>
      go_enter Tryz.func123, Tryz.ntmps123; (go_wp2_with fail); refine (hH.out _).mono ?_; rintro e w' ⟨rfl, rfl⟩; go_wp2; go_ret; exact ⟨rfl, rfl⟩
    | true =>
      have e : (true && decide (d = 13)) = ((d : Int) == 13) := by rw [Bool.eq_iff_iff]; simp; omega
      rw [e]; go_enter Tryz.func123, Tryz.ntmps123; (go_wp2_with fail); refine (hH.out _).mono ?_; rintro e w' ⟨rfl, rfl⟩; go_wp2; go_ret; exact ⟨rfl, rfl⟩
  rw [if_neg k2]; have z2 : ((k : Int) == 2) = false := by rw [beq_eq_false_iff_ne]; omega
  by_cases k3 : k = 3
  · subst k3
    rw [if_pos rfl]; cases q with
    | false =>
      go_enter Tryz.func123, Tryz.ntmps123; (go_wp2_with fail); refine (hH.out _).mono ?_; rintro e w' ⟨rfl, rfl⟩; go_wp2; go_ret; exact ⟨rfl, rfl⟩
    | true =>
      have e : (true && decide (12 ≤ d)) = decide ((12 : Int) ≤ (d : Int)) := by rw [Bool.eq_iff_iff]; simp; omega
      rw [e]; go_enter Tryz.func123, Tryz.ntmps123; (go_wp2_with fail); refine (hH.out _).mono ?_; rintro e w' ⟨rfl, rfl⟩; go_wp2; go_ret; exact ⟨rfl, rfl⟩
  rw [if_neg k3]; have z3 : ((k : Int) == 3) = false := by rw [beq_eq_false_iff_ne]; omega
  go_enter Tryz.func123, Tryz.ntmps123; (go_wp2_with fail); refine (hH.out _).mono ?_; rintro e w' ⟨rfl, rfl⟩; go_wp2; go_ret; exact ⟨rfl, rfl⟩
end
section
open Go.Shelf
open Go.RowKit
def lays119_ren : Go.Shelf.Ren := ⟨fun | 119 => 138 | n => n, fun | 21 => 21 | 4 => 4 | n => n, fun | n => n⟩
theorem lays119 : Go.Proofs.Lays.n119 Tryz.prog lays119_ren := {
  mixed := by kernel_rfl
  f119 := Tryz.func138.trans (congrArg some (by kernel_rfl))
  t4 := Tryz.underlying4
  a4 := Tryz.isAgg4
  z4 := Tryz.sizeOf4
  v4 := Tryz.zeroValue4
  t21 := Tryz.underlying21
  a21 := Tryz.isAgg21
  z21 := Tryz.sizeOf21
  v21 := Tryz.zeroValue21 }
theorem utf8_ValidRune (r : Int) (w : World) :
    Calls Tryz.prog 138 #[.int .i32 r] w fun e w' => e = .returned (.bool (Lib.validRune r)) ∧ w' = w := Any.utf8_ValidRune lays119 r w
end
section
open Go.RowKit
open Go.Lib
theorem conv_rune (n : Int) (W : World) : (convert 21 9 (.int .i32 n)).run Tryz.prog W = .ok (.string (Utf8.encode n)) W :=
  run_convert_int_string W 21 9 .i32 n (by rw [Tryz.underlying21]; rfl) Tryz.underlying9
theorem put_ok (n : Nat) (hr : IsRune n) (w : World) :
    Calls Tryz.prog 137 #[.int .i64 n] w fun e w' => e = .returned (.tuple #[.string (Utf8.encode n), .bool true]) ∧ w = w' := by
  unfold IsRune at hr; have h1 : ¬ ((n : Int) < 0) := by omega
  have h2 : ¬ ((1114111 : Int) < n) := by omega
  have hw := wrap32 n (by omega) (by omega); have hv : Lib.validRune (n : Int) = true := by unfold Lib.validRune; simp only [decide_eq_true_eq]; omega
  have hV := fun W => utf8_ValidRune (n : Int) W
  rw [hv] at hV; have HV := hid hV; have hC := conv_rune (n : Int); generalize Utf8.encode (n : Int) = s at *
  clear hr hv hV; go_enter Tryz.func137, Tryz.ntmps137; (go_wp2_with fail); refine (HV.out _).mono ?_; rintro e w' ⟨rfl, rfl⟩; go_wp2; go_ret2; exact ⟨rfl, rfl⟩
theorem put_no (r : Int) (hr : r < 0 ∨ 1114111 < r ∨ (55296 ≤ r ∧ r ≤ 57343)) (w : World) :
    Calls Tryz.prog 137 #[.int .i64 r] w fun e w' => e = .returned (.tuple #[.string ⟨#[]⟩, .bool false]) ∧ w = w' := by
  by_cases h1 : r < 0
  · clear hr
    go_enter Tryz.func137, Tryz.ntmps137; go_wp2; go_ret2; exact ⟨rfl, rfl⟩
  by_cases h2 : (1114111 : Int) < r
  · clear hr
    go_enter Tryz.func137, Tryz.ntmps137; go_wp2; go_ret2; exact ⟨rfl, rfl⟩
  have hw := wrap32 r (by omega) (by omega); have hv : Lib.validRune r = false := by unfold Lib.validRune; simp only [decide_eq_false_iff_not]; omega
  have hV := fun W => utf8_ValidRune r W
  rw [hv] at hV; have HV := hid hV; clear hr hv hV; go_enter Tryz.func137, Tryz.ntmps137; (go_wp2_with fail); refine (HV.out _).mono ?_; rintro e w' ⟨rfl, rfl⟩; go_wp2; go_ret2; exact ⟨rfl, rfl⟩
end
section
open Go.RowKit
open Go.Lib
def errI : Ins → Nat
  | .bad true => 9
  | .bad false => 2
  | _ => 0
def seenI : Ins → Nat
  | .back => 1
  | .hex k _ => k + 2
  | .high _ k _ => k
  | _ => 0
def codeI : Ins → Nat
  | .hex _ v => v
  | .high _ _ w => w
  | _ => 0
def highI : Ins → Nat
  | .high h _ _ => h
  | _ => 0
def utfI : Ins → Option (Nat × Nat × Nat)
  | .text n lo hi => some (n, lo, hi)
  | _ => st0
def WfI : Ins → Prop
  | .text n lo hi => n ≤ 3 ∧ Conts (some (n, lo, hi))
  | .back => True
  | .hex k v => k ≤ 3 ∧ v < 16 ^ k
  | .high h k w => 55296 ≤ h ∧ h ≤ 56319 ∧ (k ≤ 2 ∧ w = 0 ∨ k = 3 ∧ w = 13 ∨ k = 4 ∧ 220 ≤ w ∧ w ≤ 223 ∨ k = 5 ∧ 3520 ≤ w ∧ w ≤ 3583)
  | .bad _ => True
theorem At.tail {w : World} {b o : Nat} {v0 v1 v2 : Value} (h : At w b (o + 5) [v0, v1, v2]) :
    (w.cell? ⟨b, o + 5, none⟩ = some v0 ∧ w.frozen? ⟨b, o + 5, none⟩ = false) ∧ (w.cell? ⟨b, o + 6, none⟩ = some v1 ∧ w.frozen? ⟨b, o + 6, none⟩ = false) ∧
    (w.cell? ⟨b, o + 7, none⟩ = some v2 ∧ w.frozen? ⟨b, o + 7, none⟩ = false) := ⟨h 0 v0 rfl, h 1 v1 rfl, h 2 v2 rfl⟩
abbrev tail3 (s c h : Nat) : List Value := [.int .i64 s, .int .i64 c, .int .i64 h]
def EndPost (w : World) (b o c : Nat) (w' : World) : Prop := At w' b (o + 5) (tail3 0 0 c) ∧ Sub b (o + 5) 3 w w'
theorem three_set {w : World} {b o s c h : Nat} (h0 : At w b (o + 5) (tail3 s c h)) (q : Nat) :
    At ((((w.drewN q).setCell ⟨b, o + 5, none⟩ (.int .i64 0)).setCell ⟨b, o + 6, none⟩ (.int .i64 0)).setCell ⟨b, o + 7, none⟩ (.int .i64 0)) b (o + 5) (tail3 0 0 0) ∧
    Sub b (o + 5) 3 w ((((w.drewN q).setCell ⟨b, o + 5, none⟩ (.int .i64 0)).setCell ⟨b, o + 6, none⟩ (.int .i64 0)).setCell ⟨b, o + 7, none⟩ (.int .i64 0)) := by
  have a0 : At (w.drewN q) b (o + 5) (tail3 s c h) := h0; have e1 := a0.set 0 (by simp) (.int .i64 0); have e2 := e1.set 1 (by simp) (.int .i64 0); have e3 := e2.set 2 (by simp) (.int .i64 0); exact ⟨e3, ((((Sub.refl b (o + 5) 3 w).drewN q).setCell (o + 5) _ (by omega)).setCell (o + 6) _ (by omega)).setCell (o + 7) _ (by omega)⟩
theorem end_rune (w : World) (b o s c : Nat) (hr : IsRune c) (h : At w b (o + 5) (tail3 s c 0)) :
    Calls Tryz.prog 133 #[.pointer (some ⟨b, o, none⟩)] w fun e w' => e = .returned (.tuple #[.string ⟨(encL c).toArray⟩, .int .i64 0]) ∧ EndPost w b o 0 w' := by
  obtain ⟨⟨hc0, hf0⟩, ⟨hc1, hf1⟩, hc2', hf2⟩ := h.tail; have hc2 : w.cell? ⟨b, o + 7, none⟩ = some (.int .i64 0) := hc2'; clear hc2'; have HP := hid (three_set h); have hP := hid (put_ok c hr); have hE := enc_list c; have HR := hid (show ((55296 : Int) ≤ c) = False ∨ (((55296 : Int) ≤ c) = True ∧ ((c : Int) < 56320) = False) by unfold IsRune at hr; simp only [eq_iff_iff, iff_false, iff_true]; omega); clear h hr; rw [hE]; clear hE; generalize Utf8.encode (c : Int) = x at *
  go_enter Tryz.func133, Tryz.ntmps133; (go_wp2_with fail)
  go_quiet (fail)
  rcases HR.out with h1 | ⟨h1, h2⟩
  · go_wp2_with fail
    refine (hP.out _).mono ?_; rintro e w' ⟨rfl, rfl⟩; go_wp2; go_ret2; exact ⟨rfl, HP.out _⟩
  · go_wp2_with fail
    refine (hP.out _).mono ?_; rintro e w' ⟨rfl, rfl⟩; go_wp2; go_ret2; exact ⟨rfl, HP.out _⟩
theorem end_sur (w : World) (b o s c : Nat) (hr : 55296 ≤ c ∧ c < 56320) (h : At w b (o + 5) (tail3 s c 0)) :
    Calls Tryz.prog 133 #[.pointer (some ⟨b, o, none⟩)] w fun e w' => e = .returned (.tuple #[.string ⟨#[]⟩, .int .i64 0]) ∧ EndPost w b o c w' := by
  obtain ⟨⟨hc0, hf0⟩, ⟨hc1, hf1⟩, hc2', hf2⟩ := h.tail; have hc2 : w.cell? ⟨b, o + 7, none⟩ = some (.int .i64 0) := hc2'; clear hc2'; have HP := hid (fun q => And.intro ((three_set h q).1.set 2 (by simp) (.int .i64 c)) ((three_set h q).2.setCell (o + 7) (.int .i64 c) (by omega))); have h1 : ((55296 : Int) ≤ c) = True := by simp only [eq_iff_iff, iff_true]; omega
  have h2 : ((c : Int) < 56320) = True := by simp only [eq_iff_iff, iff_true]; omega
  clear h hr; go_enter Tryz.func133, Tryz.ntmps133; (go_wp2_with fail)
  go_quiet (fail)
  go_wp2; go_ret2; exact ⟨rfl, HP.out _⟩
theorem end_low (w : World) (b o s c : Nat) (hr : 56320 ≤ c ∧ c ≤ 57343) (h : At w b (o + 5) (tail3 s c 0)) :
    Calls Tryz.prog 133 #[.pointer (some ⟨b, o, none⟩)] w fun e w' => e = .returned (.tuple #[.string ⟨#[]⟩, .int .i64 9]) ∧ EndPost w b o 0 w' := by
  obtain ⟨⟨hc0, hf0⟩, ⟨hc1, hf1⟩, hc2', hf2⟩ := h.tail; have hc2 : w.cell? ⟨b, o + 7, none⟩ = some (.int .i64 0) := hc2'; clear hc2'; have HP := hid (three_set h); have hP := hid (put_no (c : Int) (.inr (.inr (by omega)))); have h1 : ((55296 : Int) ≤ c) = True := by simp only [eq_iff_iff, iff_true]; omega
  have h2 : ((c : Int) < 56320) = False := by simp only [eq_iff_iff, iff_false]; omega
  clear h hr; go_enter Tryz.func133, Tryz.ntmps133; (go_wp2_with fail)
  go_quiet (fail)
  (go_wp2_with fail); refine (hP.out _).mono ?_; rintro e w' ⟨rfl, rfl⟩; go_wp2; go_ret2; exact ⟨rfl, HP.out _⟩
theorem pair_rune {h c : Nat} (hh : 55296 ≤ h ∧ h ≤ 56319) (hc : 56320 ≤ c ∧ c ≤ 57343) : IsRune (pairN h c) := by
  unfold IsRune pairN; omega
theorem end_pair (w : World) (b o s c hi : Nat) (hh : 55296 ≤ hi ∧ hi ≤ 56319) (hr : 56320 ≤ c ∧ c ≤ 57343) (h : At w b (o + 5) (tail3 s c hi)) :
    Calls Tryz.prog 133 #[.pointer (some ⟨b, o, none⟩)] w fun e w' => e = .returned (.tuple #[.string ⟨(encL (pairN hi c)).toArray⟩, .int .i64 0]) ∧ EndPost w b o 0 w' := by
  obtain ⟨⟨hc0, hf0⟩, ⟨hc1, hf1⟩, hc2, hf2⟩ := h.tail; have HP := hid (three_set h); have hP0 := put_ok (pairN hi c) (pair_rune hh hr); have hE := enc_list (pairN hi c); have hz : ((hi : Int) == 0) = false := by rw [beq_eq_false_iff_ne]; omega
  rw [hE]; clear hE; have hv : ((pairN hi c : Nat) : Int) = (65536 : Int) + ((hi : Int) - 55296) * 1024 + (c : Int) - 56320 := by unfold pairN; omega
  generalize hx : Utf8.encode ((pairN hi c : Nat) : Int) = x at *
  rw [hv] at hP0; have hP := hid hP0; clear h hv hP0 hx; go_enter Tryz.func133, Tryz.ntmps133; (go_wp2_with fail)
  go_quiet (fail)
  (go_wp2_with fail); refine (hP.out _).mono ?_; rintro e w' ⟨rfl, rfl⟩; go_wp2; go_ret2; exact ⟨rfl, HP.out _⟩
end
section
open Go.RowKit
open Go.Lib
theorem bits_or_i64 (a b : Nat) (ha : a < 4611686018427387904) (hb : b < 4611686018427387904) : bits .or .i64 (a : Int) (b : Int) = ((a ||| b : Nat) : Int) := by
  have hx : a ||| b < 2 ^ 62 := Nat.or_lt_two_pow (by omega) (by omega)
  have h1 : (BitVec.ofInt 64 (a : Int)).toNat = a := by
    rw [BitVec.ofInt_natCast, BitVec.toNat_ofNat]; exact Nat.mod_eq_of_lt (by omega)
  have h2 : (BitVec.ofInt 64 (b : Int)).toNat = b := by
    rw [BitVec.ofInt_natCast, BitVec.toNat_ofNat]; exact Nat.mod_eq_of_lt (by omega)
  show IntKind.i64.wrap ((BitVec.ofInt 64 (a : Int) ||| BitVec.ofInt 64 (b : Int)).toNat : Int) = _; rw [BitVec.toNat_or, h1, h2, IntKind.wrap_i64]; omega
theorem or16 (v d : Nat) (hv : v < 65536) (hd : d < 16) : bits .or .i64 ((v : Int) * 16) (d : Int) = (v : Int) * 16 + d := by
  have h1 := bits_or_i64 (v * 16) d (by omega) (by omega); have h2 := Nat.two_pow_add_eq_or_of_lt (i := 4) (b := d) (by omega) v; rw [show v * 16 = 2 ^ 4 * v by omega, ← h2] at h1; rw [show (v : Int) * 16 = ((2 ^ 4 * v : Nat) : Int) by omega, h1]; omega
theorem digit_no (w : World) (b o x : Nat) (hx : hexV x = none) :
    Calls Tryz.prog 126 #[.pointer (some ⟨b, o, none⟩), .int .u8 x] w fun e w' => e = .returned (.tuple #[.string ⟨#[]⟩, .int .i64 2]) ∧ w = w' := by
  have hH := hexDigit_any x; have he : hexR x = (0, false) := by unfold hexR; rw [hx]
  rw [he] at hH; have HH := hid hH; clear hH he hx; go_enter Tryz.func126, Tryz.ntmps126; (go_wp2_with fail); refine (HH.out _).mono ?_; rintro e w' ⟨rfl, rfl⟩; go_wp2; go_ret2; exact ⟨rfl, rfl⟩
theorem two_set {w : World} {b o s c h : Nat} (h0 : At w b (o + 5) (tail3 s c h)) (c' s' : Int) :
    At ((w.setCell ⟨b, o + 6, none⟩ (.int .i64 c')).setCell ⟨b, o + 5, none⟩ (.int .i64 s')) b (o + 5) [.int .i64 s', .int .i64 c', .int .i64 h] ∧
    Sub b (o + 5) 3 w ((w.setCell ⟨b, o + 6, none⟩ (.int .i64 c')).setCell ⟨b, o + 5, none⟩ (.int .i64 s')) := by
  have e1 := h0.set 1 (by simp) (.int .i64 c'); have e2 := e1.set 0 (by simp) (.int .i64 s'); exact ⟨e2, (sub_setCell w (o + 6) _ (by omega)).setCell (o + 5) _ (by omega)⟩
theorem digit_mid (w : World) (b o n v hi x d : Nat) (hx : hexV x = some d) (hn : n < 5) (hv : v < 65536) (h : At w b (o + 5) (tail3 n v hi)) :
    Calls Tryz.prog 126 #[.pointer (some ⟨b, o, none⟩), .int .u8 x] w fun e w' => e = .returned (.tuple #[.string ⟨#[]⟩, .int .i64 0]) ∧ At w' b (o + 5) (tail3 (n + 1) (v * 16 + d) hi) ∧ Sub b (o + 5) 3 w w' := by
  obtain ⟨⟨hc0, hf0⟩, ⟨hc1, hf1⟩, hc2, hf2⟩ := h.tail; have hH := hexDigit_any x; have he : hexR x = (d, true) := by unfold hexR; rw [hx]
  rw [he] at hH; have HH := hid hH; have hd := (hexV_lt hx).1; have hor := or16 v d hv hd; have hP := two_set h ((v : Int) * 16 + d) ((n : Int) + 1); have HP := hid hP; have hlt : ((n : Int) + 1 < 6) = True := by simp only [eq_iff_iff, iff_true]; omega
  clear hH he hx h hP; go_enter Tryz.func126, Tryz.ntmps126; (go_wp2_with fail); refine (HH.out _).mono ?_; rintro e w' ⟨rfl, rfl⟩; go_wp2; go_ret2; refine ⟨rfl, ?_, HP.out.2⟩; have := HP.out.1; unfold tail3; rw [show ((n + 1 : Nat) : Int) = (n : Int) + 1 by omega, show ((v * 16 + d : Nat) : Int) = (v : Int) * 16 + d by omega]; exact this
theorem digit_end (w : World) (b o v hi x d c : Nat) (R : Value × Value) (hx : hexV x = some d) (hv : v < 65536) (h : At w b (o + 5) (tail3 5 v hi))
    (hE : ∀ w1 : World, At w1 b (o + 5) (tail3 6 (v * 16 + d) hi) → Calls Tryz.prog 133 #[.pointer (some ⟨b, o, none⟩)] w1 fun e w' => e = .returned (.tuple #[R.1, R.2]) ∧ EndPost w1 b o c w') :
    Calls Tryz.prog 126 #[.pointer (some ⟨b, o, none⟩), .int .u8 x] w fun e w' => e = .returned (.tuple #[R.1, R.2]) ∧ EndPost w b o c w' := by
  obtain ⟨⟨hc0', hf0⟩, ⟨hc1, hf1⟩, hc2, hf2⟩ := h.tail; have hc0 : w.cell? ⟨b, o + 5, none⟩ = some (.int .i64 5) := hc0'; clear hc0'; obtain ⟨R1, R2⟩ := R; simp only [] at hE ⊢; have hH := hexDigit_any x; have he : hexR x = (d, true) := by unfold hexR; rw [hx]
  rw [he] at hH; have HH := hid hH; have hd := (hexV_lt hx).1; have hor := or16 v d hv hd; have hP := two_set h ((v : Int) * 16 + d) 6; have hA := hE _ (by
    unfold tail3; rw [show ((v * 16 + d : Nat) : Int) = (v : Int) * 16 + d by omega]; exact hP.1)
  have HE := hid hA; have HP := hid hP.2; clear hH he hx h hP hE hA; go_enter Tryz.func126, Tryz.ntmps126; (go_wp2_with fail); refine (HH.out _).mono ?_; rintro e w' ⟨rfl, rfl⟩; (go_wp2_with fail); refine HE.out.mono ?_; rintro e w' ⟨rfl, hp⟩; go_wp2; go_ret2; exact ⟨rfl, hp.1, HP.out.trans hp.2⟩
theorem one_set {w : World} {b o s c h : Nat} (h0 : At w b (o + 5) (tail3 s c h)) (s' : Int) :
    At (w.setCell ⟨b, o + 5, none⟩ (.int .i64 s')) b (o + 5) [.int .i64 s', .int .i64 c, .int .i64 h] ∧ Sub b (o + 5) 3 w (w.setCell ⟨b, o + 5, none⟩ (.int .i64 s')) :=
  ⟨h0.set 0 (by simp) (.int .i64 s'), sub_setCell w (o + 5) _ (by omega)⟩
theorem open_u (w : World) (b o s c hi : Nat) (h : At w b (o + 5) (tail3 s c hi)) :
    Calls Tryz.prog 125 #[.pointer (some ⟨b, o, none⟩), .int .u8 117] w fun e w' => e = .returned (.tuple #[.string ⟨#[]⟩, .int .i64 0]) ∧ At w' b (o + 5) (tail3 2 c hi) ∧ Sub b (o + 5) 3 w w' := by
  obtain ⟨⟨hc0, hf0⟩, ⟨hc1, hf1⟩, hc2, hf2⟩ := h.tail; have HP := hid (one_set h 2); clear h; go_enter Tryz.func125, Tryz.ntmps125; go_wp2; go_ret2; exact ⟨rfl, HP.out⟩
theorem open_short (w : World) (b o s c hi x y : Nat) (hx : shortOf x = some y) (h : At w b (o + 5) (tail3 s c hi)) :
    Calls Tryz.prog 125 #[.pointer (some ⟨b, o, none⟩), .int .u8 x] w fun e w' => e = .returned (.tuple #[.string ⟨#[UInt8.ofNat y]⟩, .int .i64 0]) ∧ At w' b (o + 5) (tail3 0 c hi) ∧ Sub b (o + 5) 3 w w' := by
  obtain ⟨⟨hc0, hf0⟩, ⟨hc1, hf1⟩, hc2, hf2⟩ := h.tail; have HP := hid (one_set h 0); have hM := meant_any x; have he : shortL x = [UInt8.ofNat y] := by unfold shortL; rw [hx]
  rw [he] at hM; have h117 : ((x : Int) == 117) = false := by
    rw [beq_eq_false_iff_ne]; intro e; have : x = 117 := by omega
    subst this; rw [show shortOf 117 = none by decide] at hx; cases hx
  have HM := hid hM; obtain ⟨z, hz⟩ : ∃ z : ByteArray, z = ⟨#[UInt8.ofNat y]⟩ := ⟨_, rfl⟩
  have hz1 : z.toList = [UInt8.ofNat y] := by rw [hz, ByteArray.toList_eq]
  have hz2 : z.toList.isEmpty = false := by rw [hz1]; rfl
  have hz3 : (z.toList = []) = False := by rw [hz1]; simp
  have HM' : Hid (∀ w, Calls Tryz.prog 132 #[.int .u8 x] w fun e w' => e = .returned (.string z) ∧ w = w') := hid (by rw [hz]; exact HM.out); rw [← hz]; clear h hM he hx HM hz hz1; go_enter Tryz.func125, Tryz.ntmps125; (go_wp2_with fail); refine (HM'.out _).mono ?_; rintro e w' ⟨rfl, rfl⟩; go_wp2; go_ret2; exact ⟨rfl, HP.out⟩
theorem open_no (w : World) (b o x : Nat) (hx : shortOf x = none) (hu : x ≠ 117) :
    Calls Tryz.prog 125 #[.pointer (some ⟨b, o, none⟩), .int .u8 x] w fun e w' => e = .returned (.tuple #[.string ⟨#[]⟩, .int .i64 2]) ∧ w = w' := by
  have hM := meant_any x; have he : shortL x = [] := by unfold shortL; rw [hx]
  rw [he] at hM; have h117 : ((x : Int) == 117) = false := by rw [beq_eq_false_iff_ne]; omega
  have HM := hid hM; clear hM he hx hu; go_enter Tryz.func125, Tryz.ntmps125; (go_wp2_with fail); refine (HM.out _).mono ?_; rintro e w' ⟨rfl, rfl⟩; go_wp2; go_ret2; exact ⟨rfl, rfl⟩
end
section
open Go.RowKit
open Go.Lib
def TPost (w : World) (b o : Nat) (s : Ins) (w' : World) : Prop := Sub b (o + 1) 7 w w' ∧ (errI s = 0 → WfI s ∧ CAt w' b (o + 1) (utfI s) ∧ At w' b (o + 5) (tail3 (seenI s) (codeI s) (highI s)))
theorem At.zeros {w : World} {b o s c h : Nat} (hT : At w b (o + 5) (tail3 s c h)) (s' c' h' : Int) (e1 : s' = s) (e2 : c' = c) (e3 : h' = h) :
    (w.cell? ⟨b, o + 5, none⟩ = some (.int .i64 s') ∧ w.frozen? ⟨b, o + 5, none⟩ = false) ∧ (w.cell? ⟨b, o + 6, none⟩ = some (.int .i64 c') ∧ w.frozen? ⟨b, o + 6, none⟩ = false) ∧
    (w.cell? ⟨b, o + 7, none⟩ = some (.int .i64 h') ∧ w.frozen? ⟨b, o + 7, none⟩ = false) := by
  subst e1 e2 e3; exact hT.tail
theorem tpost_bad {w w' : World} {b o n : Nat} {u : Bool} (h : Sub b (o + 1) n w w') (hn : n ≤ 7) : TPost w b o (.bad u) w' :=
  ⟨h.widen (Nat.le_refl _) (by omega), fun he => by cases u <;> cases he⟩
theorem tpost_ref {w : World} {b o : Nat} {u : Bool} : TPost w b o (.bad u) w := tpost_bad (n := 0) (Sub.refl _ _ _ _) (by omega)
theorem u8z (x : UInt8) (k : Nat) (h : x.toNat ≠ k) : (((x.toNat : Nat) : Int) == (k : Int)) = false := by rw [beq_eq_false_iff_ne]; omega
theorem CAt.alloc {w : World} {b o : Nat} {s : Option (Nat × Nat × Nat)} (h : CAt w b o s) (x : Obj) : CAt (w.alloc x) b o s := h.map fun vs hv h => h.alloc (by intro e; rw [e] at hv; simp at hv) x
theorem take_text (w : World) (b o n lo hi : Nat) (hW : WfI (.text n lo hi)) (hC : CAt w b (o + 1) (some (n, lo, hi))) (hT : At w b (o + 5) (tail3 0 0 0)) (x : UInt8) :
    Calls Tryz.prog 120 #[.pointer (some ⟨b, o, none⟩), .int .u8 x.toNat] w fun e w' =>
      e = .returned (.tuple #[.string ⟨(stepI (.text n lo hi) x).2.toArray⟩, .int .i64 (errI (stepI (.text n lo hi) x).1)]) ∧ TPost w b o (stepI (.text n lo hi) x).1 w' := by
  obtain ⟨⟨hc0, hf0⟩, ⟨hc1, hf1⟩, hc2, hf2⟩ := hT.zeros 0 0 0 rfl rfl rfl; by_cases hq : x.toNat = 34 ∨ x.toNat < 32
  · have hs : stepI (.text n lo hi) x = (.bad false, []) := by simp only [stepI]; rw [if_pos hq]
    rw [hs]; have HP : Hid (TPost w b o (.bad false) w) := hid tpost_ref; simp only [errI]; clear hs hC hT hW; by_cases h32 : x.toNat < 32
    · have g : (((x.toNat : Nat) : Int) < 32) = True := by simp only [eq_iff_iff, iff_true]; omega
      clear hq h32; go_enter Tryz.func120, Tryz.ntmps120; go_wp2; go_ret2; exact ⟨rfl, HP.out⟩
    · have g : (((x.toNat : Nat) : Int) < 32) = False := by simp only [eq_iff_iff, iff_false]; omega
      have g2 : (((x.toNat : Nat) : Int) == 34) = true := by rw [beq_iff_eq]; omega
      clear hq h32; go_enter Tryz.func120, Tryz.ntmps120; go_wp2; go_ret2; exact ⟨rfl, HP.out⟩
  have g : (((x.toNat : Nat) : Int) < 32) = False := by simp only [eq_iff_iff, iff_false]; omega
  have g2 : (((x.toNat : Nat) : Int) == 34) = false := u8z x 34 (by omega); have hS := step_at hC x; have HT := hid hT; cases hp : stepS (some (n, lo, hi)) x with
  | none =>
    have h92 : ¬ (n = 0 ∧ x.toNat = 92) := by
      rintro ⟨rfl, h⟩; have : stepS (some (0, lo, hi)) x = some (0, 0, 0) := by simp [stepS, openS, h]
      rw [this] at hp; cases hp
    have hs : stepI (.text n lo hi) x = (.bad true, []) := by simp only [stepI]; rw [if_neg hq, if_neg h92, hp]
    rw [hs]; rw [hp] at hS; have HS := hid hS; simp only [errI]; clear hS hs hp hC hT hW hq h92; go_enter Tryz.func120, Tryz.ntmps120; (go_wp2_with fail); refine HS.out.mono ?_; rintro e w' ⟨rfl, hp⟩; have HP : Hid (TPost w b o (.bad true) w') := hid (tpost_bad hp.2 (by omega)); simp only [Option.isSome]; clear hp; go_wp2; go_ret2; exact ⟨rfl, HP.out⟩
  | some p =>
    obtain ⟨m, lo', hi'⟩ := p; rw [hp] at hS; have HS := hid hS; by_cases h92 : x.toNat = 92
    · have hn : n = 0 := by
        cases n with
        | zero => rfl
        | succ n =>
          have := hW.2.1; simp only [stepS] at hp; rw [if_pos (by omega)] at hp; cases hp
      subst hn; have hs : stepI (.text 0 lo hi) x = (.back, []) := by simp only [stepI]; rw [if_neg hq, if_pos ⟨trivial, h92⟩]
      have e0 : stepS (some (0, lo, hi)) x = some (0, 0, 0) := by simp [stepS, openS, h92]
      rw [e0] at hp
      injection hp with hp
      injection hp with hp1 hp2
      injection hp2 with hp2 hp3
      subst hp1 hp2 hp3; rw [hs]; have g3 : (((x.toNat : Nat) : Int) == 92) = true := by rw [beq_iff_eq]; omega
      simp only [errI]; clear hS hs hC hT hW hq h92 e0; go_enter Tryz.func120, Tryz.ntmps120; (go_wp2_with fail); refine HS.out.mono ?_; rintro e w' ⟨rfl, hp⟩; simp only [Option.isSome]; have hT' := HT.out.sub hp.2 (.inr (by omega)); obtain ⟨⟨hd0, he0⟩, ⟨hd1, he1⟩, hd2, he2⟩ := hT'.zeros 0 0 0 rfl rfl rfl; have HP : Hid (TPost w b o .back (w'.setCell ⟨b, o + 5, none⟩ (.int .i64 1))) := hid
        ⟨(hp.2.widen (Nat.le_refl _) (by omega)).trans ((one_set hT' 1).2.widen (by omega) (by omega)), fun _ => ⟨trivial, hp.1.sub (one_set hT' 1).2 (.inl (by omega)), (one_set hT' 1).1⟩⟩
      clear hp hT'; go_wp2; go_ret2; exact ⟨rfl, HP.out⟩
    · have hs : stepI (.text n lo hi) x = (.text m lo' hi', [x]) := by simp only [stepI]; rw [if_neg hq, if_neg (fun h => h92 h.2), hp]
      have hm : WfI (.text m lo' hi') := by
        refine ⟨?_, ?_⟩
        · cases n with
          | zero =>
            by_cases hb : x.toNat < 128
            · have : openS x.toNat = some (0, 0, 0) := by unfold openS; rw [if_pos hb]
              have hp' : openS x.toNat = some (m, lo', hi') := hp; rw [this] at hp'
              injection hp' with hp'
              injection hp' with hp' _
              omega
            · have := openS_pos x.toNat m lo' hi' hp (by omega)
              omega
          | succ n =>
            have := hW.1; simp only [stepS] at hp; split at hp
            · cases hp
            · split at hp
              · injection hp with hp
                injection hp with hp _
                omega
              · injection hp with hp
                injection hp with hp _
                omega
        · have := conts_step _ x hW.2
          rw [hp] at this; exact this
      rw [hs]; have g3 : (((x.toNat : Nat) : Int) == 92) = false := u8z x 92 h92; have HM := hid hm; have HL := hid hC.lt; have hcv : ∀ W : World, (convert 51 9 (.slice (some ⟨W.heap.size, 0, none⟩) 1 1)).run Tryz.prog (W.alloc (.cells #[.int .u8 x.toNat] 5)) = .ok (.string ⟨[x].toArray⟩) (W.alloc (.cells #[.int .u8 x.toNat] 5)) :=
        fun W => conv_new W [x] _ 1 rfl rfl _ rfl
      simp only [errI]; obtain ⟨z, hz⟩ : ∃ z : ByteArray, z = ⟨[x].toArray⟩ := ⟨_, rfl⟩
      rw [← hz] at hcv ⊢; clear hS hs hp hC hT hW hq h92 hm hz; go_enter Tryz.func120, Tryz.ntmps120; (go_wp2_with fail); refine HS.out.mono ?_; rintro e w' ⟨rfl, hp⟩; simp only [Option.isSome]; have hT' := HT.out.sub hp.2 (.inr (by omega)); obtain ⟨⟨hd0, he0⟩, ⟨hd1, he1⟩, hd2, he2⟩ := hT'.zeros 0 0 0 rfl rfl rfl; have HP : Hid (TPost w b o (.text m lo' hi') (w'.alloc (.cells #[.int .u8 x.toNat] 5))) := hid
        ⟨(hp.2.widen (Nat.le_refl _) (by omega)).alloc _ HL.out, fun _ => ⟨HM.out, hp.1.alloc _, hT'.alloc (by simp) _⟩⟩
      have hcw := hcv w'; clear hp hT' hcv; go_wp2; go_ret2; exact ⟨rfl, HP.out⟩
theorem short_lt {x y : Nat} (h : shortOf x = some y) : x < 128 ∧ 32 ≤ x := by
  unfold shortOf at h
  repeat' split at h
  all_goals first | omega | (cases h)
theorem step0 (x : UInt8) : stepS st0 x = openS x.toNat := rfl
theorem open_low {n : Nat} (h : n < 128) : openS n = some (0, 0, 0) := by unfold openS; rw [if_pos h]
theorem take_back (w : World) (b o : Nat) (hC : CAt w b (o + 1) st0) (hT : At w b (o + 5) (tail3 1 0 0)) (x : UInt8) :
    Calls Tryz.prog 120 #[.pointer (some ⟨b, o, none⟩), .int .u8 x.toNat] w fun e w' =>
      e = .returned (.tuple #[.string ⟨(stepI .back x).2.toArray⟩, .int .i64 (errI (stepI .back x).1)]) ∧ TPost w b o (stepI .back x).1 w' := by
  obtain ⟨⟨hc0, hf0⟩, ⟨hc1, hf1⟩, hc2, hf2⟩ := hT.zeros 1 0 0 rfl rfl rfl; by_cases h32 : x.toNat < 32
  · have hs : stepI .back x = (.bad false, []) := by
      have h1 : shortOf x.toNat = none := by
        cases h : shortOf x.toNat with
        | none => rfl
        | some y => have := short_lt h; omega
      simp only [stepI, h1]; rw [if_neg (by omega), open_low (by omega)]; rfl
    rw [hs]; have HP : Hid (TPost w b o (.bad false) w) := hid tpost_ref; simp only [errI]; have g : (((x.toNat : Nat) : Int) < 32) = True := by simp only [eq_iff_iff, iff_true]; omega
    clear hs hC hT h32; go_enter Tryz.func120, Tryz.ntmps120; go_wp2; go_ret2; exact ⟨rfl, HP.out⟩
  have g : (((x.toNat : Nat) : Int) < 32) = False := by simp only [eq_iff_iff, iff_false]; omega
  have hS := step_at hC x; rw [step0] at hS; have HT := hid hT; cases hp : openS x.toNat with
  | none =>
    have hx : ¬ x.toNat < 128 := fun h => by rw [open_low h] at hp; cases hp
    have hs : stepI .back x = (.bad true, []) := by
      have h1 : shortOf x.toNat = none := by
        cases h : shortOf x.toNat with
        | none => rfl
        | some y => have := short_lt h; omega
      simp only [stepI, h1, hp]; rw [if_neg (by omega)]; rfl
    rw [hs]; rw [hp] at hS; have HS := hid hS; have g2 : (((x.toNat : Nat) : Int) == 34) = false := u8z x 34 (by omega); simp only [errI]; clear hS hs hp hC hT h32 hx; go_enter Tryz.func120, Tryz.ntmps120; (go_wp2_with fail); refine HS.out.mono ?_; rintro e w' ⟨rfl, hp⟩; have HP : Hid (TPost w b o (.bad true) w') := hid (tpost_bad hp.2 (by omega)); simp only [Option.isSome]; clear hp; go_wp2; go_ret2; exact ⟨rfl, HP.out⟩
  | some p =>
    rw [hp] at hS; have HS := hid hS; by_cases hu : x.toNat = 117
    · have hs : stepI .back x = (.hex 0 0, []) := by
        simp only [stepI, hu]; rw [show shortOf 117 = none by decide]; rfl
      rw [open_low (by omega)] at hp; cases hp; rw [hs]; have g3 : ((x.toNat : Nat) : Int) = 117 := by omega
      simp only [errI]; rw [g3] at HS g ⊢; clear hS hs hC hT hu h32 g3; go_enter Tryz.func120, Tryz.ntmps120; (go_wp2_with fail); refine HS.out.mono ?_; rintro e w' ⟨rfl, hp⟩; simp only [Option.isSome]; have hT' := HT.out.sub hp.2 (.inr (by omega)); obtain ⟨⟨hd0, he0⟩, ⟨hd1, he1⟩, hd2, he2⟩ := hT'.zeros 1 0 0 rfl rfl rfl; have HO := hid (open_u w' b o 1 0 0 hT'); have HP := hid hp; clear hp hT'; (go_wp2_with fail); refine HO.out.mono ?_; rintro e w2 ⟨rfl, a2, s2⟩; go_wp2; go_ret2; exact ⟨rfl, (HP.out.2.widen (Nat.le_refl _) (by omega)).trans (s2.widen (by omega) (by omega)), fun _ => ⟨⟨by omega, by decide⟩, HP.out.1.sub s2 (.inl (by omega)), a2⟩⟩
    · cases hm : shortOf x.toNat with
      | some y =>
        have hs : stepI .back x = (insT, [UInt8.ofNat y]) := by simp only [stepI, hm]
        rw [open_low (short_lt hm).1] at hp; cases hp; rw [hs]; have hO := fun w' => open_short w' b o 1 0 0 x.toNat y hm
        have HO := hid hO; obtain ⟨z, hz⟩ : ∃ z : ByteArray, z = ⟨#[UInt8.ofNat y]⟩ := ⟨_, rfl⟩
        simp only [errI, insT]; rw [show (⟨[UInt8.ofNat y].toArray⟩ : ByteArray) = z from hz.symm]; rw [← hz] at HO; by_cases h34 : x.toNat = 34
        · have g3 : ((x.toNat : Nat) : Int) = 34 := by omega
          rw [g3] at HS g HO ⊢; clear hS hs hC hT hu h32 hO hz hm h34 g3; go_enter Tryz.func120, Tryz.ntmps120; (go_wp2_with fail); refine HS.out.mono ?_; rintro e w' ⟨rfl, hp⟩; simp only [Option.isSome]; have hT' := HT.out.sub hp.2 (.inr (by omega)); obtain ⟨⟨hd0, he0⟩, ⟨hd1, he1⟩, hd2, he2⟩ := hT'.zeros 1 0 0 rfl rfl rfl; have HO' := hid (HO.out w' hT'); have HP := hid hp; clear hp hT'; (go_wp2_with fail); refine HO'.out.mono ?_; rintro e w2 ⟨rfl, a2, s2⟩; go_wp2; go_ret2; exact ⟨rfl, (HP.out.2.widen (Nat.le_refl _) (by omega)).trans (s2.widen (by omega) (by omega)), fun _ => ⟨⟨by omega, rfl, rfl⟩, HP.out.1.sub s2 (.inl (by omega)), a2⟩⟩
        · have g2 : (((x.toNat : Nat) : Int) == 34) = false := u8z x 34 h34
          clear hS hs hC hT hu h32 hO hz hm h34; go_enter Tryz.func120, Tryz.ntmps120; (go_wp2_with fail); refine HS.out.mono ?_; rintro e w' ⟨rfl, hp⟩; simp only [Option.isSome]; have hT' := HT.out.sub hp.2 (.inr (by omega)); obtain ⟨⟨hd0, he0⟩, ⟨hd1, he1⟩, hd2, he2⟩ := hT'.zeros 1 0 0 rfl rfl rfl; have HO' := hid (HO.out w' hT'); have HP := hid hp; clear hp hT'; (go_wp2_with fail); refine HO'.out.mono ?_; rintro e w2 ⟨rfl, a2, s2⟩; go_wp2; go_ret2; exact ⟨rfl, (HP.out.2.widen (Nat.le_refl _) (by omega)).trans (s2.widen (by omega) (by omega)), fun _ => ⟨⟨by omega, rfl, rfl⟩, HP.out.1.sub s2 (.inl (by omega)), a2⟩⟩
      | none =>
        have h34 : x.toNat ≠ 34 := fun e => by rw [e, show shortOf 34 = some 34 by decide] at hm; cases hm
        have hs : stepI .back x = (.bad false, []) := by
          simp only [stepI, hm, hp]; rw [if_neg hu]; rfl
        rw [hs]; have HO := hid (fun w' => open_no w' b o x.toNat hm hu); have g2 : (((x.toNat : Nat) : Int) == 34) = false := u8z x 34 h34; simp only [errI]; clear hS hs hC hT hu h32 hm h34 hp; go_enter Tryz.func120, Tryz.ntmps120; (go_wp2_with fail); refine HS.out.mono ?_; rintro e w' ⟨rfl, hp⟩; simp only [Option.isSome]; have hT' := HT.out.sub hp.2 (.inr (by omega)); obtain ⟨⟨hd0, he0⟩, ⟨hd1, he1⟩, hd2, he2⟩ := hT'.zeros 1 0 0 rfl rfl rfl; have HP : Hid (TPost w b o (.bad false) w') := hid (tpost_bad hp.2 (by omega)); clear hp hT'; (go_wp2_with fail); refine (HO.out _).mono ?_; rintro e w2 ⟨rfl, rfl⟩; go_wp2; go_ret2; exact ⟨rfl, HP.out⟩
end
end Go.Proofs.YtkgconbdmnmbnaaGreat
