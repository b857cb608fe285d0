/-
  CONTRACTS of utf.Check (Step, Whole, Bad and what they call): its four fields hold the state that UtfPure names.
-/
import Derived.Test.YtpmbpcinfakckaaDoorKit
import Derived.Test.YtpmbpcinfakckaaDoorUtfPure
namespace Go.Proofs.YtpmbpcinfakckaaDoor
open Go.RowKit
open Go.Lib
/-- The Check at block b stands at a state. -/
def CAt (w : World) (b : Nat) : Option (Nat × Nat × Nat) → Prop
  | none => ∃ n lo hi : Nat, w.heap[b]? = some (.cells #[.int .i64 n, .int .u8 lo, .int .u8 hi, .bool true] 25 (0, 0))
  | some (k, l, h) => k ≤ 3 ∧ ∃ lo hi : Nat, w.heap[b]? = some (.cells #[.int .i64 k, .int .u8 lo, .int .u8 hi, .bool false] 25 (0, 0)) ∧ (0 < k → lo = l ∧ hi = h)
theorem CAt.lt {w : World} {b : Nat} {s : Option (Nat × Nat × Nat)} (h : CAt w b s) : b < w.heap.size := by
  match s, h with
  | none, ⟨_, _, _, h⟩ => exact (Array.getElem?_eq_some_iff.1 h).1
  | some (_, _, _), ⟨_, _, _, h, _⟩ => exact (Array.getElem?_eq_some_iff.1 h).1
theorem CAt.keep {w w' : World} {b : Nat} {s : Option (Nat × Nat × Nat)} (h : CAt w b s) (hk : w'.heap[b]? = w.heap[b]?) : CAt w' b s := by
  match s, h with
  | none, h => unfold CAt; rw [hk]; exact h
  | some (_, _, _), h => unfold CAt; rw [hk]; exact h
theorem CAt.below {w w' : World} {b B : Nat} {s : Option (Nat × Nat × Nat)} (h : CAt w b s) (hb : Below B w w') (hB : b < B) : CAt w' b s := h.keep (hb.block b hB)
def CPost (w : World) (b : Nat) (s : Option (Nat × Nat × Nat)) (w' : World) : Prop := CAt w' b s ∧ Step [b] [b] w w'
theorem cat_new (w : World) : CAt (w.alloc (.cells #[.int .i64 0, .int .u8 0, .int .u8 0, .bool false] 25)) w.heap.size st0 :=
  ⟨by omega, 0, 0, heap_alloc_new w _, fun h => by omega⟩
set_option maxHeartbeats 400000 in
theorem lack_any (w : World) (b : Nat) (v0 v1 v2 v3 : Value) (hb : w.heap[b]? = some (.cells #[v0, v1, v2, v3] 25 (0, 0))) (n lo hi : Int) :
    Calls Tryd.prog 40 #[.pointer (some ⟨b, 0, none⟩), .int .i64 n, .int .u8 lo, .int .u8 hi] w fun e w' => e = .returned (.tuple #[]) ∧
      w'.heap[b]? = some (.cells #[.int .i64 n, .int .u8 lo, .int .u8 hi, v3] 25 (0, 0)) ∧ Step [b] [b] w w' := by
  have hc0 : w.cell? ⟨b, 0, none⟩ = some v0 := by simp [World.cell?, hb]
  have hc1 : w.cell? ⟨b, 1, none⟩ = some v1 := by simp [World.cell?, hb]
  have hc2 : w.cell? ⟨b, 2, none⟩ = some v2 := by simp [World.cell?, hb]
  have hf0 : w.frozen? ⟨b, 0, none⟩ = false := by simp [World.frozen?, hb]
  have hf1 : w.frozen? ⟨b, 1, none⟩ = false := by simp [World.frozen?, hb]
  have hf2 : w.frozen? ⟨b, 2, none⟩ = false := by simp [World.frozen?, hb]
  have e1 := heap_setCell_same w b 0 _ _ (.int .i64 n) hb
  have e2 := heap_setCell_same _ b 1 _ _ (.int .u8 lo) e1
  have e3 := heap_setCell_same _ b 2 _ _ (.int .u8 hi) e2
  have s3 : Step [b] [b] w (((w.setCell ⟨b, 0, none⟩ (.int .i64 n)).setCell ⟨b, 1, none⟩ (.int .u8 lo)).setCell ⟨b, 2, none⟩ (.int .u8 hi)) :=
    ((step_setCell [b] w ⟨b, 0, none⟩ _ (by simp)).trans (step_setCell [b] _ ⟨b, 1, none⟩ _ (by simp))).trans (step_setCell [b] _ ⟨b, 2, none⟩ _ (by simp))
  have HP := Lib.hid (And.intro e3 s3)
  clear hb e1 e2 e3 s3
  go_enter Tryd.func40, Tryd.ntmps40
  go_wp2
  go_end0
  exact ⟨rfl, HP.out⟩
/-- What 'c.bad = true' leaves. -/
theorem bad_post {w : World} {b : Nat} {n lo hi : Nat} {v : Value} (hb : w.heap[b]? = some (.cells #[.int .i64 n, .int .u8 lo, .int .u8 hi, v] 25 (0, 0))) : CPost w b none (w.setCell ⟨b, 3, none⟩ (.bool true)) :=
  ⟨⟨n, lo, hi, heap_setCell_same w b 3 _ _ _ hb⟩, step_setCell [b] w ⟨b, 3, none⟩ _ (by simp)⟩
set_option maxHeartbeats 1600000 in
theorem open_any (w : World) (b : Nat) (lo hi : Nat) (hb : w.heap[b]? = some (.cells #[.int .i64 (0 : Nat), .int .u8 lo, .int .u8 hi, .bool false] 25 (0, 0))) (x : Nat) (hx : x < 256) :
    Calls Tryd.prog 23 #[.pointer (some ⟨b, 0, none⟩), .int .u8 x] w fun e w' => e = .returned (.tuple #[]) ∧ CPost w b (openS x) w' := by
  have hc3 : w.cell? ⟨b, 3, none⟩ = some (.bool false) := by simp [World.cell?, hb]
  have hf3 : w.frozen? ⟨b, 3, none⟩ = false := by simp [World.frozen?, hb]
  have HB := Lib.hid hb
  have HL := Lib.hid (lack_any w b _ _ _ _ hb)
  clear hb
  by_cases c0 : (x : Int) < 128
  · have he : openS x = some (0, 0, 0) := by unfold openS; rw [if_pos (by omega)]
    rw [he]
    go_enter Tryd.func23, Tryd.ntmps23
    go_wp2
    go_end0
    exact ⟨rfl, ⟨by omega, lo, hi, HB.out, fun h => by omega⟩, Step.refl _ _⟩
  by_cases c1 : (194 : Int) ≤ x ∧ (x : Int) ≤ 223
  · obtain ⟨c1a, c1b⟩ := c1
    have he : openS x = some (1, 128, 191) := by unfold openS; rw [if_neg (by omega), if_pos (by omega)]
    rw [he]
    go_enter Tryd.func23, Tryd.ntmps23
    go_wp2_with fail
    refine (HL.out 1 128 191).mono ?_
    rintro e w' ⟨rfl, hb', hs⟩
    go_wp2
    go_end0
    exact ⟨rfl, ⟨by omega, 128, 191, hb', fun _ => ⟨rfl, rfl⟩⟩, hs⟩
  have c1' : (194 : Int) ≤ x → ¬ (x : Int) ≤ 223 := fun h h' => c1 ⟨h, h'⟩
  clear c1
  by_cases d1 : (194 : Int) ≤ x
  · have c1'' := c1' d1
    clear c1'
    by_cases c2 : (x : Int) = 224
    · have c2z : ((x : Int) == 224) = true := by rw [beq_iff_eq]; exact c2
      have he : openS x = some (2, 160, 191) := by unfold openS; rw [if_neg (by omega), if_neg (by omega), if_pos (by omega)]
      rw [he]
      go_enter Tryd.func23, Tryd.ntmps23
      go_wp2_with fail
      refine (HL.out 2 160 191).mono ?_
      rintro e w' ⟨rfl, hb', hs⟩
      go_wp2
      go_end0
      exact ⟨rfl, ⟨by omega, 160, 191, hb', fun _ => ⟨rfl, rfl⟩⟩, hs⟩
    have c2z : ((x : Int) == 224) = false := by rw [beq_eq_false_iff_ne]; exact c2
    by_cases c3 : (x : Int) = 237
    · have c3z : ((x : Int) == 237) = true := by rw [beq_iff_eq]; exact c3
      have he : openS x = some (2, 128, 159) := by unfold openS; rw [if_neg (by omega), if_neg (by omega), if_neg (by omega), if_pos (by omega)]
      rw [he]
      go_enter Tryd.func23, Tryd.ntmps23
      go_wp2_with fail
      refine (HL.out 2 128 159).mono ?_
      rintro e w' ⟨rfl, hb', hs⟩
      go_wp2
      go_end0
      exact ⟨rfl, ⟨by omega, 128, 159, hb', fun _ => ⟨rfl, rfl⟩⟩, hs⟩
    have c3z : ((x : Int) == 237) = false := by rw [beq_eq_false_iff_ne]; exact c3
    have c4a : (225 : Int) ≤ x := by omega
    by_cases c4 : (x : Int) ≤ 239
    · skip
      have he : openS x = some (2, 128, 191) := by unfold openS; rw [if_neg (by omega), if_neg (by omega), if_neg (by omega), if_neg (by omega), if_pos (by omega)]
      rw [he]
      go_enter Tryd.func23, Tryd.ntmps23
      go_wp2_with fail
      refine (HL.out 2 128 191).mono ?_
      rintro e w' ⟨rfl, hb', hs⟩
      go_wp2
      go_end0
      exact ⟨rfl, ⟨by omega, 128, 191, hb', fun _ => ⟨rfl, rfl⟩⟩, hs⟩
    by_cases c5 : (x : Int) = 240
    · have c5z : ((x : Int) == 240) = true := by rw [beq_iff_eq]; exact c5
      have he : openS x = some (3, 144, 191) := by unfold openS; rw [if_neg (by omega), if_neg (by omega), if_neg (by omega), if_neg (by omega), if_neg (by omega), if_pos (by omega)]
      rw [he]
      go_enter Tryd.func23, Tryd.ntmps23
      go_wp2_with fail
      refine (HL.out 3 144 191).mono ?_
      rintro e w' ⟨rfl, hb', hs⟩
      go_wp2
      go_end0
      exact ⟨rfl, ⟨by omega, 144, 191, hb', fun _ => ⟨rfl, rfl⟩⟩, hs⟩
    have c5z : ((x : Int) == 240) = false := by rw [beq_eq_false_iff_ne]; exact c5
    have c6a : (241 : Int) ≤ x := by omega
    by_cases c6 : (x : Int) ≤ 243
    · skip
      have he : openS x = some (3, 128, 191) := by unfold openS; rw [if_neg (by omega), if_neg (by omega), if_neg (by omega), if_neg (by omega), if_neg (by omega), if_neg (by omega), if_pos (by omega)]
      rw [he]
      go_enter Tryd.func23, Tryd.ntmps23
      go_wp2_with fail
      refine (HL.out 3 128 191).mono ?_
      rintro e w' ⟨rfl, hb', hs⟩
      go_wp2
      go_end0
      exact ⟨rfl, ⟨by omega, 128, 191, hb', fun _ => ⟨rfl, rfl⟩⟩, hs⟩
    by_cases c7 : (x : Int) = 244
    · have c7z : ((x : Int) == 244) = true := by rw [beq_iff_eq]; exact c7
      have he : openS x = some (3, 128, 143) := by unfold openS; rw [if_neg (by omega), if_neg (by omega), if_neg (by omega), if_neg (by omega), if_neg (by omega), if_neg (by omega), if_neg (by omega), if_pos (by omega)]
      rw [he]
      go_enter Tryd.func23, Tryd.ntmps23
      go_wp2_with fail
      refine (HL.out 3 128 143).mono ?_
      rintro e w' ⟨rfl, hb', hs⟩
      go_wp2
      go_end0
      exact ⟨rfl, ⟨by omega, 128, 143, hb', fun _ => ⟨rfl, rfl⟩⟩, hs⟩
    have c7z : ((x : Int) == 244) = false := by rw [beq_eq_false_iff_ne]; exact c7
    have he : openS x = none := by unfold openS; rw [if_neg (by omega), if_neg (by omega), if_neg (by omega), if_neg (by omega), if_neg (by omega), if_neg (by omega), if_neg (by omega), if_neg (by omega)]
    rw [he]
    have HN := Lib.hid (bad_post HB.out)
    go_enter Tryd.func23, Tryd.ntmps23
    go_wp2
    go_end0
    exact ⟨rfl, HN.out⟩
  · have c1a : (x : Int) < 194 := by omega
    clear c1'
    have c2z : ((x : Int) == 224) = false := by rw [beq_eq_false_iff_ne]; omega
    have c3z : ((x : Int) == 237) = false := by rw [beq_eq_false_iff_ne]; omega
    have c4 : ¬ (225 : Int) ≤ x := by omega
    have c5z : ((x : Int) == 240) = false := by rw [beq_eq_false_iff_ne]; omega
    have c6 : ¬ (241 : Int) ≤ x := by omega
    have c7z : ((x : Int) == 244) = false := by rw [beq_eq_false_iff_ne]; omega
    have he : openS x = none := by unfold openS; rw [if_neg (by omega), if_neg (by omega), if_neg (by omega), if_neg (by omega), if_neg (by omega), if_neg (by omega), if_neg (by omega), if_neg (by omega)]
    rw [he]
    have HN := Lib.hid (bad_post HB.out)
    go_enter Tryd.func23, Tryd.ntmps23
    go_wp2
    go_end0
    exact ⟨rfl, HN.out⟩
set_option maxHeartbeats 1600000 in
theorem goon_any (w : World) (b n : Nat) (lo hi : Nat) (hn : n < 3) (hb : w.heap[b]? = some (.cells #[.int .i64 ((n + 1 : Nat) : Int), .int .u8 lo, .int .u8 hi, .bool false] 25 (0, 0))) (x : UInt8) :
    Calls Tryd.prog 24 #[.pointer (some ⟨b, 0, none⟩), .int .u8 x.toNat] w fun e w' => e = .returned (.tuple #[]) ∧ CPost w b (stepS (some (n + 1, lo, hi)) x) w' := by
  have hc0 : w.cell? ⟨b, 0, none⟩ = some (.int .i64 ((n + 1 : Nat) : Int)) := by simp [World.cell?, hb]
  have hc1 : w.cell? ⟨b, 1, none⟩ = some (.int .u8 lo) := by simp [World.cell?, hb]
  have hc2 : w.cell? ⟨b, 2, none⟩ = some (.int .u8 hi) := by simp [World.cell?, hb]
  have hc3 : w.cell? ⟨b, 3, none⟩ = some (.bool false) := by simp [World.cell?, hb]
  have hf3 : w.frozen? ⟨b, 3, none⟩ = false := by simp [World.frozen?, hb]
  have HN := Lib.hid (bad_post hb)
  have HL := Lib.hid (lack_any w b _ _ _ _ hb)
  clear hb
  by_cases c1 : ((x.toNat : Nat) : Int) < (lo : Int)
  · have he : stepS (some (n + 1, lo, hi)) x = none := by simp only [stepS]; rw [if_pos (by omega)]
    rw [he]
    go_enter Tryd.func24, Tryd.ntmps24
    go_wp2
    refine bodyPost_ret (results_none rfl _ _ _) rfl ?_
    exact ⟨rfl, HN.out⟩
  by_cases c2 : (hi : Int) < ((x.toNat : Nat) : Int)
  · have he : stepS (some (n + 1, lo, hi)) x = none := by simp only [stepS]; rw [if_pos (by omega)]
    rw [he]
    go_enter Tryd.func24, Tryd.ntmps24
    go_wp2
    refine bodyPost_ret (results_none rfl _ _ _) rfl ?_
    exact ⟨rfl, HN.out⟩
  have hw : ((n + 1 : Nat) : Int) - 1 = (n : Int) := by omega
  have he : stepS (some (n + 1, lo, hi)) x = if n = 0 then some (0, 0, 0) else some (n, 128, 191) := by simp only [stepS]; rw [if_neg (by omega)]
  have hfin : ∀ w', w'.heap[b]? = some (.cells #[.int .i64 n, .int .u8 128, .int .u8 191, .bool false] 25 (0, 0)) → CAt w' b (if n = 0 then some (0, 0, 0) else some (n, 128, 191)) := by
    intro w' h'
    by_cases h0 : n = 0
    · subst h0
      exact ⟨by omega, 128, 191, h', fun h => by omega⟩
    · rw [if_neg h0]
      exact ⟨by omega, 128, 191, h', fun _ => ⟨rfl, rfl⟩⟩
  obtain ⟨S, hS⟩ : ∃ S, (if n = 0 then some (0, 0, 0) else some (n, 128, 191)) = S := ⟨_, rfl⟩
  rw [he]
  rw [hS] at hfin ⊢
  have HF := Lib.hid hfin
  clear hfin he HN hS
  go_enter Tryd.func24, Tryd.ntmps24
  go_wp2_with fail
  refine (HL.out n 128 191).mono ?_
  rintro e w' ⟨rfl, hb', hs⟩
  go_wp2
  go_end0
  exact ⟨rfl, HF.out _ hb', hs⟩
set_option maxHeartbeats 400000 in
theorem bad_at {w : World} {b : Nat} {s : Option (Nat × Nat × Nat)} (h : CAt w b s) :
    Calls Tryd.prog 12 #[.pointer (some ⟨b, 0, none⟩)] w fun e w' => e = .returned (.bool s.isNone) ∧ w = w' := by
  have hc : w.cell? ⟨b, 3, none⟩ = some (.bool s.isNone) := by
    match s, h with
    | none, ⟨_, _, _, h⟩ => simp [World.cell?, h]
    | some (_, _, _), ⟨_, _, _, h, _⟩ => simp [World.cell?, h]
  clear h
  generalize s.isNone = q at *
  go_enter Tryd.func12, Tryd.ntmps12
  go_wp2
  go_ret
  exact ⟨rfl, rfl⟩
theorem bad_nil (w : World) : Calls Tryd.prog 12 #[.pointer none] w fun e w' => e = .returned (.bool true) ∧ w = w' := by
  go_enter Tryd.func12, Tryd.ntmps12
  go_wp2
  go_ret
  exact ⟨rfl, rfl⟩
set_option maxHeartbeats 400000 in
theorem whole_at {w : World} {b : Nat} {s : Option (Nat × Nat × Nat)} (h : CAt w b s) :
    Calls Tryd.prog 13 #[.pointer (some ⟨b, 0, none⟩)] w fun e w' => e = .returned (.bool (wholeS s)) ∧ w = w' := by
  have hB := bad_at h
  match s, h with
  | none, ⟨_, _, _, h⟩ =>
    have hs : wholeS none = false := rfl
    rw [hs]
    simp only [Option.isNone] at hB
    clear h
    go_enter Tryd.func13, Tryd.ntmps13
    go_wp2_with fail
    refine hB.mono ?_
    rintro e w' ⟨rfl, rfl⟩
    go_wp2
    go_ret
    exact ⟨rfl, rfl⟩
  | some (k, _, _), ⟨_, _, _, h, _⟩ =>
    have hc : w.cell? ⟨b, 0, none⟩ = some (.int .i64 k) := by simp [World.cell?, h]
    simp only [Option.isNone] at hB
    clear h
    by_cases h0 : k = 0
    · subst h0
      have hs : ∀ x y, wholeS (some (0, x, y)) = true := fun _ _ => rfl
      rw [hs]
      have hz : (((0 : Nat) : Int) == 0) = true := rfl
      go_enter Tryd.func13, Tryd.ntmps13
      go_wp2_with fail
      refine hB.mono ?_
      rintro e w' ⟨rfl, rfl⟩
      go_wp2
      go_ret
      exact ⟨rfl, rfl⟩
    · have hs : ∀ x y, wholeS (some (k, x, y)) = false := fun _ _ => by
        match k, h0 with
        | 0, h0 => exact absurd rfl h0
        | k + 1, _ => rfl
      rw [hs]
      have hz : ((k : Int) == 0) = false := by rw [beq_eq_false_iff_ne]; omega
      go_enter Tryd.func13, Tryd.ntmps13
      go_wp2_with fail
      refine hB.mono ?_
      rintro e w' ⟨rfl, rfl⟩
      go_wp2
      go_ret
      exact ⟨rfl, rfl⟩
theorem whole_nil (w : World) : Calls Tryd.prog 13 #[.pointer none] w fun e w' => e = .returned (.bool false) ∧ w = w' := by
  go_enter Tryd.func13, Tryd.ntmps13
  go_wp2_with fail
  refine (bad_nil w).mono ?_
  rintro e w' ⟨rfl, rfl⟩
  go_wp2
  go_ret
  exact ⟨rfl, rfl⟩
theorem step_nil (x : Int) (w : World) : Calls Tryd.prog 11 #[.pointer none, .int .u8 x] w fun e w' => e = .returned (.bool false) ∧ w = w' := by
  go_enter Tryd.func11, Tryd.ntmps11
  go_wp2_with fail
  refine (bad_nil w).mono ?_
  rintro e w' ⟨rfl, rfl⟩
  go_wp2
  go_ret
  exact ⟨rfl, rfl⟩
theorem cat_bad {w : World} {b : Nat} {s : Option (Nat × Nat × Nat)} (h : CAt w b s) : w.cell? ⟨b, 3, none⟩ = some (.bool s.isNone) := by
  match s, h with
  | none, ⟨_, _, _, h⟩ => simp [World.cell?, h]
  | some (_, _, _), ⟨_, _, _, h, _⟩ => simp [World.cell?, h]
/-- STEP. -/
theorem step_at {w : World} {b : Nat} {s : Option (Nat × Nat × Nat)} (h : CAt w b s) (x : UInt8) :
    Calls Tryd.prog 11 #[.pointer (some ⟨b, 0, none⟩), .int .u8 x.toNat] w fun e w' => e = .returned (.bool (stepS s x).isSome) ∧ CPost w b (stepS s x) w' := by
  have hB := bad_at h
  match s, h with
  | none, h =>
    have hs : stepS none x = none := rfl
    rw [hs]
    have HC := Lib.hid h
    simp only [Option.isNone] at hB
    simp only [Option.isSome]
    clear h
    go_enter Tryd.func11, Tryd.ntmps11
    go_wp2_with fail
    refine hB.mono ?_
    rintro e w' ⟨rfl, rfl⟩
    go_wp2
    go_ret
    exact ⟨rfl, HC.out, Step.refl _ _⟩
  | some (k, l, u), ⟨hk, lo, hi, h, hlo⟩ =>
    have hc : w.cell? ⟨b, 0, none⟩ = some (.int .i64 k) := by simp [World.cell?, h]
    simp only [Option.isNone] at hB
    have main : ∀ w' : World, CPost w b (stepS (some (k, l, u)) x) w' → w'.cell? ⟨b, 3, none⟩ = some (.bool (!(stepS (some (k, l, u)) x).isSome)) := by
      intro w' hp
      have := cat_bad hp.1
      rw [this]
      cases stepS (some (k, l, u)) x <;> rfl
    cases k with
    | zero =>
      have hO := open_any w b lo hi h x.toNat x.toNat_lt
      have hs : stepS (some (0, l, u)) x = openS x.toNat := rfl
      rw [hs] at main ⊢
      have hz : (((0 : Nat) : Int) == 0) = true := rfl
      have HM := Lib.hid main
      clear h main hlo hs
      go_enter Tryd.func11, Tryd.ntmps11
      go_wp2_with fail
      refine hB.mono ?_
      rintro e w' ⟨rfl, rfl⟩
      go_wp2_with fail
      refine hO.mono ?_
      rintro e w' ⟨rfl, hp⟩
      have hc3 := HM.out w' hp
      have HP := Lib.hid hp
      clear hp HM
      generalize hq : (openS x.toNat).isSome = q at hc3
      go_wp2
      go_ret
      exact ⟨by simp [hq], HP.out⟩
    | succ k =>
      obtain ⟨rfl, rfl⟩ := hlo (by omega)
      have hO := goon_any w b k lo hi (by omega) h x
      have hz : (((k + 1 : Nat) : Int) == 0) = false := by rw [beq_eq_false_iff_ne]; omega
      have HM := Lib.hid main
      clear h main hlo
      go_enter Tryd.func11, Tryd.ntmps11
      go_wp2_with fail
      refine hB.mono ?_
      rintro e w' ⟨rfl, rfl⟩
      go_wp2_with fail
      refine hO.mono ?_
      rintro e w' ⟨rfl, hp⟩
      have hc3 := HM.out w' hp
      have HP := Lib.hid hp
      clear hp HM
      generalize hq : (stepS (some (k + 1, lo, hi)) x).isSome = q at hc3
      go_wp2
      go_ret
      exact ⟨by simp [hq], HP.out⟩
end Go.Proofs.YtpmbpcinfakckaaDoor
