/-
  CONTRACTS of decimal.Number (hasDigit, add, take, Step) WHEREVER IT LIES: its five cells, from place o of block b on, hold the state that DecPure names; no other cell turns.
-/
import Derived.Test.YteonbajndghfcaaBits
import Derived.Test.YteonbajndghfcaaSub
namespace Go.Proofs.Yteonbajndghfcaa
open Go.RowKit
open Go.Lib
/-- The five cells of a Number. -/
def nmCells (e p : Nat) (m : Bool) (h l : Nat) : List Value := [.int .i64 e, .int .i64 p, .bool m, .int .u64 h, .int .u64 l]
/-- Two words that hold a number, or tell that it is too great. -/
def Fits (h l v : Nat) : Prop := h < 100 ∧ l < 18446744073709551616 ∧ (h * 18446744073709551616 + l = v ∨ 2 ≤ h ∧ 36893488147419103232 ≤ v)
/-- The Number at place o of block b stands at a state. -/
def DAt (w : World) (b o : Nat) : Dec → Prop
  | .bad f => ∃ p m h l, At w b o (nmCells (errD (.bad f)) p m h l)
  | .num p m v => WfD (.num p m v) ∧ ∃ h l : Nat, At w b o (nmCells 0 p m h l) ∧ Fits h l v
theorem DAt.wf {w : World} {b o : Nat} {s : Dec} (h : DAt w b o s) : WfD s := by
  cases s with
  | bad f => trivial
  | num p m v => exact h.1
theorem DAt.cells {w : World} {b o : Nat} {s : Dec} (h : DAt w b o s) : ∃ p m hi lo, At w b o (nmCells (errD s) p m hi lo) := by
  cases s with
  | bad f => exact h
  | num p m v =>
    obtain ⟨_, hi, lo, h, _⟩ := h
    exact ⟨p, m, hi, lo, h⟩
theorem DAt.lt {w : World} {b o : Nat} {s : Dec} (h : DAt w b o s) : b < w.heap.size := by
  obtain ⟨_, _, _, _, h⟩ := h.cells
  exact h.lt (by simp [nmCells])
theorem DAt.map {w w' : World} {b o : Nat} {s : Dec} (h : DAt w b o s) (hk : ∀ vs : List Value, vs.length = 5 → At w b o vs → At w' b o vs) : DAt w' b o s := by
  cases s with
  | bad f =>
    obtain ⟨p, m, hi, lo, h⟩ := h
    exact ⟨p, m, hi, lo, hk _ rfl h⟩
  | num p m v =>
    obtain ⟨hw, hi, lo, h, hf⟩ := h
    exact ⟨hw, hi, lo, hk _ rfl h, hf⟩
theorem DAt.keep {w w' : World} {b o : Nat} {s : Dec} (h : DAt w b o s) (hk : w'.heap[b]? = w.heap[b]?) : DAt w' b o s := h.map fun _ _ h => h.keep hk
theorem DAt.below {w w' : World} {b o B : Nat} {s : Dec} (h : DAt w b o s) (hb : Below B w w') (hB : b < B) : DAt w' b o s := h.keep (hb.block b hB)
theorem DAt.sub {w w' : World} {b o o' n : Nat} {s : Dec} (h : DAt w b o s) (k : Sub b o' n w w') (hd : o + 5 ≤ o' ∨ o' + n ≤ o) : DAt w' b o s := h.map fun vs hv h => h.sub k (by omega)
theorem DAt.drewN {w : World} {b o : Nat} {s : Dec} (h : DAt w b o s) (q : Nat) : DAt (w.drewN q) b o s := h.map fun _ _ h => h
def DPost (w : World) (b o : Nat) (s : Dec) (w' : World) : Prop := DAt w' b o s ∧ Sub b o 5 w w'
theorem dat_zero {w : World} {b o : Nat} (h : At w b o (nmCells 0 0 false 0 0)) : DAt w b o d0 := ⟨wf0, 0, 0, h, by omega, by omega, .inl rfl⟩
theorem At.five {w : World} {b o : Nat} {v0 v1 v2 v3 v4 : Value} (h : At w b o [v0, v1, v2, v3, v4]) :
    (w.cell? ⟨b, o, none⟩ = some v0 ∧ w.frozen? ⟨b, o, none⟩ = false) ∧ (w.cell? ⟨b, o + 1, none⟩ = some v1 ∧ w.frozen? ⟨b, o + 1, none⟩ = false) ∧
    (w.cell? ⟨b, o + 2, none⟩ = some v2 ∧ w.frozen? ⟨b, o + 2, none⟩ = false) ∧ (w.cell? ⟨b, o + 3, none⟩ = some v3 ∧ w.frozen? ⟨b, o + 3, none⟩ = false) ∧
    (w.cell? ⟨b, o + 4, none⟩ = some v4 ∧ w.frozen? ⟨b, o + 4, none⟩ = false) :=
  ⟨h 0 v0 rfl, h 1 v1 rfl, h 2 v2 rfl, h 3 v3 rfl, h 4 v4 rfl⟩
theorem isDigit_any (x : Nat) (q : Bool) (hq : q = decide (48 ≤ x ∧ x ≤ 57)) (w : World) :
    Calls Try.prog 43 #[.int .u8 x] w fun e w' => e = .returned (.bool q) ∧ w = w' := by
  subst hq
  by_cases a1 : (48 : Int) ≤ x
  · by_cases a2 : (x : Int) ≤ 57
    · have he : decide (48 ≤ x ∧ x ≤ 57) = true := by simp; omega
      rw [he]
      go_enter Try.func43, Try.ntmps43
      go_wp2
      go_ret
      exact ⟨rfl, rfl⟩
    · have he : decide (48 ≤ x ∧ x ≤ 57) = false := by simp; omega
      rw [he]
      go_enter Try.func43, Try.ntmps43
      go_wp2
      go_ret
      exact ⟨rfl, rfl⟩
  · have he : decide (48 ≤ x ∧ x ≤ 57) = false := by simp; omega
    rw [he]
    go_enter Try.func43, Try.ntmps43
    go_wp2
    go_ret
    exact ⟨rfl, rfl⟩
theorem has_at {w : World} {b o : Nat} (p : Nat) (hp : p ≤ 3) (hc : w.cell? ⟨b, o + 1, none⟩ = some (.int .i64 p)) (q : Bool) (hq : q = decide (2 ≤ p)) :
    Calls Try.prog 32 #[.pointer (some ⟨b, o, none⟩)] w fun e w' => e = .returned (.bool q) ∧ w = w' := by
  subst hq
  rcases (show p = 0 ∨ p = 1 ∨ p = 2 ∨ p = 3 by omega) with rfl | rfl | rfl | rfl
  all_goals
    go_enter Try.func32, Try.ntmps32
    go_wp2
    go_ret
    exact ⟨rfl, rfl⟩
theorem mul64 (x : Nat) (hx : x < 18446744073709551616) (w : World) :
    Calls Try.prog 50 #[.int .u64 x, .int .u64 10] w fun e w' => e = .returned (.tuple #[.int .u64 ((x * 10 / 18446744073709551616 : Nat) : Int), .int .u64 ((x * 10 % 18446744073709551616 : Nat) : Int)]) ∧ w' = w := bits_Mul64 x 10 hx (by decide) w
theorem nm_set1 {w : World} {b o : Nat} {e p : Nat} {m : Bool} {h l : Nat} (q : Nat) (hA : At w b o (nmCells e p m h l)) :
    At (w.setCell ⟨b, o + 1, none⟩ (.int .i64 q)) b o (nmCells e q m h l) ∧ Sub b o 5 w (w.setCell ⟨b, o + 1, none⟩ (.int .i64 q)) :=
  ⟨hA.set 1 (by simp [nmCells]) _, sub_setCell w (o + 1) _ (by omega)⟩
set_option maxHeartbeats 1000000 in
/-- add: a first 0. -/
theorem add_zero {w : World} {b o : Nat} {p : Nat} {m : Bool} {h l : Nat} (hp : p < 2) (hA : At w b o (nmCells 0 p m h l)) :
    Calls Try.prog 44 #[.pointer (some ⟨b, o, none⟩), .int .u8 48] w fun e w' => e = .returned (.tuple #[]) ∧ At w' b o (nmCells 0 2 m h l) ∧ Sub b o 5 w w' := by
  obtain ⟨_, ⟨hc, hf⟩, _⟩ := hA.five
  have HP := Lib.hid (nm_set1 2 hA)
  have HD := Lib.hid (has_at p (by omega) hc false (by simp; omega))
  clear hA
  go_enter Try.func44, Try.ntmps44
  go_wp2_with fail
  refine HD.out.mono ?_
  rintro e w' ⟨rfl, rfl⟩
  go_wp2
  refine bodyPost_ret (results_none rfl _ _ _) rfl ?_
  exact ⟨rfl, HP.out⟩
set_option maxHeartbeats 1000000 in
/-- add: too great as it is. -/
theorem add_great {w : World} {b o : Nat} {p : Nat} {m : Bool} {h l x : Nat} (hp : p ≤ 3) (hx : x ≠ 48 ∨ 2 ≤ p) (hh : 1 < h) (hA : At w b o (nmCells 0 p m h l)) :
    Calls Try.prog 44 #[.pointer (some ⟨b, o, none⟩), .int .u8 x] w fun e w' => e = .returned (.tuple #[]) ∧ At w' b o (nmCells 0 3 m h l) ∧ Sub b o 5 w w' := by
  obtain ⟨_, ⟨hc, hf⟩, _, ⟨hch, _⟩, _⟩ := hA.five
  have HP := Lib.hid (nm_set1 3 hA)
  have hh' : (1 : Int) < h := by omega
  clear hA
  by_cases h48 : x = 48
  · subst h48
    have HD := Lib.hid (has_at p hp hc true (by simp; omega))
    go_enter Try.func44, Try.ntmps44
    go_wp2_with fail
    refine HD.out.mono ?_
    rintro e w' ⟨rfl, rfl⟩
    go_wp2
    refine bodyPost_ret (results_none rfl _ _ _) rfl ?_
    exact ⟨rfl, HP.out⟩
  · have hz : ((x : Int) == 48) = false := by rw [beq_eq_false_iff_ne]; omega
    clear hx
    go_enter Try.func44, Try.ntmps44
    go_wp2
    refine bodyPost_ret (results_none rfl _ _ _) rfl ?_
    exact ⟨rfl, HP.out⟩
theorem wrap_u64_of (n : Int) (h0 : 0 ≤ n) (h1 : n < 18446744073709551616) : IntKind.u64.wrap n = n := by
  simp [IntKind.wrap, IntKind.bits, IntKind.signed]
  omega
theorem wrap_u8_of (n : Int) (h0 : 0 ≤ n) (h1 : n < 256) : IntKind.u8.wrap n = n := by
  simp [IntKind.wrap, IntKind.bits, IntKind.signed]
  omega
theorem nm_set134 {w : World} {b o : Nat} {e p : Nat} {m : Bool} {h l : Nat} (q h' l' : Nat) (hA : At w b o (nmCells e p m h l)) :
    At (((w.setCell ⟨b, o + 1, none⟩ (.int .i64 q)).setCell ⟨b, o + 3, none⟩ (.int .u64 h')).setCell ⟨b, o + 4, none⟩ (.int .u64 l')) b o (nmCells e q m h' l') ∧
    Sub b o 5 w (((w.setCell ⟨b, o + 1, none⟩ (.int .i64 q)).setCell ⟨b, o + 3, none⟩ (.int .u64 h')).setCell ⟨b, o + 4, none⟩ (.int .u64 l')) :=
  ⟨((hA.set 1 (by simp [nmCells]) (.int .i64 q)).set 3 (by simp [nmCells]) (.int .u64 h')).set 4 (by simp [nmCells]) (.int .u64 l'),
   ((sub_setCell w (o + 1) _ (by omega)).setCell (o + 3) _ (by omega)).setCell (o + 4) _ (by omega)⟩
set_option maxHeartbeats 2000000 in
/-- add: another digit. -/
theorem add_digit {w : World} {b o : Nat} {p : Nat} {m : Bool} {h l x d : Nat} (hp : p ≤ 3) (hx : x ≠ 48 ∨ 2 ≤ p) (hd : x = 48 + d) (hd9 : d ≤ 9) (hh : h ≤ 1) (hl : l < 18446744073709551616) (hA : At w b o (nmCells 0 p m h l)) :
    Calls Try.prog 44 #[.pointer (some ⟨b, o, none⟩), .int .u8 x] w fun e w' => e = .returned (.tuple #[]) ∧
      At w' b o (nmCells 0 3 m (h * 10 + l * 10 / 18446744073709551616 + (l * 10 % 18446744073709551616 + d) / 18446744073709551616) ((l * 10 % 18446744073709551616 + d) % 18446744073709551616)) ∧ Sub b o 5 w w' := by
  obtain ⟨_, ⟨hc, hf⟩, _, ⟨hch, hfh⟩, hcl, hfl⟩ := hA.five
  obtain ⟨c, hcc⟩ : ∃ c, l * 10 / 18446744073709551616 = c := ⟨_, rfl⟩
  obtain ⟨lo, hlo⟩ : ∃ lo, l * 10 % 18446744073709551616 = lo := ⟨_, rfl⟩
  have hM := mul64 l hl
  rw [hcc, hlo] at hM ⊢
  have hA2 : ∀ W, (callFunc 51 #[.int .u64 lo, .int .u64 d, .int .u64 0]).run Try.prog W = .ok (.value (.tuple #[.int .u64 (((lo + d) % 18446744073709551616 : Nat) : Int), .int .u64 (((lo + d) / 18446744073709551616 : Nat) : Int)])) W := fun W => run_add64 lo d 0 (by decide) W
  obtain ⟨k, hk⟩ : ∃ k, (lo + d) / 18446744073709551616 = k := ⟨_, rfl⟩
  obtain ⟨l2, hl2⟩ : ∃ l2, (lo + d) % 18446744073709551616 = l2 := ⟨_, rfl⟩
  rw [hk, hl2] at hA2 ⊢
  have HP := Lib.hid (nm_set134 3 (h * 10 + c + k) l2 hA)
  have hc9 : c ≤ 9 := by omega
  have hk1 : k ≤ 1 := by omega
  have hw1 : IntKind.u64.wrap ((h : Int) * 10) = (h : Int) * 10 := wrap_u64_of _ (by omega) (by omega)
  have hw2 : IntKind.u64.wrap ((h : Int) * 10 + (c : Int)) = (h : Int) * 10 + (c : Int) := wrap_u64_of _ (by omega) (by omega)
  have hw3 : IntKind.u64.wrap ((h : Int) * 10 + (c : Int) + (k : Int)) = ((h * 10 + c + k : Nat) : Int) := by rw [wrap_u64_of _ (by omega) (by omega)]; omega
  have hw4 : IntKind.u8.wrap ((x : Int) - 48) = (d : Int) := by rw [wrap_u8_of _ (by omega) (by omega)]; omega
  have hw5 : IntKind.u64.wrap (d : Int) = (d : Int) := wrap_u64_of _ (by omega) (by omega)
  have hh' : ¬ (1 : Int) < h := by omega
  have HM := Lib.hid hM
  have HA2 := Lib.hid hA2
  generalize h * 10 + c + k = h2 at *
  clear hA hM hA2 hcc hlo hk hl2 hc9 hk1 hh hl hd9
  by_cases h48 : x = 48
  · subst h48
    have HD := Lib.hid (has_at p hp hc true (by simp; omega))
    obtain rfl : d = 0 := by omega
    have hA3 : ∀ W, (callFunc 51 #[.int .u64 lo, .int .u64 0, .int .u64 0]).run Try.prog W = .ok (.value (.tuple #[.int .u64 l2, .int .u64 k])) W := HA2.out
    have HA3 := Lib.hid hA3
    clear hx hp hd hA3 HA2 hw4 hw5
    go_enter Try.func44, Try.ntmps44
    go_wp2_with fail
    refine HD.out.mono ?_
    rintro e w' ⟨rfl, rfl⟩
    go_wp2_with (first | (go_at_call 50; refine (HM.out _).mono ?_; rintro e w' ⟨rfl, rfl⟩) | simp only [HA3.out])
    go_end0
    exact ⟨rfl, HP.out⟩
  · have hz : ((x : Int) == 48) = false := by rw [beq_eq_false_iff_ne]; omega
    clear hx hp hd
    go_enter Try.func44, Try.ntmps44
    go_wp2_with (first | (go_at_call 50; refine (HM.out _).mono ?_; rintro e w' ⟨rfl, rfl⟩) | simp only [HA2.out])
    go_end0
    exact ⟨rfl, HP.out⟩
end Go.Proofs.Yteonbajndghfcaa
