/-
  CONTRACTS of decimal.Number, anywhere in a block.
-/
import Derived.Shelf.LaysM
import Derived.Shelf.Bits.Mul64
import Derived.Shelf.Spec.BitsCarry
import Derived.WalkKit
import Derived.WalkSpells
import Derived.Below
import Derived.BigCall
import Derived.BigGuard
import Derived.Test.YtacngbngljfedaaGa
/-
  THE SHELF AT THIS DUMP, IN PLAIN WORDS: math/bits.Mul64, Add64, Sub64.
-/
namespace Go.Proofs.Ytacngbngljfedaa
open Go.Shelf
def lays264_ren : Go.Shelf.Ren := ⟨fun | 264 => 91 | n => n, fun | 53 => 38 | 46 => 67 | n => n, fun | n => n⟩
theorem lays264 : Go.Proofs.Lays.n264 Try.prog lays264_ren := {
  mixed := by kernel_rfl
  f264 := Try.func91.trans (congrArg some (by kernel_rfl))
  t46 := Try.underlying67
  a46 := Try.isAgg67
  z46 := Try.sizeOf67
  v46 := Try.zeroValue67
  t53 := Try.underlying38
  a53 := Try.isAgg38
  z53 := Try.sizeOf38
  v53 := Try.zeroValue38 }
open Go.RowKit Go.Lib in
theorem bits_Mul64 (x y : Nat) (hx : x < 18446744073709551616) (hy : y < 18446744073709551616) (w : World) :
    Calls Try.prog 91 #[.int .u64 x, .int .u64 y] w fun e w' => e = .returned (.tuple #[.int .u64 ((x * y / 18446744073709551616 : Nat) : Int), .int .u64 ((x * y % 18446744073709551616 : Nat) : Int)]) ∧ w' = w := Any.bits_Mul64 lays264 x y hx hy w
def lays25_ren : Go.Shelf.Ren := ⟨fun | 25 => 92 | n => n, fun | 22 => 38 | n => n, fun | n => n⟩
theorem lays25 : Go.Proofs.Lays7.n25 Try.prog lays25_ren := {
  mixed := by kernel_rfl
  f25 := Try.func92.trans (congrArg some (by kernel_rfl))
  t22 := Try.underlying38
  a22 := Try.isAgg38
  z22 := Try.sizeOf38
  v22 := Try.zeroValue38
  i22 := by kernel_rfl }
def lays26_ren : Go.Shelf.Ren := ⟨fun | 26 => 78 | n => n, fun | 22 => 38 | n => n, fun | n => n⟩
theorem lays26 : Go.Proofs.Lays7.n26 Try.prog lays26_ren := {
  mixed := by kernel_rfl
  f26 := Try.func78.trans (congrArg some (by kernel_rfl))
  t22 := Try.underlying38
  a22 := Try.isAgg38
  z22 := Try.sizeOf38
  v22 := Try.zeroValue38
  i22 := by kernel_rfl }
open Go.RowKit
open Go.Lib
theorem run_add64 (x y c : Nat) (hc : c ≤ 1) (w : World) : (callFunc 92 #[.int .u64 x, .int .u64 y, .int .u64 c]).run Try.prog w =
      .ok (.value (.tuple #[.int .u64 (((x + y + c) % 18446744073709551616 : Nat) : Int), .int .u64 (((x + y + c) / 18446744073709551616 : Nat) : Int)])) w := Any7.bits_Add64 lays25 x y c hc w
theorem run_sub64 (x y b : Nat) (hb : b ≤ 1) (w : World) : (callFunc 78 #[.int .u64 x, .int .u64 y, .int .u64 b]).run Try.prog w =
      .ok (.value (.tuple #[.int .u64 (((x + 18446744073709551616 - y - b) % 18446744073709551616 : Nat) : Int), .int .u64 ((if x < y + b then 1 else 0 : Nat) : Int)])) w := Any7.bits_Sub64 lays26 x y b hb w
theorem below_dr {B : Nat} {w w' : World} (h : Below B w w') (q : Nat) : Below B w (w'.drewN q) := ⟨h.os, h.tape, h.output, h.size, h.block⟩
end Go.Proofs.Ytacngbngljfedaa
/-
  CONTRACTS of decimal.Number (hasDigit, add, take, Step) WHEREVER IT LIES: its five cells, from place o of block b on, hold the state that DecPure names; no other cell turns.
-/
namespace Go.Proofs.Ytacngbngljfedaa
open Go.RowKit
open Go.Lib
/-- The five cells of a Number. -/
def nmCells (e p : Nat) (m : Bool) (h l : Nat) : List Value := [.int .i64 e, .int .i64 p, .bool m, .int .u64 h, .int .u64 l]
/-- Two words that hold a number, or tell that it is too great. -/
def Fits (h l v : Nat) : Prop := h < 100 ∧ l < 18446744073709551616 ∧ (h * 18446744073709551616 + l = v ∨ 2 ≤ h ∧ 36893488147419103232 ≤ v)
/-- The Number at place o of block b stands at a state. -/
def DAt (w : World) (b o : Nat) : Dec → Prop
  | .bad f => ∃ p m h l, At w b o (nmCells (errD (.bad f)) p m h l)
  | .num p m v => WfD (.num p m v) ∧ ∃ h l : Nat, At w b o (nmCells 0 p m h l) ∧ Fits h l v
theorem DAt.wf {w : World} {b o : Nat} {s : Dec} (h : DAt w b o s) : WfD s := by
  cases s with
  | bad f => trivial
  | num p m v => exact h.1
theorem DAt.cells {w : World} {b o : Nat} {s : Dec} (h : DAt w b o s) : ∃ p m hi lo, At w b o (nmCells (errD s) p m hi lo) := by
  cases s with
  | bad f => exact h
  | num p m v =>
    obtain ⟨_, hi, lo, h, _⟩ := h
    exact ⟨p, m, hi, lo, h⟩
theorem DAt.lt {w : World} {b o : Nat} {s : Dec} (h : DAt w b o s) : b < w.heap.size := by
  obtain ⟨_, _, _, _, h⟩ := h.cells
  exact h.lt (by simp [nmCells])
theorem DAt.map {w w' : World} {b o : Nat} {s : Dec} (h : DAt w b o s) (hk : ∀ vs : List Value, vs.length = 5 → At w b o vs → At w' b o vs) : DAt w' b o s := by
  cases s with
  | bad f =>
    obtain ⟨p, m, hi, lo, h⟩ := h
    exact ⟨p, m, hi, lo, hk _ rfl h⟩
  | num p m v =>
    obtain ⟨hw, hi, lo, h, hf⟩ := h
    exact ⟨hw, hi, lo, hk _ rfl h, hf⟩
theorem DAt.keep {w w' : World} {b o : Nat} {s : Dec} (h : DAt w b o s) (hk : w'.heap[b]? = w.heap[b]?) : DAt w' b o s := h.map fun _ _ h => h.keep hk
theorem DAt.below {w w' : World} {b o B : Nat} {s : Dec} (h : DAt w b o s) (hb : Below B w w') (hB : b < B) : DAt w' b o s := h.keep (hb.block b hB)
theorem DAt.sub {w w' : World} {b o o' n : Nat} {s : Dec} (h : DAt w b o s) (k : Sub b o' n w w') (hd : o + 5 ≤ o' ∨ o' + n ≤ o) : DAt w' b o s := h.map fun vs hv h => h.sub k (by omega)
theorem DAt.drewN {w : World} {b o : Nat} {s : Dec} (h : DAt w b o s) (q : Nat) : DAt (w.drewN q) b o s := h.map fun _ _ h => h
def DPost (w : World) (b o : Nat) (s : Dec) (w' : World) : Prop := DAt w' b o s ∧ Sub b o 5 w w'
theorem dat_zero {w : World} {b o : Nat} (h : At w b o (nmCells 0 0 false 0 0)) : DAt w b o d0 := ⟨wf0, 0, 0, h, by omega, by omega, .inl rfl⟩
theorem At.five {w : World} {b o : Nat} {v0 v1 v2 v3 v4 : Value} (h : At w b o [v0, v1, v2, v3, v4]) :
    (w.cell? ⟨b, o, none⟩ = some v0 ∧ w.frozen? ⟨b, o, none⟩ = false) ∧ (w.cell? ⟨b, o + 1, none⟩ = some v1 ∧ w.frozen? ⟨b, o + 1, none⟩ = false) ∧
    (w.cell? ⟨b, o + 2, none⟩ = some v2 ∧ w.frozen? ⟨b, o + 2, none⟩ = false) ∧ (w.cell? ⟨b, o + 3, none⟩ = some v3 ∧ w.frozen? ⟨b, o + 3, none⟩ = false) ∧
    (w.cell? ⟨b, o + 4, none⟩ = some v4 ∧ w.frozen? ⟨b, o + 4, none⟩ = false) :=
  ⟨h 0 v0 rfl, h 1 v1 rfl, h 2 v2 rfl, h 3 v3 rfl, h 4 v4 rfl⟩
theorem isDigit_any (x : Nat) (q : Bool) (hq : q = decide (48 ≤ x ∧ x ≤ 57)) (w : World) :
    Calls Try.prog 84 #[.int .u8 x] w fun e w' => e = .returned (.bool q) ∧ w = w' := by
  subst hq
  by_cases a1 : (48 : Int) ≤ x
  · by_cases a2 : (x : Int) ≤ 57
    · have he : decide (48 ≤ x ∧ x ≤ 57) = true := by simp; omega
      rw [he]
      go_enter Try.func84, Try.ntmps84
      go_wp2
      go_ret
      exact ⟨rfl, rfl⟩
    · have he : decide (48 ≤ x ∧ x ≤ 57) = false := by simp; omega
      rw [he]
      go_enter Try.func84, Try.ntmps84
      go_wp2
      go_ret
      exact ⟨rfl, rfl⟩
  · have he : decide (48 ≤ x ∧ x ≤ 57) = false := by simp; omega
    rw [he]
    go_enter Try.func84, Try.ntmps84
    go_wp2
    go_ret
    exact ⟨rfl, rfl⟩
theorem has_at {w : World} {b o : Nat} (p : Nat) (hp : p ≤ 3) (hc : w.cell? ⟨b, o + 1, none⟩ = some (.int .i64 p)) (q : Bool) (hq : q = decide (2 ≤ p)) :
    Calls Try.prog 73 #[.pointer (some ⟨b, o, none⟩)] w fun e w' => e = .returned (.bool q) ∧ w = w' := by
  subst hq
  rcases (show p = 0 ∨ p = 1 ∨ p = 2 ∨ p = 3 by omega) with rfl | rfl | rfl | rfl
  all_goals
    go_enter Try.func73, Try.ntmps73
    go_wp2
    go_ret
    exact ⟨rfl, rfl⟩
theorem mul64 (x : Nat) (hx : x < 18446744073709551616) (w : World) :
    Calls Try.prog 91 #[.int .u64 x, .int .u64 10] w fun e w' => e = .returned (.tuple #[.int .u64 ((x * 10 / 18446744073709551616 : Nat) : Int), .int .u64 ((x * 10 % 18446744073709551616 : Nat) : Int)]) ∧ w' = w := bits_Mul64 x 10 hx (by decide) w
theorem nm_set1 {w : World} {b o : Nat} {e p : Nat} {m : Bool} {h l : Nat} (q : Nat) (hA : At w b o (nmCells e p m h l)) :
    At (w.setCell ⟨b, o + 1, none⟩ (.int .i64 q)) b o (nmCells e q m h l) ∧ Sub b o 5 w (w.setCell ⟨b, o + 1, none⟩ (.int .i64 q)) :=
  ⟨hA.set 1 (by simp [nmCells]) _, sub_setCell w (o + 1) _ (by omega)⟩
set_option maxHeartbeats 1000000 in
/-- add: a first 0. -/
theorem add_zero {w : World} {b o : Nat} {p : Nat} {m : Bool} {h l : Nat} (hp : p < 2) (hA : At w b o (nmCells 0 p m h l)) :
    Calls Try.prog 85 #[.pointer (some ⟨b, o, none⟩), .int .u8 48] w fun e w' => e = .returned (.tuple #[]) ∧ At w' b o (nmCells 0 2 m h l) ∧ Sub b o 5 w w' := by
  obtain ⟨_, ⟨hc, hf⟩, _⟩ := hA.five
  have HP := Lib.hid (nm_set1 2 hA)
  have HD := Lib.hid (has_at p (by omega) hc false (by simp; omega))
  clear hA
  go_enter Try.func85, Try.ntmps85
  go_wp2_with fail
  refine HD.out.mono ?_
  rintro e w' ⟨rfl, rfl⟩
  go_wp2
  refine bodyPost_ret (results_none rfl _ _ _) rfl ?_
  exact ⟨rfl, HP.out⟩
set_option maxHeartbeats 1000000 in
/-- add: too great as it is. -/
theorem add_great {w : World} {b o : Nat} {p : Nat} {m : Bool} {h l x : Nat} (hp : p ≤ 3) (hx : x ≠ 48 ∨ 2 ≤ p) (hh : 1 < h) (hA : At w b o (nmCells 0 p m h l)) :
    Calls Try.prog 85 #[.pointer (some ⟨b, o, none⟩), .int .u8 x] w fun e w' => e = .returned (.tuple #[]) ∧ At w' b o (nmCells 0 3 m h l) ∧ Sub b o 5 w w' := by
  obtain ⟨_, ⟨hc, hf⟩, _, ⟨hch, _⟩, _⟩ := hA.five
  have HP := Lib.hid (nm_set1 3 hA)
  have hh' : (1 : Int) < h := by omega
  clear hA
  by_cases h48 : x = 48
  · subst h48
    have HD := Lib.hid (has_at p hp hc true (by simp; omega))
    go_enter Try.func85, Try.ntmps85
    go_wp2_with fail
    refine HD.out.mono ?_
    rintro e w' ⟨rfl, rfl⟩
    go_wp2
    refine bodyPost_ret (results_none rfl _ _ _) rfl ?_
    exact ⟨rfl, HP.out⟩
  · have hz : ((x : Int) == 48) = false := by rw [beq_eq_false_iff_ne]; omega
    clear hx
    go_enter Try.func85, Try.ntmps85
    go_wp2
    refine bodyPost_ret (results_none rfl _ _ _) rfl ?_
    exact ⟨rfl, HP.out⟩
theorem nm_set134 {w : World} {b o : Nat} {e p : Nat} {m : Bool} {h l : Nat} (q h' l' : Nat) (hA : At w b o (nmCells e p m h l)) :
    At (((w.setCell ⟨b, o + 1, none⟩ (.int .i64 q)).setCell ⟨b, o + 3, none⟩ (.int .u64 h')).setCell ⟨b, o + 4, none⟩ (.int .u64 l')) b o (nmCells e q m h' l') ∧
    Sub b o 5 w (((w.setCell ⟨b, o + 1, none⟩ (.int .i64 q)).setCell ⟨b, o + 3, none⟩ (.int .u64 h')).setCell ⟨b, o + 4, none⟩ (.int .u64 l')) :=
  ⟨((hA.set 1 (by simp [nmCells]) (.int .i64 q)).set 3 (by simp [nmCells]) (.int .u64 h')).set 4 (by simp [nmCells]) (.int .u64 l'),
   ((sub_setCell w (o + 1) _ (by omega)).setCell (o + 3) _ (by omega)).setCell (o + 4) _ (by omega)⟩
set_option maxHeartbeats 2000000 in
/-- add: another digit. -/
theorem add_digit {w : World} {b o : Nat} {p : Nat} {m : Bool} {h l x d : Nat} (hp : p ≤ 3) (hx : x ≠ 48 ∨ 2 ≤ p) (hd : x = 48 + d) (hd9 : d ≤ 9) (hh : h ≤ 1) (hl : l < 18446744073709551616) (hA : At w b o (nmCells 0 p m h l)) :
    Calls Try.prog 85 #[.pointer (some ⟨b, o, none⟩), .int .u8 x] w fun e w' => e = .returned (.tuple #[]) ∧
      At w' b o (nmCells 0 3 m (h * 10 + l * 10 / 18446744073709551616 + (l * 10 % 18446744073709551616 + d) / 18446744073709551616) ((l * 10 % 18446744073709551616 + d) % 18446744073709551616)) ∧ Sub b o 5 w w' := by
  obtain ⟨_, ⟨hc, hf⟩, _, ⟨hch, hfh⟩, hcl, hfl⟩ := hA.five
  obtain ⟨c, hcc⟩ : ∃ c, l * 10 / 18446744073709551616 = c := ⟨_, rfl⟩
  obtain ⟨lo, hlo⟩ : ∃ lo, l * 10 % 18446744073709551616 = lo := ⟨_, rfl⟩
  have hM := mul64 l hl
  rw [hcc, hlo] at hM ⊢
  have hA2 : ∀ W, (callFunc 92 #[.int .u64 lo, .int .u64 d, .int .u64 0]).run Try.prog W = .ok (.value (.tuple #[.int .u64 (((lo + d) % 18446744073709551616 : Nat) : Int), .int .u64 (((lo + d) / 18446744073709551616 : Nat) : Int)])) W := fun W => run_add64 lo d 0 (by decide) W
  obtain ⟨k, hk⟩ : ∃ k, (lo + d) / 18446744073709551616 = k := ⟨_, rfl⟩
  obtain ⟨l2, hl2⟩ : ∃ l2, (lo + d) % 18446744073709551616 = l2 := ⟨_, rfl⟩
  rw [hk, hl2] at hA2 ⊢
  have HP := Lib.hid (nm_set134 3 (h * 10 + c + k) l2 hA)
  have hc9 : c ≤ 9 := by omega
  have hk1 : k ≤ 1 := by omega
  have hw1 : IntKind.u64.wrap ((h : Int) * 10) = (h : Int) * 10 := wrap_u64_of _ (by omega) (by omega)
  have hw2 : IntKind.u64.wrap ((h : Int) * 10 + (c : Int)) = (h : Int) * 10 + (c : Int) := wrap_u64_of _ (by omega) (by omega)
  have hw3 : IntKind.u64.wrap ((h : Int) * 10 + (c : Int) + (k : Int)) = ((h * 10 + c + k : Nat) : Int) := by rw [wrap_u64_of _ (by omega) (by omega)]; omega
  have hw4 : IntKind.u8.wrap ((x : Int) - 48) = (d : Int) := by rw [wrap_u8_of _ (by omega) (by omega)]; omega
  have hw5 : IntKind.u64.wrap (d : Int) = (d : Int) := wrap_u64_of _ (by omega) (by omega)
  have hh' : ¬ (1 : Int) < h := by omega
  have HM := Lib.hid hM
  have HA2 := Lib.hid hA2
  generalize h * 10 + c + k = h2 at *
  clear hA hM hA2 hcc hlo hk hl2 hc9 hk1 hh hl hd9
  by_cases h48 : x = 48
  · subst h48
    have HD := Lib.hid (has_at p hp hc true (by simp; omega))
    obtain rfl : d = 0 := by omega
    have hA3 : ∀ W, (callFunc 92 #[.int .u64 lo, .int .u64 0, .int .u64 0]).run Try.prog W = .ok (.value (.tuple #[.int .u64 l2, .int .u64 k])) W := HA2.out
    have HA3 := Lib.hid hA3
    clear hx hp hd hA3 HA2 hw4 hw5
    go_enter Try.func85, Try.ntmps85
    go_wp2_with fail
    refine HD.out.mono ?_
    rintro e w' ⟨rfl, rfl⟩
    go_wp2_with (first | (go_at_call 91; refine (HM.out _).mono ?_; rintro e w' ⟨rfl, rfl⟩) | simp only [HA3.out])
    go_end0
    exact ⟨rfl, HP.out⟩
  · have hz : ((x : Int) == 48) = false := by rw [beq_eq_false_iff_ne]; omega
    clear hx hp hd
    go_enter Try.func85, Try.ntmps85
    go_wp2_with (first | (go_at_call 91; refine (HM.out _).mono ?_; rintro e w' ⟨rfl, rfl⟩) | simp only [HA2.out])
    go_end0
    exact ⟨rfl, HP.out⟩
end Go.Proofs.Ytacngbngljfedaa
/-
  CONTRACTS of decimal.Number: add, take, Step by the machine of DecPure.
-/
namespace Go.Proofs.Ytacngbngljfedaa
open Go.RowKit
open Go.Lib
theorem fits_zero {h l : Nat} (hf : Fits h l 0) : h = 0 ∧ l = 0 := by
  obtain ⟨_, _, h | h⟩ := hf <;> omega
theorem fits_step {h l v d : Nat} (hf : Fits h l v) (hh : h ≤ 1) (hd : d ≤ 9) : Fits (h * 10 + l * 10 / 18446744073709551616 + (l * 10 % 18446744073709551616 + d) / 18446744073709551616) ((l * 10 % 18446744073709551616 + d) % 18446744073709551616) (v * 10 + d) := by
  obtain ⟨h1, h2, h3⟩ := hf
  refine ⟨by omega, by omega, .inl ?_⟩
  omega
theorem fits_great {h l v d : Nat} (hf : Fits h l v) (hh : 2 ≤ h) : Fits h l (v * 10 + d) := by
  obtain ⟨h1, h2, h3⟩ := hf
  exact ⟨h1, h2, .inr ⟨hh, by omega⟩⟩
/-- add. -/
theorem add_at {w : World} {b o : Nat} {p : Nat} {m : Bool} {v x : Nat} (hp : p ≠ 2) (hx : 48 ≤ x ∧ x ≤ 57) (h : DAt w b o (.num p m v)) :
    Calls Try.prog 85 #[.pointer (some ⟨b, o, none⟩), .int .u8 x] w fun e w' => e = .returned (.tuple #[]) ∧ DPost w b o (stepD (.num p m v) x).1 w' := by
  obtain ⟨hw, hi, lo, hA, hf⟩ := h
  have hwf := wf_stepD (.num p m v) x hw
  obtain ⟨h1, h2, h3, h4, h5⟩ := hw
  simp only [stepD] at hwf ⊢
  rw [if_neg (by omega), if_pos ⟨hx, hp⟩] at hwf ⊢
  by_cases hz : x = 48 ∧ p < 2
  · obtain ⟨rfl, hp2⟩ := hz
    rw [if_pos ⟨by trivial, hp2⟩] at hwf ⊢
    refine (add_zero hp2 hA).mono ?_
    rintro e w' ⟨rfl, hA', hS⟩
    exact ⟨rfl, ⟨hwf, hi, lo, hA', hf⟩, hS⟩
  · rw [if_neg hz] at hwf ⊢
    by_cases hg : 1 < hi
    · refine (add_great (by omega) (by omega) hg hA).mono ?_
      rintro e w' ⟨rfl, hA', hS⟩
      exact ⟨rfl, ⟨hwf, hi, lo, hA', fits_great hf (by omega)⟩, hS⟩
    · refine (add_digit (d := x - 48) (by omega) (by omega) (by omega) (by omega) (by omega) hf.2.1 hA).mono ?_
      rintro e w' ⟨rfl, hA', hS⟩
      exact ⟨rfl, ⟨hwf, _, _, hA', fits_step hf (by omega) (by omega)⟩, hS⟩
theorem nm_set21 {w : World} {b o : Nat} {e p : Nat} {m : Bool} {h l : Nat} (hA : At w b o (nmCells e p m h l)) :
    At ((w.setCell ⟨b, o + 2, none⟩ (.bool true)).setCell ⟨b, o + 1, none⟩ (.int .i64 1)) b o (nmCells e 1 true h l) ∧
    Sub b o 5 w ((w.setCell ⟨b, o + 2, none⟩ (.bool true)).setCell ⟨b, o + 1, none⟩ (.int .i64 1)) :=
  ⟨(hA.set 2 (by simp [nmCells]) (.bool true)).set 1 (by simp [nmCells]) (.int .i64 1), (sub_setCell w (o + 2) _ (by omega)).setCell (o + 1) _ (by omega)⟩
set_option maxHeartbeats 1000000 in
theorem take_minus {w : World} {b o : Nat} {m : Bool} {v : Nat} (h : DAt w b o (.num 0 m v)) :
    Calls Try.prog 77 #[.pointer (some ⟨b, o, none⟩), .int .u8 45] w fun e w' => e = .returned (.tuple #[.bool true, .int .i64 0]) ∧ DPost w b o (.num 1 true v) w' := by
  obtain ⟨hw, hi, lo, hA, hf⟩ := h
  have hwf : WfD (.num 1 true v) := ⟨by omega, fun _ => hw.2.1 (by omega), by omega, by omega, fun _ => rfl⟩
  obtain ⟨_, ⟨hc1, hf1⟩, ⟨hc2, hf2⟩, _⟩ := hA.five
  obtain ⟨k1, k2⟩ := nm_set21 hA
  have HP : Hid (DPost w b o (.num 1 true v) _) := Lib.hid ⟨⟨hwf, hi, lo, k1, hf⟩, k2⟩
  clear hA hw hwf hf k1 k2
  go_enter Try.func77, Try.ntmps77
  go_wp2
  go_ret2
  exact ⟨rfl, HP.out⟩
set_option maxHeartbeats 1000000 in
theorem dtake_digit {w : World} {b o : Nat} {p : Nat} {m : Bool} {v x : Nat} (hp : p ≠ 2) (hx : 48 ≤ x ∧ x ≤ 57) (h : DAt w b o (.num p m v)) :
    Calls Try.prog 77 #[.pointer (some ⟨b, o, none⟩), .int .u8 x] w fun e w' => e = .returned (.tuple #[.bool true, .int .i64 0]) ∧ DPost w b o (stepD (.num p m v) x).1 w' := by
  have HA := Lib.hid (add_at hp hx h)
  have HI := Lib.hid (isDigit_any x true (by simp; omega))
  obtain ⟨_, hi, lo, hA, _⟩ := h
  obtain ⟨_, ⟨hc1, _⟩, _⟩ := hA.five
  have hz : ((x : Int) == 45) = false := by rw [beq_eq_false_iff_ne]; omega
  have hz2 : ((p : Int) != 2) = true := by simp; omega
  clear hA hx hp
  go_enter Try.func77, Try.ntmps77
  go_wp2_with fail
  refine (HI.out _).mono ?_
  rintro e w1 ⟨rfl, rfl⟩
  go_wp2_with fail
  refine HA.out.mono ?_
  rintro e w1 ⟨rfl, hP⟩
  have HP := Lib.hid hP
  clear hP
  go_wp2
  go_ret2
  exact ⟨rfl, HP.out⟩
set_option maxHeartbeats 2000000 in
/-- take: a digit behind a first 0. -/
theorem take_behind {w : World} {b o : Nat} {x : Nat} (hc1 : w.cell? ⟨b, o + 1, none⟩ = some (.int .i64 2)) (hx : 48 ≤ x ∧ x ≤ 57) :
    Calls Try.prog 77 #[.pointer (some ⟨b, o, none⟩), .int .u8 x] w fun r w' => r = .returned (.tuple #[.bool false, .int .i64 2]) ∧ w = w' := by
  have HI := Lib.hid (isDigit_any x true (by simp; omega))
  have hz : ((x : Int) == 45) = false := by rw [beq_eq_false_iff_ne]; omega
  clear hx
  go_enter Try.func77, Try.ntmps77
  go_wp2_with fail
  refine (HI.out _).mono ?_
  rintro r w1 ⟨rfl, rfl⟩
  go_wp2_with fail
  refine (HI.out _).mono ?_
  rintro r w1 ⟨rfl, rfl⟩
  go_wp2
  go_ret2
  exact ⟨rfl, rfl⟩
set_option maxHeartbeats 2000000 in
/-- take: no digit, ahead of the first one. -/
theorem take_ahead {w : World} {b o : Nat} {p x : Nat} (hc1 : w.cell? ⟨b, o + 1, none⟩ = some (.int .i64 p)) (hp : p < 2) (hx : ¬ (48 ≤ x ∧ x ≤ 57)) (h45 : ¬ (x = 45 ∧ p = 0)) :
    Calls Try.prog 77 #[.pointer (some ⟨b, o, none⟩), .int .u8 x] w fun r w' => r = .returned (.tuple #[.bool false, .int .i64 2]) ∧ w = w' := by
  have HI := Lib.hid (isDigit_any x false (by simp; omega))
  have HH := Lib.hid (has_at p (by omega) hc1 false (by simp; omega))
  by_cases h : x = 45
  · subst h
    obtain rfl : p = 1 := by omega
    clear hx hp h45
    go_enter Try.func77, Try.ntmps77
    go_wp2_with fail
    refine (HI.out _).mono ?_
    rintro r w1 ⟨rfl, rfl⟩
    go_wp2_with fail
    refine (HI.out _).mono ?_
    rintro r w1 ⟨rfl, rfl⟩
    go_wp2_with fail
    refine HH.out.mono ?_
    rintro r w1 ⟨rfl, rfl⟩
    go_wp2
    go_ret2
    exact ⟨rfl, rfl⟩
  · have hz : ((x : Int) == 45) = false := by rw [beq_eq_false_iff_ne]; omega
    clear hx hp h45 h
    go_enter Try.func77, Try.ntmps77
    go_wp2_with fail
    refine (HI.out _).mono ?_
    rintro r w1 ⟨rfl, rfl⟩
    go_wp2_with fail
    refine (HI.out _).mono ?_
    rintro r w1 ⟨rfl, rfl⟩
    go_wp2_with fail
    refine HH.out.mono ?_
    rintro r w1 ⟨rfl, rfl⟩
    go_wp2
    go_ret2
    exact ⟨rfl, rfl⟩
set_option maxHeartbeats 4000000 in
/-- take: no digit, behind one. -/
theorem dtake_end {w : World} {b o : Nat} {p x : Nat} (hc1 : w.cell? ⟨b, o + 1, none⟩ = some (.int .i64 p)) (hp : p = 2 ∨ p = 3) (hx : ¬ (48 ≤ x ∧ x ≤ 57)) (e : Nat) (he : e = if x = 46 ∨ x = 101 ∨ x = 69 then 6 else 0) :
    Calls Try.prog 77 #[.pointer (some ⟨b, o, none⟩), .int .u8 x] w fun r w' => r = .returned (.tuple #[.bool false, .int .i64 e]) ∧ w = w' := by
  have HI := Lib.hid (isDigit_any x false (by simp; omega))
  have HH := Lib.hid (has_at p (by omega) hc1 true (by simp; omega))
  by_cases a1 : x = 46
  · obtain rfl : e = 6 := by rw [he, if_pos (by omega)]
    clear he hx
    subst a1
    rcases hp with rfl | rfl
    all_goals
      go_enter Try.func77, Try.ntmps77
      go_wp2_with fail
      refine (HI.out _).mono ?_
      rintro r w1 ⟨rfl, rfl⟩
      go_wp2_with fail
      refine (HI.out _).mono ?_
      rintro r w1 ⟨rfl, rfl⟩
      go_wp2_with fail
      refine HH.out.mono ?_
      rintro r w1 ⟨rfl, rfl⟩
      go_wp2
      go_ret2
      exact ⟨rfl, rfl⟩
  by_cases a2 : x = 101
  · obtain rfl : e = 6 := by rw [he, if_pos (by omega)]
    clear he hx a1
    subst a2
    rcases hp with rfl | rfl
    all_goals
      go_enter Try.func77, Try.ntmps77
      go_wp2_with fail
      refine (HI.out _).mono ?_
      rintro r w1 ⟨rfl, rfl⟩
      go_wp2_with fail
      refine (HI.out _).mono ?_
      rintro r w1 ⟨rfl, rfl⟩
      go_wp2_with fail
      refine HH.out.mono ?_
      rintro r w1 ⟨rfl, rfl⟩
      go_wp2
      go_ret2
      exact ⟨rfl, rfl⟩
  by_cases a3 : x = 69
  · obtain rfl : e = 6 := by rw [he, if_pos (by omega)]
    clear he hx a1 a2
    subst a3
    rcases hp with rfl | rfl
    all_goals
      go_enter Try.func77, Try.ntmps77
      go_wp2_with fail
      refine (HI.out _).mono ?_
      rintro r w1 ⟨rfl, rfl⟩
      go_wp2_with fail
      refine (HI.out _).mono ?_
      rintro r w1 ⟨rfl, rfl⟩
      go_wp2_with fail
      refine HH.out.mono ?_
      rintro r w1 ⟨rfl, rfl⟩
      go_wp2
      go_ret2
      exact ⟨rfl, rfl⟩
  obtain rfl : e = 0 := by rw [he, if_neg (by omega)]
  have z1 : ((x : Int) == 46) = false := by rw [beq_eq_false_iff_ne]; omega
  have z2 : ((x : Int) == 101) = false := by rw [beq_eq_false_iff_ne]; omega
  have z3 : ((x : Int) == 69) = false := by rw [beq_eq_false_iff_ne]; omega
  clear he hx a1 a2 a3
  by_cases a4 : x = 45
  · subst a4
    clear z1 z2 z3
    rcases hp with rfl | rfl
    all_goals
      go_enter Try.func77, Try.ntmps77
      go_wp2_with fail
      refine (HI.out _).mono ?_
      rintro r w1 ⟨rfl, rfl⟩
      go_wp2_with fail
      refine (HI.out _).mono ?_
      rintro r w1 ⟨rfl, rfl⟩
      go_wp2_with fail
      refine HH.out.mono ?_
      rintro r w1 ⟨rfl, rfl⟩
      go_wp2
      go_ret2
      exact ⟨rfl, rfl⟩
  · have z4 : ((x : Int) == 45) = false := by rw [beq_eq_false_iff_ne]; omega
    clear a4
    rcases hp with rfl | rfl
    all_goals
      go_enter Try.func77, Try.ntmps77
      go_wp2_with fail
      refine (HI.out _).mono ?_
      rintro r w1 ⟨rfl, rfl⟩
      go_wp2_with fail
      refine (HI.out _).mono ?_
      rintro r w1 ⟨rfl, rfl⟩
      go_wp2_with fail
      refine HH.out.mono ?_
      rintro r w1 ⟨rfl, rfl⟩
      go_wp2
      go_ret2
      exact ⟨rfl, rfl⟩
/-- A byte that is neither taken nor changes anything. -/
theorem take_none {w : World} {b o : Nat} {p : Nat} {m : Bool} {v x : Nat} (h : DAt w b o (.num p m v)) (h1 : ¬ (x = 45 ∧ p = 0)) (h2 : ¬ ((48 ≤ x ∧ x ≤ 57) ∧ p ≠ 2)) (e : Nat) (he : e = errD (stepD (.num p m v) x).1) :
    Calls Try.prog 77 #[.pointer (some ⟨b, o, none⟩), .int .u8 x] w fun r w' => r = .returned (.tuple #[.bool false, .int .i64 e]) ∧ w = w' := by
  obtain ⟨hw, hi, lo, hA, _⟩ := h
  obtain ⟨hp3, _⟩ := hw
  obtain ⟨_, ⟨hc1, _⟩, _⟩ := hA.five
  clear hA
  simp only [stepD] at he
  rw [if_neg h1, if_neg h2] at he
  by_cases hd : 48 ≤ x ∧ x ≤ 57
  · obtain rfl : p = 2 := by omega
    rw [if_pos (.inl hd)] at he
    subst he
    exact take_behind hc1 hd
  · by_cases hp : p < 2
    · rw [if_pos (.inr hp)] at he
      subst he
      exact take_ahead hc1 hp hd h1
    · rw [if_neg (by omega)] at he
      refine dtake_end hc1 (by omega) hd e ?_
      rw [he]
      split <;> rfl
end Go.Proofs.Ytacngbngljfedaa
/-
  CONTRACTS of decimal.Number: Step, whole, End.
-/
namespace Go.Proofs.Ytacngbngljfedaa
open Go.RowKit
open Go.Lib
theorem cell_frozen0 {w : World} {b o : Nat} {v : Value} {vs : List Value} (h : At w b o (v :: vs)) : w.cell? ⟨b, o, none⟩ = some v ∧ w.frozen? ⟨b, o, none⟩ = false := h 0 v rfl
set_option maxHeartbeats 1000000 in
/-- Step's frame around take. -/
theorem step_core {w : World} {b o x : Nat} (hc : w.cell? ⟨b, o, none⟩ = some (.int .i64 0)) (q : Bool) (e : Nat) (R : World → Prop)
    (hT : Calls Try.prog 77 #[.pointer (some ⟨b, o, none⟩), .int .u8 x] w fun r w' => r = .returned (.tuple #[.bool q, .int .i64 e]) ∧ (∃ v, w'.cell? ⟨b, o, none⟩ = some v ∧ w'.frozen? ⟨b, o, none⟩ = false) ∧ R (w'.setCell ⟨b, o, none⟩ (.int .i64 e))) :
    Calls Try.prog 68 #[.pointer (some ⟨b, o, none⟩), .int .u8 x] w fun r w' => r = .returned (.tuple #[.bool q, .int .i64 e]) ∧ R w' := by
  have HT := Lib.hid hT
  clear hT
  go_enter Try.func68, Try.ntmps68
  go_wp2_with fail
  refine HT.out.mono ?_
  rintro r w1 ⟨rfl, ⟨v, hv, hfz⟩, hR⟩
  have HR := Lib.hid hR
  clear hR
  go_wp2
  go_ret2
  exact ⟨rfl, HR.out⟩
set_option maxHeartbeats 1000000 in
theorem step_bad {w : World} {b o x : Nat} (e : Nat) (he : e ≠ 0) (hc : w.cell? ⟨b, o, none⟩ = some (.int .i64 e)) :
    Calls Try.prog 68 #[.pointer (some ⟨b, o, none⟩), .int .u8 x] w fun r w' => r = .returned (.tuple #[.bool false, .int .i64 e]) ∧ ∃ q, w' = w.drewN q := by
  have hz : ((e : Int) != 0) = true := by simp; omega
  clear he
  go_enter Try.func68, Try.ntmps68
  go_wp2
  go_quiet (fail)
  go_wp2
  go_ret2
  exact ⟨rfl, _, rfl⟩
theorem dstep_nil (x : Int) (w : World) : Calls Try.prog 68 #[.pointer none, .int .u8 x] w fun r w' => r = .returned (.tuple #[.bool false, .int .i64 14]) ∧ w' = w := by
  go_enter Try.func68, Try.ntmps68
  go_wp2
  go_ret2
  exact ⟨rfl, rfl⟩
/-- What storing the error leaves. -/
theorem dat_err0 {w : World} {b o : Nat} {p : Nat} {m : Bool} {v : Nat} (h : DAt w b o (.num p m v)) : DPost w b o (.num p m v) (w.setCell ⟨b, o, none⟩ (.int .i64 0)) := by
  obtain ⟨hw, hi, lo, hA, hf⟩ := h
  exact ⟨⟨hw, hi, lo, hA.set 0 (by simp [nmCells]) (.int .i64 0), hf⟩, sub_setCell w o _ (by omega)⟩
theorem dat_bad {w : World} {b o : Nat} {p : Nat} {m : Bool} {v : Nat} (f : Bool) (h : DAt w b o (.num p m v)) : DPost w b o (.bad f) (w.setCell ⟨b, o, none⟩ (.int .i64 (errD (.bad f)))) := by
  obtain ⟨hw, hi, lo, hA, hf⟩ := h
  exact ⟨⟨p, m, hi, lo, hA.set 0 (by simp [nmCells]) (.int .i64 (errD (.bad f)))⟩, sub_setCell w o _ (by omega)⟩
theorem DPost.trans {w w1 w2 : World} {b o : Nat} {s s1 : Dec} (h : DPost w b o s1 w1) (k : DPost w1 b o s w2) : DPost w b o s w2 := ⟨k.1, h.2.trans k.2⟩
theorem DAt.first {w : World} {b o : Nat} {s : Dec} (h : DAt w b o s) : w.cell? ⟨b, o, none⟩ = some (.int .i64 (errD s)) ∧ w.frozen? ⟨b, o, none⟩ = false := by
  obtain ⟨_, _, _, _, h⟩ := h.cells
  exact cell_frozen0 h
/-- STEP. -/
theorem dstep_at {w : World} {b o : Nat} {s : Dec} (h : DAt w b o s) (x : Nat) :
    Calls Try.prog 68 #[.pointer (some ⟨b, o, none⟩), .int .u8 x] w fun r w' => r = .returned (.tuple #[.bool (stepD s x).2, .int .i64 (errD (stepD s x).1)]) ∧ DPost w b o (stepD s x).1 w' := by
  cases s with
  | bad f =>
    have hc := h.first.1
    have he : errD (.bad f) ≠ 0 := by cases f <;> decide
    refine (step_bad _ he hc).mono ?_
    rintro r w' ⟨rfl, q, rfl⟩
    exact ⟨rfl, h.drewN q, (Sub.refl _ _ _ _).drewN q⟩
  | num p m v =>
    have hc : w.cell? ⟨b, o, none⟩ = some (.int .i64 0) := h.first.1
    by_cases c1 : x = 45 ∧ p = 0
    · obtain ⟨rfl, rfl⟩ := c1
      have hs : stepD (.num 0 m v) 45 = (.num 1 true v, true) := by simp only [stepD]; rw [if_pos ⟨by trivial, by trivial⟩]
      rw [hs]
      refine step_core hc true 0 _ ?_
      refine (take_minus h).mono ?_
      rintro r w1 ⟨rfl, hP⟩
      exact ⟨rfl, ⟨_, hP.1.first⟩, hP.trans (dat_err0 hP.1)⟩
    by_cases c2 : (48 ≤ x ∧ x ≤ 57) ∧ p ≠ 2
    · obtain ⟨p', v', hs⟩ : ∃ p' v', stepD (.num p m v) x = (.num p' m v', true) := by
        simp only [stepD]
        rw [if_neg c1, if_pos c2]
        split
        · exact ⟨_, _, rfl⟩
        · exact ⟨_, _, rfl⟩
      have hT := dtake_digit c2.2 c2.1 h
      rw [hs] at hT ⊢
      refine step_core hc true 0 _ ?_
      refine hT.mono ?_
      rintro r w1 ⟨rfl, hP⟩
      exact ⟨rfl, ⟨_, hP.1.first⟩, hP.trans (dat_err0 hP.1)⟩
    · have hT := take_none h c1 c2 _ rfl
      have hs : (stepD (.num p m v) x).2 = false ∧ ((stepD (.num p m v) x).1 = .num p m v ∨ ∃ f, (stepD (.num p m v) x).1 = .bad f) := by
        simp only [stepD]
        rw [if_neg c1, if_neg c2]
        split
        · exact ⟨rfl, .inr ⟨_, rfl⟩⟩
        · split
          · exact ⟨rfl, .inr ⟨_, rfl⟩⟩
          · exact ⟨rfl, .inl rfl⟩
      obtain ⟨hs1, hs2⟩ := hs
      rw [hs1]
      refine step_core hc false _ _ ?_
      refine hT.mono ?_
      rintro r w1 ⟨rfl, rfl⟩
      refine ⟨rfl, ⟨_, h.first⟩, ?_⟩
      rcases hs2 with hs2 | ⟨f, hs2⟩
      · rw [hs2]; exact dat_err0 h
      · rw [hs2]; exact dat_bad f h
/-- What whole tells. -/
theorem end_bad (f : Bool) : endD (.bad f) = ((false, 0), errD (.bad f)) := rfl
theorem new_cells {w w1 : World} {c : Array Value} {t : TypeId} (hB : Below (w.alloc (.cells c t)).heap.size (w.alloc (.cells c t)) w1) (i : Nat) (v : Value) (hv : c[i]? = some v) : w1.cell? ⟨w.heap.size, i, none⟩ = some v ∧ w1.frozen? ⟨w.heap.size, i, none⟩ = false := by
  have hk := hB.block w.heap.size (by simp)
  refine ⟨(World.cell?_of_block (w := w.alloc (.cells c t)) (a := ⟨w.heap.size, i, none⟩) hk).trans ?_, (World.frozen?_of_block (w := w.alloc (.cells c t)) (a := ⟨w.heap.size, i, none⟩) hk).trans ?_⟩
  · rw [World.cell?_alloc_new]; exact hv
  · exact World.frozen?_alloc_new _ _ _ _
theorem alloc_cells {w : World} {b o : Nat} {vs : List Value} (h : At w b o vs) (x : Obj) (hv : vs ≠ []) : At (w.alloc x) b o vs := h.alloc hv x
set_option maxHeartbeats 1000000 in
theorem whole_plain {w : World} {b o p h l : Nat} {m : Bool} (hm : m = false ∨ m = true ∧ p = 2) (hA : At w b o (nmCells 0 p m h l)) (n e : Nat) (hr : h ≠ 0 ∧ n = 0 ∧ e = 7 ∨ h = 0 ∧ n = l ∧ e = 0) (hh : h < 100) :
    Calls Try.prog 74 #[.pointer (some ⟨b, o, none⟩)] w fun r w' => r = .returned (.tuple #[.agg #[.bool false, .int .u64 n], .int .i64 e]) ∧ Below w.heap.size w w' := by
  have hw : IntKind.u64.wrap ((h : Int) - 0) = (h : Int) := by rw [Int.sub_zero]; exact wrap_u64_of _ (by omega) (by omega)
  have hw' : IntKind.u64.wrap (h : Int) = (h : Int) := wrap_u64_of _ (by omega) (by omega)
  have hA' : ∀ x, At (w.alloc x) b o (nmCells 0 p m h l) := fun x => alloc_cells hA x (by simp [nmCells])
  have hc1 := fun x => (hA' x).five.2.1.1
  have hc2 := fun x => (hA' x).five.2.2.1.1
  have hc3 := fun x => (hA' x).five.2.2.2.1.1
  have hc4 := fun x => (hA' x).five.2.2.2.2.1
  have HB := Lib.hid (fun x q => below_drewN ((Below.refl w.heap.size w).alloc (Nat.le_refl _) x) q)
  clear hA hA'
  rcases hm with rfl | ⟨rfl, rfl⟩ <;> rcases hr with ⟨h0, rfl, rfl⟩ | ⟨rfl, rfl, rfl⟩
  · have hz : ((h : Int) != 0) = true := by simp; omega
    clear h0 hh
    go_enter Try.func74, Try.ntmps74
    go_wp2
    go_quiet (fail)
    go_wp2
    simp [bodyPost, results, Try.results74, go_sem]
    exact ((HB.out _ _).setCell (Nat.le_refl _) _).setCell (Nat.le_refl _) _
  · have hz : (((0 : Nat) : Int) != 0) = false := rfl
    go_enter Try.func74, Try.ntmps74
    go_wp2
    go_quiet (fail)
    go_wp2
    simp [bodyPost, results, Try.results74, go_sem]
    exact ((HB.out _ _).setCell (Nat.le_refl _) _).setCell (Nat.le_refl _) _
  · have hz : ((h : Int) != 0) = true := by simp; omega
    clear h0 hh
    go_enter Try.func74, Try.ntmps74
    go_wp2
    go_quiet (fail)
    go_wp2
    simp [bodyPost, results, Try.results74, go_sem]
    exact ((HB.out _ _).setCell (Nat.le_refl _) _).setCell (Nat.le_refl _) _
  · have hz : (((0 : Nat) : Int) != 0) = false := rfl
    go_enter Try.func74, Try.ntmps74
    go_wp2
    go_quiet (fail)
    go_wp2
    simp [bodyPost, results, Try.results74, go_sem]
    exact ((HB.out _ _).setCell (Nat.le_refl _) _).setCell (Nat.le_refl _) _
set_option maxHeartbeats 1000000 in
theorem whole_minus {w : World} {b o h l : Nat} (hA : At w b o (nmCells 0 3 true h l)) (mag less k : Nat) (hS : ∀ W, (callFunc 78 #[.int .u64 l, .int .u64 1, .int .u64 0]).run Try.prog W = .ok (.value (.tuple #[.int .u64 mag, .int .u64 less])) W)
    (hk : h = less + k) (hh : h < 100) (q : Bool) (n e : Nat) (hr : k ≠ 0 ∧ q = false ∧ n = 0 ∧ e = 7 ∨ k = 0 ∧ q = true ∧ n = mag ∧ e = 0) :
    Calls Try.prog 74 #[.pointer (some ⟨b, o, none⟩)] w fun r w' => r = .returned (.tuple #[.agg #[.bool q, .int .u64 n], .int .i64 e]) ∧ Below w.heap.size w w' := by
  have hw : IntKind.u64.wrap ((h : Int) - (less : Int)) = (k : Int) := by rw [wrap_u64_of _ (by omega) (by omega)]; omega
  have hA' : ∀ x, At (w.alloc x) b o (nmCells 0 3 true h l) := fun x => alloc_cells hA x (by simp [nmCells])
  have hc1 := fun x => (hA' x).five.2.1.1
  have hc2 := fun x => (hA' x).five.2.2.1.1
  have hc3 := fun x => (hA' x).five.2.2.2.1.1
  have hc4 := fun x => (hA' x).five.2.2.2.2.1
  have HB := Lib.hid (fun x q => below_drewN ((Below.refl w.heap.size w).alloc (Nat.le_refl _) x) q)
  have HS := Lib.hid hS
  clear hA hA' hS hh hk
  rcases hr with ⟨h0, rfl, rfl, rfl⟩ | ⟨rfl, rfl, rfl, rfl⟩
  · have hz : ((k : Int) != 0) = true := by simp; omega
    clear h0
    go_enter Try.func74, Try.ntmps74
    go_wp2
    go_quiet (fail)
    go_wp2_with (simp only [HS.out])
    simp [bodyPost, results, Try.results74, go_sem]
    exact ((HB.out _ _).setCell (Nat.le_refl _) _).setCell (Nat.le_refl _) _
  · have hz : (((0 : Nat) : Int) != 0) = false := rfl
    go_enter Try.func74, Try.ntmps74
    go_wp2
    go_quiet (fail)
    go_wp2_with (simp only [HS.out])
    simp [bodyPost, results, Try.results74, go_sem]
    exact ((HB.out _ _).setCell (Nat.le_refl _) _).setCell (Nat.le_refl _) _
/-- whole: of a number with a digit. -/
theorem dwhole_at {w : World} {b o p v : Nat} {m : Bool} (h : DAt w b o (.num p m v)) (hp : 2 ≤ p) :
    Calls Try.prog 74 #[.pointer (some ⟨b, o, none⟩)] w fun r w' => r = .returned (.tuple #[.agg #[.bool (endD (.num p m v)).1.1, .int .u64 (endD (.num p m v)).1.2], .int .i64 (endD (.num p m v)).2]) ∧ Below w.heap.size w w' := by
  obtain ⟨⟨h1, h2, h3, _, _⟩, hi, lo, hA, hf1, hf2, hf3⟩ := h
  simp only [endD]
  rw [if_neg (by omega)]
  by_cases hm : m = true ∧ p ≠ 2
  · obtain ⟨rfl, hp2⟩ := hm
    obtain rfl : p = 3 := by omega
    have hv := h3 rfl
    rw [if_pos ⟨by trivial, hp2⟩]
    have hS := fun W => run_sub64 lo 1 0 (by decide) W
    have hS' : ∀ W, (callFunc 78 #[.int .u64 lo, .int .u64 1, .int .u64 0]).run Try.prog W = .ok (.value (.tuple #[.int .u64 (((lo + 18446744073709551616 - 1 - 0) % 18446744073709551616 : Nat) : Int), .int .u64 ((if lo < 1 + 0 then 1 else 0 : Nat) : Int)])) W := hS
    by_cases hl : lo < 1 + 0
    · rw [if_pos hl] at hS'
      obtain rfl : lo = 0 := by omega
      by_cases hr : v ≤ 18446744073709551616
      · rw [if_pos hr]
        refine whole_minus hA _ 1 (hi - 1) hS' (by omega) hf1 true _ 0 (.inr ⟨by omega, rfl, ?_, rfl⟩)
        show v - 1 = _
        omega
      · rw [if_neg hr]
        exact whole_minus hA _ 1 (hi - 1) hS' (by omega) hf1 false _ 7 (.inl ⟨by omega, rfl, rfl, rfl⟩)
    · rw [if_neg hl] at hS'
      by_cases hr : v ≤ 18446744073709551616
      · rw [if_pos hr]
        refine whole_minus hA _ 0 hi hS' (by omega) hf1 true _ 0 (.inr ⟨by omega, rfl, ?_, rfl⟩)
        show v - 1 = _
        omega
      · rw [if_neg hr]
        exact whole_minus hA _ 0 hi hS' (by omega) hf1 false _ 7 (.inl ⟨by omega, rfl, rfl, rfl⟩)
  · rw [if_neg hm]
    have hm' : m = false ∨ m = true ∧ p = 2 := by
      cases m with
      | false => exact .inl rfl
      | true => exact .inr ⟨rfl, by by_cases h : p = 2; exact h; exact absurd ⟨rfl, h⟩ hm⟩
    by_cases hr : v < 18446744073709551616
    · rw [if_pos hr]
      exact whole_plain hm' hA _ _ (.inr ⟨by omega, by show v = lo; omega, rfl⟩) hf1
    · rw [if_neg hr]
      exact whole_plain hm' hA _ _ (.inl ⟨by omega, rfl, rfl⟩) hf1
set_option maxHeartbeats 1000000 in
theorem end_err {w : World} {b o : Nat} (e : Nat) (he : e ≠ 0) {p h l : Nat} {m : Bool} (hA : At w b o (nmCells e p m h l)) :
    Calls Try.prog 62 #[.pointer (some ⟨b, o, none⟩)] w fun r w' => r = .returned (.tuple #[.agg #[.bool false, .int .u64 0], .int .i64 e]) ∧ Below w.heap.size w w' := by
  have hz : ((e : Int) != 0) = true := by simp; omega
  have hc0 := fun x => (alloc_cells hA x (by simp [nmCells])).five.1.1
  have HB := Lib.hid (fun x => (Below.refl w.heap.size w).alloc (Nat.le_refl _) x)
  clear hA he
  go_enter Try.func62, Try.ntmps62
  go_wp2
  go_region
  go_wp2
  simp [bodyPost, results, Try.results62, go_sem]
  exact (HB.out _).drew
set_option maxHeartbeats 1000000 in
theorem end_none {w : World} {b o : Nat} {p h l : Nat} {m : Bool} (hp : p < 2) (hA : At w b o (nmCells 0 p m h l)) :
    Calls Try.prog 62 #[.pointer (some ⟨b, o, none⟩)] w fun r w' => r = .returned (.tuple #[.agg #[.bool false, .int .u64 0], .int .i64 2]) ∧ Below w.heap.size w w' := by
  have hA' := fun x => alloc_cells hA x (by simp [nmCells])
  have hc0 := fun x => (hA' x).five.1.1
  have HD := Lib.hid (fun x => has_at p (by omega) (hA' x).five.2.1.1 false (by simp; omega))
  have HB := Lib.hid (fun x => (Below.refl w.heap.size w).alloc (Nat.le_refl _) x)
  clear hA hA' hp
  go_enter Try.func62, Try.ntmps62
  go_wp2_with fail
  refine (HD.out _).mono ?_
  rintro r w1 ⟨rfl, rfl⟩
  go_wp2
  simp [bodyPost, results, Try.results62, go_sem]
  exact HB.out _
set_option maxHeartbeats 1000000 in
theorem end_some {w : World} {b o p v : Nat} {m : Bool} (hp : 2 ≤ p) (h : DAt w b o (.num p m v)) :
    Calls Try.prog 62 #[.pointer (some ⟨b, o, none⟩)] w fun r w' => r = .returned (.tuple #[.agg #[.bool (endD (.num p m v)).1.1, .int .u64 (endD (.num p m v)).1.2], .int .i64 (endD (.num p m v)).2]) ∧ Below w.heap.size w w' := by
  have hp3 := h.wf.1
  have hA : ∀ x, DAt (w.alloc x) b o (.num p m v) := fun x => h.map fun vs hv k => k.alloc (by intro e; rw [e] at hv; simp at hv) x
  have hc0 := fun x => (hA x).first.1
  simp only [errD] at hc0
  have HD := Lib.hid (fun x => has_at (w := w.alloc x) (b := b) (o := o) p hp3 (by
    obtain ⟨_, _, _, k, _⟩ := hA x
    exact k.five.2.1.1) true (by simp; omega))
  have HW := Lib.hid (fun x => dwhole_at (hA x) hp)
  have HB := Lib.hid (fun x => (Below.refl w.heap.size w).alloc (Nat.le_refl _) x)
  clear hA h hp hp3
  generalize (endD (.num p m v)) = r at *
  obtain ⟨⟨q, n⟩, e⟩ := r
  simp only [] at HW ⊢
  go_enter Try.func62, Try.ntmps62
  go_wp2_with fail
  refine (HD.out _).mono ?_
  rintro r w1 ⟨rfl, rfl⟩
  go_wp2_with fail
  refine (HW.out _).mono ?_
  rintro r w1 ⟨rfl, hB⟩
  obtain ⟨k0, f0⟩ := new_cells hB 0 _ rfl
  obtain ⟨k1, f1⟩ := new_cells hB 1 _ rfl
  have hB2 := Lib.hid ((HB.out _).trans (hB.mono (by simp)))
  clear hB
  go_wp2
  simp [bodyPost, results, Try.results62, go_sem, k0, k1]
  exact (hB2.out.setCell (Nat.le_refl _) _).setCell (Nat.le_refl _) _
theorem dend_nil (w : World) : Calls Try.prog 62 #[.pointer none] w fun r w' => r = .returned (.tuple #[.agg #[.bool false, .int .u64 0], .int .i64 14]) ∧ Below w.heap.size w w' := by
  have HB := Lib.hid (fun x => (Below.refl w.heap.size w).alloc (Nat.le_refl _) x)
  go_enter Try.func62, Try.ntmps62
  go_wp2
  simp [bodyPost, results, Try.results62, go_sem]
  exact HB.out _
/-- END. -/
theorem dend_at {w : World} {b o : Nat} {s : Dec} (h : DAt w b o s) :
    Calls Try.prog 62 #[.pointer (some ⟨b, o, none⟩)] w fun r w' => r = .returned (.tuple #[.agg #[.bool (endD s).1.1, .int .u64 (endD s).1.2], .int .i64 (endD s).2]) ∧ Below w.heap.size w w' := by
  cases s with
  | bad f =>
    obtain ⟨p, m, hi, lo, hA⟩ := h
    exact end_err _ (by cases f <;> decide) hA
  | num p m v =>
    by_cases hp : p < 2
    · obtain ⟨_, hi, lo, hA, _⟩ := h
      have he : endD (.num p m v) = ((false, 0), 2) := by simp only [endD]; rw [if_pos hp]
      rw [he]
      exact end_none hp hA
    · exact end_some (by omega) h
end Go.Proofs.Ytacngbngljfedaa
