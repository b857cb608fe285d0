/-
  CONTRACTS of escape.Reader (Step, Whole and what they call) WHEREVER IT LIES: its eight cells, from place o of block b on, hold the state that EscPure names; no other cell turns.
-/
import Derived.Test.YteonbajndghfcaaUtfCk
import Derived.Test.YteonbajndghfcaaEscFns
import Derived.Test.YteonbajndghfcaaRune
namespace Go.Proofs.Yteonbajndghfcaa
open Go.RowKit
open Go.Lib
/-- What is told of a state: 9 of UTF-8, 2 of form, 0: no error. -/
def errI : Ins → Nat
  | .bad true => 9
  | .bad false => 2
  | _ => 0
def seenI : Ins → Nat
  | .back => 1
  | .hex k _ => k + 2
  | .high _ k _ => k
  | _ => 0
def codeI : Ins → Nat
  | .hex _ v => v
  | .high _ _ w => w
  | _ => 0
def highI : Ins → Nat
  | .high h _ _ => h
  | _ => 0
def utfI : Ins → Option (Nat × Nat × Nat)
  | .text n lo hi => some (n, lo, hi)
  | _ => st0
/-- States that there are. -/
def WfI : Ins → Prop
  | .text n lo hi => n ≤ 3 ∧ Conts (some (n, lo, hi))
  | .back => True
  | .hex k v => k ≤ 3 ∧ v < 16 ^ k
  | .high h k w => 55296 ≤ h ∧ h ≤ 56319 ∧ (k ≤ 2 ∧ w = 0 ∨ k = 3 ∧ w = 13 ∨ k = 4 ∧ 220 ≤ w ∧ w ≤ 223 ∨ k = 5 ∧ 3520 ≤ w ∧ w ≤ 3583)
  | .bad _ => True
theorem Sub.keep1 {w w' : World} {b o o' n : Nat} {vs : List Value} (h : At w b o' vs) (k : Sub b o n w w') (hd : o' + vs.length ≤ o ∨ o + n ≤ o') : At w' b o' vs := h.sub k hd
theorem At.tail {w : World} {b o : Nat} {v0 v1 v2 : Value} (h : At w b (o + 5) [v0, v1, v2]) :
    (w.cell? ⟨b, o + 5, none⟩ = some v0 ∧ w.frozen? ⟨b, o + 5, none⟩ = false) ∧ (w.cell? ⟨b, o + 6, none⟩ = some v1 ∧ w.frozen? ⟨b, o + 6, none⟩ = false) ∧
    (w.cell? ⟨b, o + 7, none⟩ = some v2 ∧ w.frozen? ⟨b, o + 7, none⟩ = false) := ⟨h 0 v0 rfl, h 1 v1 rfl, h 2 v2 rfl⟩
/-- seen, code, high. -/
abbrev tail3 (s c h : Nat) : List Value := [.int .i64 s, .int .i64 c, .int .i64 h]
/-- How end leaves the three cells. -/
def EndPost (w : World) (b o c : Nat) (w' : World) : Prop := At w' b (o + 5) (tail3 0 0 c) ∧ Sub b (o + 5) 3 w w'
theorem three_set {w : World} {b o s c h : Nat} (h0 : At w b (o + 5) (tail3 s c h)) (q : Nat) :
    At ((((w.drewN q).setCell ⟨b, o + 5, none⟩ (.int .i64 0)).setCell ⟨b, o + 6, none⟩ (.int .i64 0)).setCell ⟨b, o + 7, none⟩ (.int .i64 0)) b (o + 5) (tail3 0 0 0) ∧
    Sub b (o + 5) 3 w ((((w.drewN q).setCell ⟨b, o + 5, none⟩ (.int .i64 0)).setCell ⟨b, o + 6, none⟩ (.int .i64 0)).setCell ⟨b, o + 7, none⟩ (.int .i64 0)) := by
  have a0 : At (w.drewN q) b (o + 5) (tail3 s c h) := h0
  have e1 := a0.set 0 (by simp) (.int .i64 0)
  have e2 := e1.set 1 (by simp) (.int .i64 0)
  have e3 := e2.set 2 (by simp) (.int .i64 0)
  exact ⟨e3, ((((Sub.refl b (o + 5) 3 w).drewN q).setCell (o + 5) _ (by omega)).setCell (o + 6) _ (by omega)).setCell (o + 7) _ (by omega)⟩
set_option maxRecDepth 100000 in
set_option maxHeartbeats 800000 in
/-- end: of a rune that is none of the surrogates. -/
theorem end_rune (w : World) (b o s c : Nat) (hr : IsRune c) (h : At w b (o + 5) (tail3 s c 0)) :
    Calls Try.prog 49 #[.pointer (some ⟨b, o, none⟩)] w fun e w' => e = .returned (.tuple #[.string ⟨(encL c).toArray⟩, .int .i64 0]) ∧ EndPost w b o 0 w' := by
  obtain ⟨⟨hc0, hf0⟩, ⟨hc1, hf1⟩, hc2', hf2⟩ := h.tail
  have hc2 : w.cell? ⟨b, o + 7, none⟩ = some (.int .i64 0) := hc2'
  clear hc2'
  have HP := Lib.hid (three_set h)
  have hP := Lib.hid (put_ok c hr)
  have hE := enc_list c
  have HR := Lib.hid (show ((55296 : Int) ≤ c) = False ∨ (((55296 : Int) ≤ c) = True ∧ ((c : Int) < 56320) = False) by unfold IsRune at hr; simp only [eq_iff_iff, iff_false, iff_true]; omega)
  clear h hr
  rw [hE]
  clear hE
  generalize Utf8.encode (c : Int) = x at *
  go_enter Try.func49, Try.ntmps49
  go_wp2_with fail
  go_quiet (fail)
  rcases HR.out with h1 | ⟨h1, h2⟩
  · go_wp2_with fail
    refine (hP.out _).mono ?_
    rintro e w' ⟨rfl, rfl⟩
    go_wp2
    go_ret2
    exact ⟨rfl, HP.out _⟩
  · go_wp2_with fail
    refine (hP.out _).mono ?_
    rintro e w' ⟨rfl, rfl⟩
    go_wp2
    go_ret2
    exact ⟨rfl, HP.out _⟩
set_option maxRecDepth 100000 in
set_option maxHeartbeats 800000 in
/-- end: of a high surrogate. -/
theorem end_sur (w : World) (b o s c : Nat) (hr : 55296 ≤ c ∧ c < 56320) (h : At w b (o + 5) (tail3 s c 0)) :
    Calls Try.prog 49 #[.pointer (some ⟨b, o, none⟩)] w fun e w' => e = .returned (.tuple #[.string ⟨#[]⟩, .int .i64 0]) ∧ EndPost w b o c w' := by
  obtain ⟨⟨hc0, hf0⟩, ⟨hc1, hf1⟩, hc2', hf2⟩ := h.tail
  have hc2 : w.cell? ⟨b, o + 7, none⟩ = some (.int .i64 0) := hc2'
  clear hc2'
  have HP := Lib.hid (fun q => And.intro ((three_set h q).1.set 2 (by simp) (.int .i64 c)) ((three_set h q).2.setCell (o + 7) (.int .i64 c) (by omega)))
  have h1 : ((55296 : Int) ≤ c) = True := by simp only [eq_iff_iff, iff_true]; omega
  have h2 : ((c : Int) < 56320) = True := by simp only [eq_iff_iff, iff_true]; omega
  clear h hr
  go_enter Try.func49, Try.ntmps49
  go_wp2_with fail
  go_quiet (fail)
  go_wp2
  go_ret2
  exact ⟨rfl, HP.out _⟩
set_option maxRecDepth 100000 in
set_option maxHeartbeats 800000 in
/-- end: of a low surrogate alone. -/
theorem end_low (w : World) (b o s c : Nat) (hr : 56320 ≤ c ∧ c ≤ 57343) (h : At w b (o + 5) (tail3 s c 0)) :
    Calls Try.prog 49 #[.pointer (some ⟨b, o, none⟩)] w fun e w' => e = .returned (.tuple #[.string ⟨#[]⟩, .int .i64 9]) ∧ EndPost w b o 0 w' := by
  obtain ⟨⟨hc0, hf0⟩, ⟨hc1, hf1⟩, hc2', hf2⟩ := h.tail
  have hc2 : w.cell? ⟨b, o + 7, none⟩ = some (.int .i64 0) := hc2'
  clear hc2'
  have HP := Lib.hid (three_set h)
  have hP := Lib.hid (put_no (c : Int) (.inr (.inr (by omega))))
  have h1 : ((55296 : Int) ≤ c) = True := by simp only [eq_iff_iff, iff_true]; omega
  have h2 : ((c : Int) < 56320) = False := by simp only [eq_iff_iff, iff_false]; omega
  clear h hr
  go_enter Try.func49, Try.ntmps49
  go_wp2_with fail
  go_quiet (fail)
  go_wp2_with fail
  refine (hP.out _).mono ?_
  rintro e w' ⟨rfl, rfl⟩
  go_wp2
  go_ret2
  exact ⟨rfl, HP.out _⟩
theorem pair_rune {h c : Nat} (hh : 55296 ≤ h ∧ h ≤ 56319) (hc : 56320 ≤ c ∧ c ≤ 57343) : IsRune (pairN h c) := by
  unfold IsRune pairN
  omega
set_option maxRecDepth 100000 in
set_option maxHeartbeats 800000 in
/-- end: of a pair. -/
theorem end_pair (w : World) (b o s c hi : Nat) (hh : 55296 ≤ hi ∧ hi ≤ 56319) (hr : 56320 ≤ c ∧ c ≤ 57343) (h : At w b (o + 5) (tail3 s c hi)) :
    Calls Try.prog 49 #[.pointer (some ⟨b, o, none⟩)] w fun e w' => e = .returned (.tuple #[.string ⟨(encL (pairN hi c)).toArray⟩, .int .i64 0]) ∧ EndPost w b o 0 w' := by
  obtain ⟨⟨hc0, hf0⟩, ⟨hc1, hf1⟩, hc2, hf2⟩ := h.tail
  have HP := Lib.hid (three_set h)
  have hP0 := put_ok (pairN hi c) (pair_rune hh hr)
  have hE := enc_list (pairN hi c)
  have hz : ((hi : Int) == 0) = false := by rw [beq_eq_false_iff_ne]; omega
  rw [hE]
  clear hE
  have hv : ((pairN hi c : Nat) : Int) = (65536 : Int) + ((hi : Int) - 55296) * 1024 + (c : Int) - 56320 := by unfold pairN; omega
  generalize hx : Utf8.encode ((pairN hi c : Nat) : Int) = x at *
  rw [hv] at hP0
  have hP := Lib.hid hP0
  clear h hv hP0 hx
  go_enter Try.func49, Try.ntmps49
  go_wp2_with fail
  go_quiet (fail)
  go_wp2_with fail
  refine (hP.out _).mono ?_
  rintro e w' ⟨rfl, rfl⟩
  go_wp2
  go_ret2
  exact ⟨rfl, HP.out _⟩
end Go.Proofs.Yteonbajndghfcaa
