/-
  CONTRACTS of lexer.Lexer, part I: Step, End, Held.
-/
import Derived.Test.YteonbajndghfcaaLexH
namespace Go.Proofs.Yteonbajndghfcaa
open Go.RowKit
open Go.Lib
/-- The first two cells: the error, the place. -/
def plX : Lx → Nat
  | .str _ _ => 1
  | .num _ => 2
  | .word _ _ => 3
  | _ => 0
theorem LAt.head {w : World} {b o : Nat} {s : Lx} (h : LAt w b o s) : (w.cell? ⟨b, o, none⟩ = some (.int .i64 (errX s)) ∧ w.frozen? ⟨b, o, none⟩ = false) ∧ (w.cell? ⟨b, o + 1, none⟩ = some (.int .i64 (plX s)) ∧ w.frozen? ⟨b, o + 1, none⟩ = false) := by
  match s, h with
  | .bad e, h => exact ⟨h.2 0 _ rfl, h.2 1 _ rfl⟩
  | .idle, h => exact ⟨h 0 _ rfl, h 1 _ rfl⟩
  | .str s t, h => exact at_two h.2.1
  | .num d, h => exact at_two h.2.1
  | .word k r, h => obtain ⟨W, i, _, h1, _⟩ := h; exact at_two h1
theorem LAt.err {w : World} {b o e : Nat} (h : LAt w b o (.bad e)) : e ≠ 0 := h.1
set_option maxRecDepth 100000 in
set_option maxHeartbeats 1000000 in
/-- TAKE. -/
theorem ltake_at {w : World} {b o : Nat} {s : Lx} (h : LAt w b o s) (he : errX s = 0) (y : UInt8) :
    Calls Try.prog 16 #[.pointer (some ⟨b, o, none⟩), .int .u8 y.toNat] w fun r w' => ∃ v, r = .returned (.tuple #[v, .int .i64 (errX (stepX s y).1)]) ∧ TPostL w b o (stepX s y) v w' := by
  obtain ⟨_, c1, f1⟩ := h.head
  match s, h, he with
  | .bad e, h, he => exact absurd he h.1
  | .idle, h, _ =>
    have HB : Hid (Calls Try.prog 22 #[.pointer (some ⟨b, o, none⟩), .int .u8 y.toNat] w fun r w' => ∃ v, r = .returned (.tuple #[v, .int .i64 (errX (stepX .idle y).1)]) ∧ TPostL w b o (stepX .idle y) v w') := Lib.hid ((begin_at h y.toNat).mono (by
      rintro r w' ⟨v, rfl, hT, hL⟩
      exact ⟨v, rfl, hL, fun _ => hT⟩))
    have c1' : w.cell? ⟨b, o + 1, none⟩ = some (.int .i64 0) := c1
    clear h c1
    generalize stepX .idle y = q at *
    generalize y.toNat = y' at *
    obtain ⟨E, hE⟩ : ∃ E : Nat, errX q.1 = E := ⟨_, rfl⟩
    rw [hE] at HB ⊢
    clear hE
    go_enter Try.func16, Try.ntmps16
    go_wp2_with fail
    refine HB.out.mono ?_
    rintro r w1 ⟨v, rfl, hT⟩
    have HT := Lib.hid hT
    clear hT
    go_wp2
    go_ret2
    exact ⟨v, rfl, HT.out⟩
  | .str s t, h, _ =>
    have HB : Hid (Calls Try.prog 19 #[.pointer (some ⟨b, o, none⟩), .int .u8 y.toNat] w fun r w' => ∃ v, r = .returned (.tuple #[v, .int .i64 (errX (stepX (.str s t) y).1)]) ∧ TPostL w b o (stepX (.str s t) y) v w') := Lib.hid (by
      by_cases hq : y.toNat = 34 ∧ wholeI s = true
      · have e : stepX (.str s t) y = (.idle, [⟨115, t, (false, 0)⟩]) := by simp only [stepX]; rw [if_pos hq]
        rw [e, hq.1]
        exact inner_end h hq.2
      · refine (inner_go h y hq).mono ?_
        rintro r w' ⟨rfl, hT⟩
        exact ⟨_, rfl, hT⟩)
    have c1' : w.cell? ⟨b, o + 1, none⟩ = some (.int .i64 1) := c1
    clear h c1
    generalize stepX (.str s t) y = q at *
    generalize y.toNat = y' at *
    obtain ⟨E, hE⟩ : ∃ E : Nat, errX q.1 = E := ⟨_, rfl⟩
    rw [hE] at HB ⊢
    clear hE
    go_enter Try.func16, Try.ntmps16
    go_wp2_with fail
    refine HB.out.mono ?_
    rintro r w1 ⟨v, rfl, hT⟩
    have HT := Lib.hid hT
    clear hT
    go_wp2
    go_ret2
    exact ⟨v, rfl, HT.out⟩
  | .num d, h, _ =>
    have HB := Lib.hid (digit_at h y)
    have c1' : w.cell? ⟨b, o + 1, none⟩ = some (.int .i64 2) := c1
    clear h c1
    generalize stepX (.num d) y = q at *
    generalize y.toNat = y' at *
    obtain ⟨E, hE⟩ : ∃ E : Nat, errX q.1 = E := ⟨_, rfl⟩
    rw [hE] at HB ⊢
    clear hE
    go_enter Try.func16, Try.ntmps16
    go_wp2_with fail
    refine HB.out.mono ?_
    rintro r w1 ⟨v, rfl, hT⟩
    have HT := Lib.hid hT
    clear hT
    go_wp2
    go_ret2
    exact ⟨v, rfl, HT.out⟩
  | .word k r, h, _ =>
    have HB := Lib.hid (letter_at h y)
    have c1' : w.cell? ⟨b, o + 1, none⟩ = some (.int .i64 3) := c1
    clear h c1
    generalize stepX (.word k r) y = q at *
    generalize y.toNat = y' at *
    obtain ⟨E, hE⟩ : ∃ E : Nat, errX q.1 = E := ⟨_, rfl⟩
    rw [hE] at HB ⊢
    clear hE
    go_enter Try.func16, Try.ntmps16
    go_wp2_with fail
    refine HB.out.mono ?_
    rintro r w1 ⟨v, rfl, hT⟩
    have HT := Lib.hid hT
    clear hT
    go_wp2
    go_ret2
    exact ⟨v, rfl, HT.out⟩
def BareE (p : Lx × List Tk) : Prop := errX p.1 ≠ 0 → p = (.bad (errX p.1), [])
theorem bare_tell (l : List Tk) (p : Lx × List Tk) : BareE (tellX l p) := by
  obtain ⟨p1, p2⟩ := p
  cases p1 with
  | bad e => exact fun _ => rfl
  | _ => exact fun h => absurd rfl h
/-- With an error no tokens. -/
theorem bare_step (s : Lx) (y : UInt8) : BareE (stepX s y) := by
  have start : ∀ x, BareE (startX x) := by
    intro x
    unfold startX
    repeat' split
    all_goals first | exact fun h => absurd rfl h | exact fun _ => rfl
  match s with
  | .bad e => exact fun _ => rfl
  | .idle => exact start _
  | .str s t =>
    simp only [stepX]
    repeat' split
    all_goals first | exact fun h => absurd rfl h | exact fun _ => rfl
  | .num d =>
    simp only [stepX]
    repeat' split
    all_goals first | exact fun h => absurd rfl h | exact fun _ => rfl | exact bare_tell _ _
  | .word k [] => exact fun _ => rfl
  | .word k (x :: q) =>
    simp only [stepX]
    repeat' split
    all_goals first | exact fun h => absurd rfl h | exact fun _ => rfl
set_option maxRecDepth 100000 in
set_option maxHeartbeats 1000000 in
theorem lstep_bad {w : World} {b o e : Nat} (h : LAt w b o (.bad e)) (y : UInt8) :
    Calls Try.prog 9 #[.pointer (some ⟨b, o, none⟩), .int .u8 y.toNat] w fun r w' => r = .returned (.tuple #[.slice none 0 0, .int .i64 e]) ∧ ∃ q, w' = w.drewN q := by
  obtain ⟨⟨c0, f0⟩, _⟩ := h.head
  have hz : ((e : Int) != 0) = true := by have := h.1; simp; omega
  have c0' : w.cell? ⟨b, o, none⟩ = some (.int .i64 e) := c0
  clear h c0
  go_enter Try.func9, Try.ntmps9
  go_wp2
  go_quiet (fail)
  go_wp2
  go_ret2
  exact ⟨rfl, _, rfl⟩
set_option maxRecDepth 100000 in
set_option maxHeartbeats 1000000 in
theorem lstep_good {w : World} {b o : Nat} {s : Lx} (h : LAt w b o s) (he : errX s = 0) (y : UInt8) :
    Calls Try.prog 9 #[.pointer (some ⟨b, o, none⟩), .int .u8 y.toNat] w fun r w' => ∃ v, r = .returned (.tuple #[v, .int .i64 (errX (stepX s y).1)]) ∧ Tks w w' v (stepX s y).2 ∧ LAt w' b o (stepX s y).1 ∧ Sub b o 18 w w' := by
  obtain ⟨⟨c0, f0⟩, _⟩ := h.head
  have c0' : w.cell? ⟨b, o, none⟩ = some (.int .i64 0) := by rw [he] at c0; exact c0
  have HT := Lib.hid (ltake_at h he y)
  have hR := h.room
  have HB := Lib.hid (bare_step s y)
  generalize stepX s y = q at *
  generalize y.toNat = y' at *
  obtain ⟨E, hE⟩ : ∃ E : Nat, errX q.1 = E := ⟨_, rfl⟩
  rw [hE] at HT ⊢
  have HR := Lib.hid hR
  by_cases hE0 : E = 0
  · subst hE0
    have HE := Lib.hid hE
    clear hE h he c0 hR
    go_enter Try.func9, Try.ntmps9
    go_wp2_with fail
    refine HT.out.mono ?_
    rintro r w1 ⟨v, rfl, hT⟩
    have HP := Lib.hid hT
    clear hT
    go_wp2_with fail
    refine (told_ok _ v w1).mono ?_
    rintro r w2 ⟨rfl, rfl⟩
    go_wp2
    go_ret2
    exact ⟨v, rfl, HP.out.2 HE.out, HP.out.1.2 HE.out, HP.out.1.1⟩
  · have hq : q = (.bad E, []) := by have := HB.out (by rw [hE]; exact hE0); rw [hE] at this; exact this
    subst hq
    clear hE h he c0 hR
    go_enter Try.func9, Try.ntmps9
    go_wp2_with fail
    refine HT.out.mono ?_
    rintro r w1 ⟨v, rfl, hT⟩
    have HP := Lib.hid hT
    clear hT
    go_wp2_with fail
    refine (told_err (HR.out.sub HP.out.1.1) v E hE0).mono ?_
    rintro r w2 ⟨rfl, hA, hs⟩
    have HQ := Lib.hid (And.intro hA hs)
    clear hA hs
    go_wp2
    go_ret2
    exact ⟨_, rfl, Tks.nil_ _ _, ⟨hE0, HQ.out.1⟩, HP.out.1.1.trans HQ.out.2⟩
/-- STEP. -/
theorem lstep_at {w : World} {b o : Nat} {s : Lx} (h : LAt w b o s) (y : UInt8) :
    Calls Try.prog 9 #[.pointer (some ⟨b, o, none⟩), .int .u8 y.toNat] w fun r w' => ∃ v, r = .returned (.tuple #[v, .int .i64 (errX (stepX s y).1)]) ∧ Tks w w' v (stepX s y).2 ∧ LAt w' b o (stepX s y).1 ∧ Sub b o 18 w w' := by
  by_cases he : errX s = 0
  · exact lstep_good h he y
  · match s, h, he with
    | .bad e, h, _ =>
      refine (lstep_bad h y).mono ?_
      rintro r w' ⟨rfl, q, rfl⟩
      exact ⟨_, rfl, Tks.nil_ _ _, ⟨h.1, h.2⟩, (Sub.refl _ _ _ _).drewN q⟩
    | .idle, _, he => exact absurd rfl he
    | .str _ _, _, he => exact absurd rfl he
    | .num _, _, he => exact absurd rfl he
    | .word _ _, _, he => exact absurd rfl he
end Go.Proofs.Yteonbajndghfcaa
