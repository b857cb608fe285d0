/-
  CONTRACTS of lexer.Lexer, part J: End, Held; a new Lexer.
-/
import Derived.Test.YteonbajndghfcaaLexI
namespace Go.Proofs.Yteonbajndghfcaa
open Go.RowKit
open Go.Lib
/-- Where End leaves a Lexer. -/
def endS : Lx → Lx
  | .num d => if (endD d).2 ≠ 0 then .bad (endD d).2 else .idle
  | .str _ _ => .bad 3
  | .word _ _ => .bad 3
  | s => s
def lenText (s : Lx) : ByteArray := match s with
  | .str _ t => ⟨t.toArray⟩
  | _ => ⟨#[]⟩
theorem LAt.text {w : World} {b o : Nat} {s : Lx} (h : LAt w b o s) : w.cell? ⟨b, o + 10, none⟩ = some (.string (lenText s)) ∧ (lenText s).size = heldX s := by
  match s, h with
  | .bad e, h => exact ⟨(h.2 10 _ rfl).1, rfl⟩
  | .idle, h => exact ⟨(h 10 _ rfl).1, rfl⟩
  | .str s t, h => exact ⟨(at_ten h.2.2.2.1).1, size_of t⟩
  | .num d, h => exact ⟨(at_ten h.2.2.1).1, rfl⟩
  | .word k r, h => obtain ⟨W, i, _, _, h1, _⟩ := h; exact ⟨(at_ten h1).1, rfl⟩
/-- HELD. -/
theorem lheld_at {w : World} {b o : Nat} {s : Lx} (h : LAt w b o s) :
    Calls Try.prog 12 #[.pointer (some ⟨b, o, none⟩)] w fun r w' => r = .returned (.int .i64 (heldX s)) ∧ w' = w := by
  obtain ⟨c, hs⟩ := h.text
  rw [← hs]
  clear h hs
  generalize lenText s = X at *
  go_enter Try.func12, Try.ntmps12
  go_wp2
  go_ret
  exact ⟨rfl, rfl⟩
set_option maxRecDepth 100000 in
set_option maxHeartbeats 1000000 in
theorem lfin_bad {w : World} {b o e : Nat} (h : LAt w b o (.bad e)) :
    Calls Try.prog 14 #[.pointer (some ⟨b, o, none⟩)] w fun r w' => r = .returned (.tuple #[.slice none 0 0, .int .i64 e]) ∧ ∃ q, w' = w.drewN q := by
  obtain ⟨⟨c0, f0⟩, _⟩ := h.head
  have hz : ((e : Int) != 0) = true := by have := h.1; simp; omega
  have c0' : w.cell? ⟨b, o, none⟩ = some (.int .i64 e) := c0
  clear h c0
  go_enter Try.func14, Try.ntmps14
  go_wp2
  go_quiet (fail)
  go_wp2
  go_ret2
  exact ⟨rfl, _, rfl⟩
set_option maxRecDepth 100000 in
set_option maxHeartbeats 1000000 in
theorem lfin_idle {w : World} {b o : Nat} (h : LAt w b o .idle) :
    Calls Try.prog 14 #[.pointer (some ⟨b, o, none⟩)] w fun r w' => r = .returned (.tuple #[.slice none 0 0, .int .i64 0]) ∧ w' = w := by
  obtain ⟨⟨c0, f0⟩, c1, f1⟩ := h.head
  have c0' : w.cell? ⟨b, o, none⟩ = some (.int .i64 0) := c0
  have c1' : w.cell? ⟨b, o + 1, none⟩ = some (.int .i64 0) := c1
  clear h c0 c1
  go_enter Try.func14, Try.ntmps14
  go_wp2
  go_ret2
  exact ⟨rfl, rfl⟩
set_option maxRecDepth 100000 in
set_option maxHeartbeats 1000000 in
theorem lfin_open {w : World} {b o : Nat} (p : Nat) (hp : p = 1 ∨ p = 3) (hR : Room w b o 18) (c0 : w.cell? ⟨b, o, none⟩ = some (.int .i64 0)) (c1 : w.cell? ⟨b, o + 1, none⟩ = some (.int .i64 p)) :
    Calls Try.prog 14 #[.pointer (some ⟨b, o, none⟩)] w fun r w' => r = .returned (.tuple #[.slice none 0 0, .int .i64 3]) ∧ LAt w' b o (.bad 3) ∧ Sub b o 18 w w' := by
  have HT : Hid (Calls Try.prog 15 #[.pointer (some ⟨b, o, none⟩), .slice none 0 0, .int .i64 3] w fun r w' => r = .returned (.tuple #[.slice none 0 0, .int .i64 3]) ∧ At w' b o (lxZ 3) ∧ Sub b o 18 w w') := Lib.hid (told_err hR (.slice none 0 0) 3 (by decide))
  clear hR
  rcases hp with rfl | rfl
  all_goals
    go_enter Try.func14, Try.ntmps14
    go_wp2_with fail
    refine HT.out.mono ?_
    rintro r w2 ⟨rfl, hA, hs⟩
    have HQ := Lib.hid (And.intro hA hs)
    clear hA hs
    go_wp2
    go_ret2
    exact ⟨rfl, ⟨by decide, HQ.out.1⟩, HQ.out.2⟩
set_option maxRecDepth 100000 in
set_option maxHeartbeats 1000000 in
theorem lfin_num {w : World} {b o : Nat} {d : Dec} (h : LAt w b o (.num d)) :
    Calls Try.prog 14 #[.pointer (some ⟨b, o, none⟩)] w fun r w' => ∃ v, r = .returned (.tuple #[v, .int .i64 (endX (.num d)).2]) ∧ Tks w w' v (endX (.num d)).1 ∧ LAt w' b o (endS (.num d)) ∧ Sub b o 18 w w' := by
  obtain ⟨⟨c0, f0⟩, c1, f1⟩ := h.head
  have c0' : w.cell? ⟨b, o, none⟩ = some (.int .i64 0) := c0
  have c1' : w.cell? ⟨b, o + 1, none⟩ = some (.int .i64 2) := c1
  have HE := Lib.hid (lendnum_at h)
  have HR := Lib.hid h.room
  simp only [endX, endS]
  clear h c0 c1
  by_cases he : (endD d).2 = 0
  · rw [if_neg (fun h => h he), if_neg (fun h => h he)]
    generalize endD d = q at *
    obtain ⟨q1, q2⟩ := q
    obtain rfl : q2 = 0 := he
    go_enter Try.func14, Try.ntmps14
    go_wp2_with fail
    refine HE.out.mono ?_
    rintro r w1 ⟨v, rfl, hs, hT⟩
    have HT := Lib.hid (And.intro hs hT)
    clear hs hT
    go_wp2_with fail
    refine (told_ok _ v w1).mono ?_
    rintro r w2 ⟨rfl, rfl⟩
    go_wp2
    go_ret2
    exact ⟨v, rfl, (HT.out.2 (by trivial)).1, (HT.out.2 (by trivial)).2, HT.out.1⟩
  · rw [if_pos he, if_pos he]
    generalize endD d = q at *
    obtain ⟨q1, E⟩ := q
    simp only [] at he HE ⊢
    go_enter Try.func14, Try.ntmps14
    go_wp2_with fail
    refine HE.out.mono ?_
    rintro r w1 ⟨v, rfl, hs, hT⟩
    have HT := Lib.hid hs
    clear hs hT
    go_wp2_with fail
    refine (told_err (HR.out.sub HT.out) v E he).mono ?_
    rintro r w2 ⟨rfl, hA, hs⟩
    have HQ := Lib.hid (And.intro hA hs)
    clear hA hs
    go_wp2
    go_ret2
    exact ⟨_, rfl, Tks.nil_ _ _, ⟨he, HQ.out.1⟩, HT.out.trans HQ.out.2⟩
/-- END. -/
theorem lfin_at {w : World} {b o : Nat} {s : Lx} (h : LAt w b o s) :
    Calls Try.prog 14 #[.pointer (some ⟨b, o, none⟩)] w fun r w' => ∃ v, r = .returned (.tuple #[v, .int .i64 (endX s).2]) ∧ Tks w w' v (endX s).1 ∧ LAt w' b o (endS s) ∧ Sub b o 18 w w' := by
  match s, h with
  | .bad e, h =>
    refine (lfin_bad h).mono ?_
    rintro r w' ⟨rfl, q, rfl⟩
    exact ⟨_, rfl, Tks.nil_ _ _, ⟨h.1, h.2⟩, (Sub.refl _ _ _ _).drewN q⟩
  | .idle, h =>
    refine (lfin_idle h).mono ?_
    rintro r w' ⟨rfl, rfl⟩
    exact ⟨_, rfl, Tks.nil_ _ _, h, Sub.refl _ _ _ _⟩
  | .str s t, h =>
    obtain ⟨⟨c0, _⟩, c1, _⟩ := h.head
    refine (lfin_open 1 (.inl rfl) h.room c0 c1).mono ?_
    rintro r w' ⟨rfl, hL, hs⟩
    exact ⟨_, rfl, Tks.nil_ _ _, hL, hs⟩
  | .word k q, h =>
    obtain ⟨⟨c0, _⟩, c1, _⟩ := h.head
    refine (lfin_open 3 (.inr rfl) h.room c0 c1).mono ?_
    rintro r w' ⟨rfl, hL, hs⟩
    exact ⟨_, rfl, Tks.nil_ _ _, hL, hs⟩
  | .num d, h => exact lfin_num h
/-- A new one. -/
theorem lat_of {w : World} {b o : Nat} (h : At w b o (lxZ 0)) : LAt w b o .idle := h
theorem lat_new (w : World) : LAt (w.alloc (.cells (lxZ 0).toArray 35)) w.heap.size 0 .idle := at_block (heap_alloc_new w _)
end Go.Proofs.Yteonbajndghfcaa
