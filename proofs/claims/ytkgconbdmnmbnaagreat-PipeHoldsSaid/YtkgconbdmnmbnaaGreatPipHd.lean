/-
  Contracts of Held, of those that a Pipe stands on.
-/
import Derived.Test.YtkgconbdmnmbnaaGreatG2c
import Derived.Test.YtkgconbdmnmbnaaGreatG1g
set_option maxRecDepth 100000
set_option maxHeartbeats 16000000
namespace Go.Proofs.YtkgconbdmnmbnaaGreat
section
open Go.RowKit
open Go.Lib
theorem LAt.text {w : World} {b o : Nat} {s : Lx} (h : LAt w b o s) : w.cell? ⟨b, o + 10, none⟩ = some (.string (lenText s)) ∧ (lenText s).size = heldX s := by
  match s, h with
  | .bad e, h => exact ⟨(h.2 10 _ rfl).1, rfl⟩
  | .idle, h => exact ⟨(h 10 _ rfl).1, rfl⟩
  | .str s t, h => exact ⟨(at_ten h.2.2.2.1).1, size_of t⟩
  | .num d, h => exact ⟨(at_ten h.2.2.1).1, rfl⟩
  | .word k r, h => obtain ⟨W, i, _, _, h1, _⟩ := h; exact ⟨(at_ten h1).1, rfl⟩
end
section
open Go.RowKit
open Go.Lib
theorem held_cell {w : World} {b o p q : Nat} {a1 a2 : Option Addr} {x1 x2 : Nat} (hp : p ≤ 1000) (hq : q ≤ 1000) (c1 : w.cell? ⟨b, o + 9 + 3, none⟩ = some (.slice a1 p x1)) (c2 : w.cell? ⟨b, o + 17, none⟩ = some (.slice a2 q x2)) :
    Calls Tryz.prog 141 #[.pointer (some ⟨b, o, none⟩)] w fun r w' => r = .returned (.int .i64 ((p + q : Nat) : Int)) ∧ ∃ n, w' = w.drewN n := by
  have hw : IntKind.i64.wrap ((p : Int) + (q : Int)) = (p : Int) + (q : Int) := by simp only [IntKind.wrap_i64]; omega
  go_enter Tryz.func141, Tryz.ntmps141
  go_wp2
  go_quiet (fail)
  go_wp2
  go_ret
  exact ⟨rfl, _, rfl⟩
theorem held_at {w : World} {b o D M : Nat} {s : Ci} {vt vs : Value} (h : StP w b o D s vt vs) (hw : WfK D M s) :
    Calls Tryz.prog 141 #[.pointer (some ⟨b, o, none⟩)] w fun r w' => r = .returned (.int .i64 (heldCi s : Nat)) ∧ ∃ n, w' = w.drewN n := by
  by_cases hb : ∃ e, s = .bad e
  · obtain ⟨e, rfl⟩ := hb
    exact held_cell (p := 0) (q := 0) (by omega) (by omega) (h.2.1 12 _ rfl).1 (h.2.1 17 _ rfl).1
  · have hb : ∀ e, s ≠ .bad e := fun e he => hb ⟨e, he⟩
    obtain ⟨_, _, _, _, _, t, _, c, hh, _⟩ := (h.st hb).cp hb hw.dn
    have hlen : (stkK s).length ≤ 16 ∧ heldCi s ≤ 216 + (stkK s).length := by
      cases s with
      | bad e => exact absurd rfl (hb e)
      | item s dn => exact ⟨hw.1.deep, by simp [heldCi, stkK]⟩
      | head s g => exact ⟨hw.1.1.deep, by simp [heldCi, stkK]⟩
      | text s m n t u => exact ⟨hw.1.1.deep, by simp only [heldCi, stkK]; have := hw.2.2.1; omega⟩
      | open_ s m t => exact ⟨hw.1.1.deep, by simp only [heldCi, stkK]; have := hw.2; omega⟩
      | chead s m t g => exact ⟨hw.1.1.deep, by simp only [heldCi, stkK]; have := hw.2.1; omega⟩
      | ctext s m t n u => exact ⟨hw.1.1.deep, by simp only [heldCi, stkK]; have := hw.2.2.1; omega⟩
    obtain ⟨a1, x1, e1, _, _⟩ := c.wt.slice_form
    obtain ⟨a2, x2, e2, _, _⟩ := c.op.win.slice_form
    rw [hh]
    exact held_cell (by omega) (by omega) (by rw [← e1]; exact c.cells.2.1.2.2.2.1) (by rw [← e2]; exact c.cells.2.2.1)
end
section
open Go.RowKit
open Go.Lib
theorem pheld_cell {w : World} {b o p q : Nat} {a1 a2 : Option Addr} {x1 x2 : Nat} (hp : p ≤ 1000) (hq : q ≤ 1000) (c1 : w.cell? ⟨b, o + 12 + 2, none⟩ = some (.slice a1 p x1)) (c2 : w.cell? ⟨b, o + 19, none⟩ = some (.slice a2 q x2)) :
    Calls Tryz.prog 182 #[.pointer (some ⟨b, o, none⟩)] w fun r w' => r = .returned (.int .i64 ((p + q : Nat) : Int)) ∧ ∃ n, w' = w.drewN n := by
  have hw : IntKind.i64.wrap ((p : Int) + (q : Int)) = (p : Int) + (q : Int) := by simp only [IntKind.wrap_i64]; omega
  go_enter Tryz.func182, Tryz.ntmps182
  go_wp2
  go_quiet (fail)
  go_wp2
  go_ret
  exact ⟨rfl, _, rfl⟩
theorem pheld_at {w : World} {b o D : Nat} {s : Pm} {vt vs : Value} (h : StPm w b o D s vt vs) (hw : WfPm D s) :
    Calls Tryz.prog 182 #[.pointer (some ⟨b, o, none⟩)] w fun r w' => r = .returned (.int .i64 (heldPm s : Nat)) ∧ ∃ n, w' = w.drewN n := by
  rcases h.any with ⟨e, rfl, _, hA, _⟩ | ⟨hb, _⟩
  · exact pheld_cell (p := 0) (q := 0) (by omega) (by omega) (hA 14 _ rfl).1 (hA 19 _ rfl).1
  · obtain ⟨_, _, _, _, _, _, _, t, _, c, hh, _, ht, hs⟩ := (h.st hb).pp hb hw
    obtain ⟨a1, x1, e1, _, _⟩ := c.wt.slice_form
    obtain ⟨a2, x2, e2, _, _⟩ := c.op.win.slice_form
    rw [hh]
    exact pheld_cell (by omega) (by omega) (by rw [← e1]; exact c.cells.2.2.1.2.2.1) (by rw [← e2]; exact c.cells.2.2.2.1)
end
section
open Go.Lib
def heldJs (s : Js) : Nat := match s.p with
  | .bad _ => 0
  | .at_ st _ => heldX s.lx + st.length
def heldRs : Rs → Nat
  | .js s => heldJs s
  | .cb s => heldCi s
  | .pk s => heldPm s
def heldOG : Option Gs → Nat
  | none => 0
  | some g => heldG g
def heldPp : Pp → Nat
  | .over _ => 0
  | .live r g _ => heldRs r + heldOG g
end
section
open Go.RowKit
open Go.Lib
theorem gheld_at {w : World} {b e lim z : Nat} {vh vo : Value} (h : Sgb w b e lim vh z vo) :
    Calls Tryz.prog 31 #[.pointer (some ⟨b, 0, none⟩)] w fun r w' => r = .returned (.int .i64 (z : Int)) ∧ w = w' := by
  have c0 := h.cell 4
  clear h
  go_enter Tryz.func31, Tryz.ntmps31
  go_wp2
  go_ret
  exact ⟨rfl, rfl⟩
end
end Go.Proofs.YtkgconbdmnmbnaaGreat
