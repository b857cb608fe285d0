/-
  CONTRACTS of package cborin: which bytes of a head may not come.
-/
import Derived.Test.YtgknpheefbfnlaaGe
import Derived.Deep.RegionHeld3
/-
  CONTRACTS of package cborin, part F: refusesBreak, refusesItem, refusesChunk, refuses.
-/
namespace Go.Proofs.Ytgknpheefbfnlaa
open Go.RowKit
open Go.Lib
set_option maxHeartbeats 1000000 in
theorem rbreak_any {w : World} {b o D pl : Nat} {h : Hd} {mj : Nat} {ch : Bool} {lk : Nat} {vt : Value} {t : List UInt8} {u : Option (Nat × Nat × Nat)} {vs : Value} {s : List Bx} (c : CP w b o D pl h mj ch lk vt t u vs s.length (inL s)) (hd : s.length ≤ 16) :
    Calls Try.prog 68 #[.pointer (some ⟨b, o, none⟩)] w fun r w' => r = .returned (.int .i64 (if mayB s = true then 0 else 2 : Nat)) ∧ Below w.heap.size w w' := by
  obtain ⟨a, cp, hv, _, _⟩ := c.op.win.slice_form
  subst hv
  obtain ⟨_, _, c17, f17⟩ := c.cells
  have HM := Lib.hid (mayBreak_any c.op.win hd)
  clear c hd
  generalize s.length = n at *
  cases hm : mayB s with
  | false =>
    rw [hm] at HM
    clear hm
    go_enter Try.func68, Try.ntmps68
    go_wp2_with fail
    refine HM.out.mono ?_
    rintro r w1 ⟨rfl, b1⟩
    have B1 := Lib.hid b1
    clear b1
    go_wp2
    go_ret
    exact ⟨rfl, B1.out⟩
  | true =>
    rw [hm] at HM
    clear hm
    go_enter Try.func68, Try.ntmps68
    go_wp2_with fail
    refine HM.out.mono ?_
    rintro r w1 ⟨rfl, b1⟩
    have B1 := Lib.hid b1
    clear b1
    go_wp2
    go_ret
    exact ⟨rfl, B1.out⟩
def itemE (D : Nat) (s : List Bx) (h : Hd) (l : Nat) : Nat :=
  if opnH h = true ∧ ¬ (2 ≤ majH h ∧ majH h ≤ 5) then 2 else if keyB s = true ∧ majH h ≠ 3 then 8 else if majH h = 6 then 8 else if majH h = 7 then othE l else if (majH h = 4 ∨ majH h = 5) ∧ s.length = D then 4 else 0
def itemB (O mo K b3 b6 b7 b4 b5 bD : Bool) (e : Nat) : Nat :=
  if (O && !mo) = true then 2 else if (K && !b3) = true then 8 else if b6 = true then 8 else if b7 = true then e else if ((b4 || b5) && bD) = true then 4 else 0
theorem item_b (D : Nat) (s : List Bx) (h : Hd) (l : Nat) : itemE D s h l = itemB (opnH h) (decide (2 ≤ majH h ∧ majH h ≤ 5)) (keyB s) (decide (majH h = 3)) (decide (majH h = 6)) (decide (majH h = 7)) (decide (majH h = 4)) (decide (majH h = 5)) (decide (s.length = D)) (othE l) := by
  unfold itemE itemB
  simp only [Bool.and_eq_true, Bool.or_eq_true, Bool.not_eq_true', decide_eq_true_eq, decide_eq_false_iff_not, ne_eq]
set_option maxRecDepth 100000 in
set_option maxHeartbeats 8000000 in
theorem ritem_any {w : World} {b o D pl : Nat} {h : Hd} {mj : Nat} {ch : Bool} {lk : Nat} {vt : Value} {t : List UInt8} {u : Option (Nat × Nat × Nat)} {vs : Value} {s : List Bx} (c : CP w b o D pl h mj ch lk vt t u vs s.length (inL s)) (hd : s.length ≤ 16) (l : Nat) :
    Calls Try.prog 69 #[.pointer (some ⟨b, o, none⟩), .int .u8 (l : Int)] w fun r w' => r = .returned (.int .i64 (itemE D s h l : Nat)) ∧ Below w.heap.size w w' := by
  have HM := Lib.hid (major_at c.hd)
  have HO := Lib.hid (open_at c.hd)
  have HMO := Lib.hid (mayOpen_any (majH h))
  have HOT := Lib.hid (other_any l)
  obtain ⟨a, cp, hv, _, _⟩ := c.op.win.slice_form
  subst hv
  have c17 := c.cells.2.2.1
  have HK := Lib.hid (key_any c.op.win hd)
  have HC := Lib.hid (fun w1 (k : Below w.heap.size w w1) => (And.intro (c.go k).cells.2.2.1 (c.go k).cells.1.2.1.1))
  rw [item_b]
  have z3 : ((majH h : Int) != 3) = !decide (majH h = 3) := by rw [Bool.eq_iff_iff]; simp; omega
  have z6 : ((majH h : Int) == 6) = decide (majH h = 6) := by rw [Bool.eq_iff_iff, beq_iff_eq, decide_eq_true_eq]; omega
  have z7 : ((majH h : Int) == 7) = decide (majH h = 7) := by rw [Bool.eq_iff_iff, beq_iff_eq, decide_eq_true_eq]; omega
  have z4 : ((majH h : Int) == 4) = decide (majH h = 4) := by rw [Bool.eq_iff_iff, beq_iff_eq, decide_eq_true_eq]; omega
  have z5 : ((majH h : Int) == 5) = decide (majH h = 5) := by rw [Bool.eq_iff_iff, beq_iff_eq, decide_eq_true_eq]; omega
  have zD : ((s.length : Int) == (D : Int)) = decide (s.length = D) := by rw [Bool.eq_iff_iff, beq_iff_eq, decide_eq_true_eq]; omega
  clear c hd
  generalize keyB s = K at *
  generalize s.length = n at *
  generalize opnH h = O at *
  generalize decide (2 ≤ majH h ∧ majH h ≤ 5) = mo at *
  generalize decide (majH h = 3) = b3 at *
  generalize decide (majH h = 6) = b6 at *
  generalize decide (majH h = 7) = b7 at *
  generalize decide (majH h = 4) = b4 at *
  generalize decide (majH h = 5) = b5 at *
  generalize decide (n = D) = bD at *
  generalize othE l = oe at *
  generalize majH h = M at *
  cases O with
  | false =>
    cases K with
    | false =>
      cases b6 with
      | false =>
        cases b7 with
        | false =>
          cases b4 with
          | false =>
            cases b5 with
            | false =>
              go_enter Try.func69, Try.ntmps69
              go_wp2_with fail
              refine HM.out.mono ?_
              rintro r w1 ⟨rfl, rfl⟩
              go_wp2_with fail
              refine HO.out.mono ?_
              rintro r w1 ⟨rfl, rfl⟩
              go_wp2_with fail
              refine HK.out.mono ?_
              rintro r w1 ⟨rfl, b1⟩
              have B1 := Lib.hid b1
              obtain ⟨x17, x1⟩ := HC.out _ b1
              clear b1
              go_wp2
              go_quiet (fail)
              go_wp2
              go_ret
              exact ⟨rfl, below_drN B1.out _⟩
            | true =>
              cases bD with
              | false =>
                go_enter Try.func69, Try.ntmps69
                go_wp2_with fail
                refine HM.out.mono ?_
                rintro r w1 ⟨rfl, rfl⟩
                go_wp2_with fail
                refine HO.out.mono ?_
                rintro r w1 ⟨rfl, rfl⟩
                go_wp2_with fail
                refine HK.out.mono ?_
                rintro r w1 ⟨rfl, b1⟩
                have B1 := Lib.hid b1
                obtain ⟨x17, x1⟩ := HC.out _ b1
                clear b1
                go_wp2
                go_quiet (fail)
                go_wp2
                go_ret
                exact ⟨rfl, below_drN B1.out _⟩
              | true =>
                go_enter Try.func69, Try.ntmps69
                go_wp2_with fail
                refine HM.out.mono ?_
                rintro r w1 ⟨rfl, rfl⟩
                go_wp2_with fail
                refine HO.out.mono ?_
                rintro r w1 ⟨rfl, rfl⟩
                go_wp2_with fail
                refine HK.out.mono ?_
                rintro r w1 ⟨rfl, b1⟩
                have B1 := Lib.hid b1
                obtain ⟨x17, x1⟩ := HC.out _ b1
                clear b1
                go_wp2
                go_quiet (fail)
                go_wp2
                go_ret
                exact ⟨rfl, below_drN B1.out _⟩
          | true =>
            cases bD with
            | false =>
              go_enter Try.func69, Try.ntmps69
              go_wp2_with fail
              refine HM.out.mono ?_
              rintro r w1 ⟨rfl, rfl⟩
              go_wp2_with fail
              refine HO.out.mono ?_
              rintro r w1 ⟨rfl, rfl⟩
              go_wp2_with fail
              refine HK.out.mono ?_
              rintro r w1 ⟨rfl, b1⟩
              have B1 := Lib.hid b1
              obtain ⟨x17, x1⟩ := HC.out _ b1
              clear b1
              go_wp2
              go_quiet (fail)
              go_wp2
              go_ret
              exact ⟨rfl, below_drN B1.out _⟩
            | true =>
              go_enter Try.func69, Try.ntmps69
              go_wp2_with fail
              refine HM.out.mono ?_
              rintro r w1 ⟨rfl, rfl⟩
              go_wp2_with fail
              refine HO.out.mono ?_
              rintro r w1 ⟨rfl, rfl⟩
              go_wp2_with fail
              refine HK.out.mono ?_
              rintro r w1 ⟨rfl, b1⟩
              have B1 := Lib.hid b1
              obtain ⟨x17, x1⟩ := HC.out _ b1
              clear b1
              go_wp2
              go_quiet (fail)
              go_wp2
              go_ret
              exact ⟨rfl, below_drN B1.out _⟩
        | true =>
          go_enter Try.func69, Try.ntmps69
          go_wp2_with fail
          refine HM.out.mono ?_
          rintro r w1 ⟨rfl, rfl⟩
          go_wp2_with fail
          refine HO.out.mono ?_
          rintro r w1 ⟨rfl, rfl⟩
          go_wp2_with fail
          refine HK.out.mono ?_
          rintro r w1 ⟨rfl, b1⟩
          have B1 := Lib.hid b1
          obtain ⟨x17, x1⟩ := HC.out _ b1
          clear b1
          go_wp2_with fail
          refine (HOT.out _).mono ?_
          rintro r w2 ⟨rfl, rfl⟩
          go_wp2
          go_ret
          exact ⟨rfl, B1.out⟩
      | true =>
        go_enter Try.func69, Try.ntmps69
        go_wp2_with fail
        refine HM.out.mono ?_
        rintro r w1 ⟨rfl, rfl⟩
        go_wp2_with fail
        refine HO.out.mono ?_
        rintro r w1 ⟨rfl, rfl⟩
        go_wp2_with fail
        refine HK.out.mono ?_
        rintro r w1 ⟨rfl, b1⟩
        have B1 := Lib.hid b1
        obtain ⟨x17, x1⟩ := HC.out _ b1
        clear b1
        go_wp2
        go_ret
        exact ⟨rfl, B1.out⟩
    | true =>
      cases b3 with
      | false =>
        go_enter Try.func69, Try.ntmps69
        go_wp2_with fail
        refine HM.out.mono ?_
        rintro r w1 ⟨rfl, rfl⟩
        go_wp2_with fail
        refine HO.out.mono ?_
        rintro r w1 ⟨rfl, rfl⟩
        go_wp2_with fail
        refine HK.out.mono ?_
        rintro r w1 ⟨rfl, b1⟩
        have B1 := Lib.hid b1
        obtain ⟨x17, x1⟩ := HC.out _ b1
        clear b1
        go_wp2
        go_ret
        exact ⟨rfl, B1.out⟩
      | true =>
        cases b6 with
        | false =>
          cases b7 with
          | false =>
            cases b4 with
            | false =>
              cases b5 with
              | false =>
                go_enter Try.func69, Try.ntmps69
                go_wp2_with fail
                refine HM.out.mono ?_
                rintro r w1 ⟨rfl, rfl⟩
                go_wp2_with fail
                refine HO.out.mono ?_
                rintro r w1 ⟨rfl, rfl⟩
                go_wp2_with fail
                refine HK.out.mono ?_
                rintro r w1 ⟨rfl, b1⟩
                have B1 := Lib.hid b1
                obtain ⟨x17, x1⟩ := HC.out _ b1
                clear b1
                go_wp2
                go_quiet (fail)
                go_wp2
                go_ret
                exact ⟨rfl, below_drN B1.out _⟩
              | true =>
                cases bD with
                | false =>
                  go_enter Try.func69, Try.ntmps69
                  go_wp2_with fail
                  refine HM.out.mono ?_
                  rintro r w1 ⟨rfl, rfl⟩
                  go_wp2_with fail
                  refine HO.out.mono ?_
                  rintro r w1 ⟨rfl, rfl⟩
                  go_wp2_with fail
                  refine HK.out.mono ?_
                  rintro r w1 ⟨rfl, b1⟩
                  have B1 := Lib.hid b1
                  obtain ⟨x17, x1⟩ := HC.out _ b1
                  clear b1
                  go_wp2
                  go_quiet (fail)
                  go_wp2
                  go_ret
                  exact ⟨rfl, below_drN B1.out _⟩
                | true =>
                  go_enter Try.func69, Try.ntmps69
                  go_wp2_with fail
                  refine HM.out.mono ?_
                  rintro r w1 ⟨rfl, rfl⟩
                  go_wp2_with fail
                  refine HO.out.mono ?_
                  rintro r w1 ⟨rfl, rfl⟩
                  go_wp2_with fail
                  refine HK.out.mono ?_
                  rintro r w1 ⟨rfl, b1⟩
                  have B1 := Lib.hid b1
                  obtain ⟨x17, x1⟩ := HC.out _ b1
                  clear b1
                  go_wp2
                  go_quiet (fail)
                  go_wp2
                  go_ret
                  exact ⟨rfl, below_drN B1.out _⟩
            | true =>
              cases bD with
              | false =>
                go_enter Try.func69, Try.ntmps69
                go_wp2_with fail
                refine HM.out.mono ?_
                rintro r w1 ⟨rfl, rfl⟩
                go_wp2_with fail
                refine HO.out.mono ?_
                rintro r w1 ⟨rfl, rfl⟩
                go_wp2_with fail
                refine HK.out.mono ?_
                rintro r w1 ⟨rfl, b1⟩
                have B1 := Lib.hid b1
                obtain ⟨x17, x1⟩ := HC.out _ b1
                clear b1
                go_wp2
                go_quiet (fail)
                go_wp2
                go_ret
                exact ⟨rfl, below_drN B1.out _⟩
              | true =>
                go_enter Try.func69, Try.ntmps69
                go_wp2_with fail
                refine HM.out.mono ?_
                rintro r w1 ⟨rfl, rfl⟩
                go_wp2_with fail
                refine HO.out.mono ?_
                rintro r w1 ⟨rfl, rfl⟩
                go_wp2_with fail
                refine HK.out.mono ?_
                rintro r w1 ⟨rfl, b1⟩
                have B1 := Lib.hid b1
                obtain ⟨x17, x1⟩ := HC.out _ b1
                clear b1
                go_wp2
                go_quiet (fail)
                go_wp2
                go_ret
                exact ⟨rfl, below_drN B1.out _⟩
          | true =>
            go_enter Try.func69, Try.ntmps69
            go_wp2_with fail
            refine HM.out.mono ?_
            rintro r w1 ⟨rfl, rfl⟩
            go_wp2_with fail
            refine HO.out.mono ?_
            rintro r w1 ⟨rfl, rfl⟩
            go_wp2_with fail
            refine HK.out.mono ?_
            rintro r w1 ⟨rfl, b1⟩
            have B1 := Lib.hid b1
            obtain ⟨x17, x1⟩ := HC.out _ b1
            clear b1
            go_wp2_with fail
            refine (HOT.out _).mono ?_
            rintro r w2 ⟨rfl, rfl⟩
            go_wp2
            go_ret
            exact ⟨rfl, B1.out⟩
        | true =>
          go_enter Try.func69, Try.ntmps69
          go_wp2_with fail
          refine HM.out.mono ?_
          rintro r w1 ⟨rfl, rfl⟩
          go_wp2_with fail
          refine HO.out.mono ?_
          rintro r w1 ⟨rfl, rfl⟩
          go_wp2_with fail
          refine HK.out.mono ?_
          rintro r w1 ⟨rfl, b1⟩
          have B1 := Lib.hid b1
          obtain ⟨x17, x1⟩ := HC.out _ b1
          clear b1
          go_wp2
          go_ret
          exact ⟨rfl, B1.out⟩
  | true =>
    cases mo with
    | false =>
      go_enter Try.func69, Try.ntmps69
      go_wp2_with fail
      refine HM.out.mono ?_
      rintro r w1 ⟨rfl, rfl⟩
      go_wp2_with fail
      refine HO.out.mono ?_
      rintro r w1 ⟨rfl, rfl⟩
      go_wp2_with fail
      refine (HMO.out _).mono ?_
      rintro r w1 ⟨rfl, rfl⟩
      go_wp2
      go_ret
      exact ⟨rfl, Below.refl _ _⟩
    | true =>
      cases K with
      | false =>
        cases b6 with
        | false =>
          cases b7 with
          | false =>
            cases b4 with
            | false =>
              cases b5 with
              | false =>
                go_enter Try.func69, Try.ntmps69
                go_wp2_with fail
                refine HM.out.mono ?_
                rintro r w1 ⟨rfl, rfl⟩
                go_wp2_with fail
                refine HO.out.mono ?_
                rintro r w1 ⟨rfl, rfl⟩
                go_wp2_with fail
                refine (HMO.out _).mono ?_
                rintro r w1 ⟨rfl, rfl⟩
                go_wp2_with fail
                refine HK.out.mono ?_
                rintro r w1 ⟨rfl, b1⟩
                have B1 := Lib.hid b1
                obtain ⟨x17, x1⟩ := HC.out _ b1
                clear b1
                go_wp2
                go_quiet (fail)
                go_wp2
                go_ret
                exact ⟨rfl, below_drN B1.out _⟩
              | true =>
                cases bD with
                | false =>
                  go_enter Try.func69, Try.ntmps69
                  go_wp2_with fail
                  refine HM.out.mono ?_
                  rintro r w1 ⟨rfl, rfl⟩
                  go_wp2_with fail
                  refine HO.out.mono ?_
                  rintro r w1 ⟨rfl, rfl⟩
                  go_wp2_with fail
                  refine (HMO.out _).mono ?_
                  rintro r w1 ⟨rfl, rfl⟩
                  go_wp2_with fail
                  refine HK.out.mono ?_
                  rintro r w1 ⟨rfl, b1⟩
                  have B1 := Lib.hid b1
                  obtain ⟨x17, x1⟩ := HC.out _ b1
                  clear b1
                  go_wp2
                  go_quiet (fail)
                  go_wp2
                  go_ret
                  exact ⟨rfl, below_drN B1.out _⟩
                | true =>
                  go_enter Try.func69, Try.ntmps69
                  go_wp2_with fail
                  refine HM.out.mono ?_
                  rintro r w1 ⟨rfl, rfl⟩
                  go_wp2_with fail
                  refine HO.out.mono ?_
                  rintro r w1 ⟨rfl, rfl⟩
                  go_wp2_with fail
                  refine (HMO.out _).mono ?_
                  rintro r w1 ⟨rfl, rfl⟩
                  go_wp2_with fail
                  refine HK.out.mono ?_
                  rintro r w1 ⟨rfl, b1⟩
                  have B1 := Lib.hid b1
                  obtain ⟨x17, x1⟩ := HC.out _ b1
                  clear b1
                  go_wp2
                  go_quiet (fail)
                  go_wp2
                  go_ret
                  exact ⟨rfl, below_drN B1.out _⟩
            | true =>
              cases bD with
              | false =>
                go_enter Try.func69, Try.ntmps69
                go_wp2_with fail
                refine HM.out.mono ?_
                rintro r w1 ⟨rfl, rfl⟩
                go_wp2_with fail
                refine HO.out.mono ?_
                rintro r w1 ⟨rfl, rfl⟩
                go_wp2_with fail
                refine (HMO.out _).mono ?_
                rintro r w1 ⟨rfl, rfl⟩
                go_wp2_with fail
                refine HK.out.mono ?_
                rintro r w1 ⟨rfl, b1⟩
                have B1 := Lib.hid b1
                obtain ⟨x17, x1⟩ := HC.out _ b1
                clear b1
                go_wp2
                go_quiet (fail)
                go_wp2
                go_ret
                exact ⟨rfl, below_drN B1.out _⟩
              | true =>
                go_enter Try.func69, Try.ntmps69
                go_wp2_with fail
                refine HM.out.mono ?_
                rintro r w1 ⟨rfl, rfl⟩
                go_wp2_with fail
                refine HO.out.mono ?_
                rintro r w1 ⟨rfl, rfl⟩
                go_wp2_with fail
                refine (HMO.out _).mono ?_
                rintro r w1 ⟨rfl, rfl⟩
                go_wp2_with fail
                refine HK.out.mono ?_
                rintro r w1 ⟨rfl, b1⟩
                have B1 := Lib.hid b1
                obtain ⟨x17, x1⟩ := HC.out _ b1
                clear b1
                go_wp2
                go_quiet (fail)
                go_wp2
                go_ret
                exact ⟨rfl, below_drN B1.out _⟩
          | true =>
            go_enter Try.func69, Try.ntmps69
            go_wp2_with fail
            refine HM.out.mono ?_
            rintro r w1 ⟨rfl, rfl⟩
            go_wp2_with fail
            refine HO.out.mono ?_
            rintro r w1 ⟨rfl, rfl⟩
            go_wp2_with fail
            refine (HMO.out _).mono ?_
            rintro r w1 ⟨rfl, rfl⟩
            go_wp2_with fail
            refine HK.out.mono ?_
            rintro r w1 ⟨rfl, b1⟩
            have B1 := Lib.hid b1
            obtain ⟨x17, x1⟩ := HC.out _ b1
            clear b1
            go_wp2_with fail
            refine (HOT.out _).mono ?_
            rintro r w2 ⟨rfl, rfl⟩
            go_wp2
            go_ret
            exact ⟨rfl, B1.out⟩
        | true =>
          go_enter Try.func69, Try.ntmps69
          go_wp2_with fail
          refine HM.out.mono ?_
          rintro r w1 ⟨rfl, rfl⟩
          go_wp2_with fail
          refine HO.out.mono ?_
          rintro r w1 ⟨rfl, rfl⟩
          go_wp2_with fail
          refine (HMO.out _).mono ?_
          rintro r w1 ⟨rfl, rfl⟩
          go_wp2_with fail
          refine HK.out.mono ?_
          rintro r w1 ⟨rfl, b1⟩
          have B1 := Lib.hid b1
          obtain ⟨x17, x1⟩ := HC.out _ b1
          clear b1
          go_wp2
          go_ret
          exact ⟨rfl, B1.out⟩
      | true =>
        cases b3 with
        | false =>
          go_enter Try.func69, Try.ntmps69
          go_wp2_with fail
          refine HM.out.mono ?_
          rintro r w1 ⟨rfl, rfl⟩
          go_wp2_with fail
          refine HO.out.mono ?_
          rintro r w1 ⟨rfl, rfl⟩
          go_wp2_with fail
          refine (HMO.out _).mono ?_
          rintro r w1 ⟨rfl, rfl⟩
          go_wp2_with fail
          refine HK.out.mono ?_
          rintro r w1 ⟨rfl, b1⟩
          have B1 := Lib.hid b1
          obtain ⟨x17, x1⟩ := HC.out _ b1
          clear b1
          go_wp2
          go_ret
          exact ⟨rfl, B1.out⟩
        | true =>
          cases b6 with
          | false =>
            cases b7 with
            | false =>
              cases b4 with
              | false =>
                cases b5 with
                | false =>
                  go_enter Try.func69, Try.ntmps69
                  go_wp2_with fail
                  refine HM.out.mono ?_
                  rintro r w1 ⟨rfl, rfl⟩
                  go_wp2_with fail
                  refine HO.out.mono ?_
                  rintro r w1 ⟨rfl, rfl⟩
                  go_wp2_with fail
                  refine (HMO.out _).mono ?_
                  rintro r w1 ⟨rfl, rfl⟩
                  go_wp2_with fail
                  refine HK.out.mono ?_
                  rintro r w1 ⟨rfl, b1⟩
                  have B1 := Lib.hid b1
                  obtain ⟨x17, x1⟩ := HC.out _ b1
                  clear b1
                  go_wp2
                  go_quiet (fail)
                  go_wp2
                  go_ret
                  exact ⟨rfl, below_drN B1.out _⟩
                | true =>
                  cases bD with
                  | false =>
                    go_enter Try.func69, Try.ntmps69
                    go_wp2_with fail
                    refine HM.out.mono ?_
                    rintro r w1 ⟨rfl, rfl⟩
                    go_wp2_with fail
                    refine HO.out.mono ?_
                    rintro r w1 ⟨rfl, rfl⟩
                    go_wp2_with fail
                    refine (HMO.out _).mono ?_
                    rintro r w1 ⟨rfl, rfl⟩
                    go_wp2_with fail
                    refine HK.out.mono ?_
                    rintro r w1 ⟨rfl, b1⟩
                    have B1 := Lib.hid b1
                    obtain ⟨x17, x1⟩ := HC.out _ b1
                    clear b1
                    go_wp2
                    go_quiet (fail)
                    go_wp2
                    go_ret
                    exact ⟨rfl, below_drN B1.out _⟩
                  | true =>
                    go_enter Try.func69, Try.ntmps69
                    go_wp2_with fail
                    refine HM.out.mono ?_
                    rintro r w1 ⟨rfl, rfl⟩
                    go_wp2_with fail
                    refine HO.out.mono ?_
                    rintro r w1 ⟨rfl, rfl⟩
                    go_wp2_with fail
                    refine (HMO.out _).mono ?_
                    rintro r w1 ⟨rfl, rfl⟩
                    go_wp2_with fail
                    refine HK.out.mono ?_
                    rintro r w1 ⟨rfl, b1⟩
                    have B1 := Lib.hid b1
                    obtain ⟨x17, x1⟩ := HC.out _ b1
                    clear b1
                    go_wp2
                    go_quiet (fail)
                    go_wp2
                    go_ret
                    exact ⟨rfl, below_drN B1.out _⟩
              | true =>
                cases bD with
                | false =>
                  go_enter Try.func69, Try.ntmps69
                  go_wp2_with fail
                  refine HM.out.mono ?_
                  rintro r w1 ⟨rfl, rfl⟩
                  go_wp2_with fail
                  refine HO.out.mono ?_
                  rintro r w1 ⟨rfl, rfl⟩
                  go_wp2_with fail
                  refine (HMO.out _).mono ?_
                  rintro r w1 ⟨rfl, rfl⟩
                  go_wp2_with fail
                  refine HK.out.mono ?_
                  rintro r w1 ⟨rfl, b1⟩
                  have B1 := Lib.hid b1
                  obtain ⟨x17, x1⟩ := HC.out _ b1
                  clear b1
                  go_wp2
                  go_quiet (fail)
                  go_wp2
                  go_ret
                  exact ⟨rfl, below_drN B1.out _⟩
                | true =>
                  go_enter Try.func69, Try.ntmps69
                  go_wp2_with fail
                  refine HM.out.mono ?_
                  rintro r w1 ⟨rfl, rfl⟩
                  go_wp2_with fail
                  refine HO.out.mono ?_
                  rintro r w1 ⟨rfl, rfl⟩
                  go_wp2_with fail
                  refine (HMO.out _).mono ?_
                  rintro r w1 ⟨rfl, rfl⟩
                  go_wp2_with fail
                  refine HK.out.mono ?_
                  rintro r w1 ⟨rfl, b1⟩
                  have B1 := Lib.hid b1
                  obtain ⟨x17, x1⟩ := HC.out _ b1
                  clear b1
                  go_wp2
                  go_quiet (fail)
                  go_wp2
                  go_ret
                  exact ⟨rfl, below_drN B1.out _⟩
            | true =>
              go_enter Try.func69, Try.ntmps69
              go_wp2_with fail
              refine HM.out.mono ?_
              rintro r w1 ⟨rfl, rfl⟩
              go_wp2_with fail
              refine HO.out.mono ?_
              rintro r w1 ⟨rfl, rfl⟩
              go_wp2_with fail
              refine (HMO.out _).mono ?_
              rintro r w1 ⟨rfl, rfl⟩
              go_wp2_with fail
              refine HK.out.mono ?_
              rintro r w1 ⟨rfl, b1⟩
              have B1 := Lib.hid b1
              obtain ⟨x17, x1⟩ := HC.out _ b1
              clear b1
              go_wp2_with fail
              refine (HOT.out _).mono ?_
              rintro r w2 ⟨rfl, rfl⟩
              go_wp2
              go_ret
              exact ⟨rfl, B1.out⟩
          | true =>
            go_enter Try.func69, Try.ntmps69
            go_wp2_with fail
            refine HM.out.mono ?_
            rintro r w1 ⟨rfl, rfl⟩
            go_wp2_with fail
            refine HO.out.mono ?_
            rintro r w1 ⟨rfl, rfl⟩
            go_wp2_with fail
            refine (HMO.out _).mono ?_
            rintro r w1 ⟨rfl, rfl⟩
            go_wp2_with fail
            refine HK.out.mono ?_
            rintro r w1 ⟨rfl, b1⟩
            have B1 := Lib.hid b1
            obtain ⟨x17, x1⟩ := HC.out _ b1
            clear b1
            go_wp2
            go_ret
            exact ⟨rfl, B1.out⟩
end Go.Proofs.Ytgknpheefbfnlaa
/-
  CONTRACTS of package cborin, part G: refusesChunk, refuses.
-/
namespace Go.Proofs.Ytgknpheefbfnlaa
open Go.RowKit
open Go.Lib
def chE (mj : Nat) (h : Hd) : Nat := if brkH h = true ∨ (majH h = mj ∧ opnH h = false) then 0 else 2
/-- The head's cells, and the text's kind; frame. -/
abbrev S6 (w : World) (b o e p m : Nat) (q : Bool) (l v mj : Nat) (W : World) : Prop :=
  (W.cell? ⟨b, o + 3, none⟩ = some (.int .i64 e) ∧ W.cell? ⟨b, o + 3 + 1, none⟩ = some (.int .i64 p) ∧ W.cell? ⟨b, o + 3 + 2, none⟩ = some (.int .i64 m) ∧ W.cell? ⟨b, o + 3 + 3, none⟩ = some (.bool q) ∧ W.cell? ⟨b, o + 3 + 4, none⟩ = some (.int .i64 l) ∧ W.cell? ⟨b, o + 3 + 5, none⟩ = some (.int .u64 v)) ∧
  W.cell? ⟨b, o + 9, none⟩ = some (.int .i64 mj) ∧ Hid (Below w.heap.size w W)
theorem CP.s6 {w : World} {b o D pl : Nat} {h : Hd} {mj : Nat} {ch : Bool} {lk : Nat} {vt : Value} {t : List UInt8} {u : Option (Nat × Nat × Nat)} {vs : Value} {n : Nat} {xs : List Value} (c : CP w b o D pl h mj ch lk vt t u vs n xs)
    {e p m : Nat} {q : Bool} {l v : Nat} (hc : hdCells h = hd6 e p m q l v) {W : World} (k : Below w.heap.size w W) : S6 w b o e p m q l v mj W := by
  have c' := c.go k
  have hA := c'.hd.2
  rw [hc] at hA
  obtain ⟨⟨k0, _⟩, ⟨k1, _⟩, ⟨k2, _⟩, ⟨k3, _⟩, ⟨k4, _⟩, ⟨k5, _⟩⟩ := hA.six
  exact ⟨⟨k0, k1, k2, k3, k4, k5⟩, c'.cells.2.1.1.1, Lib.hid k⟩
set_option maxRecDepth 100000 in
set_option maxHeartbeats 4000000 in
theorem rchunk_t {w : World} {b o e p m : Nat} {q : Bool} {l v mj : Nat} (HS : S6 w b o e p m q l v mj w.drew)
    (HB : Hid (∀ W, S6 w b o e p m q l v mj W → Calls Try.prog 67 #[.agg #[.int .i64 e, .int .i64 p, .int .i64 m, .bool q, .int .i64 l, .int .u64 v]] W fun r w' => r = .returned (.bool true) ∧ S6 w b o e p m q l v mj w')) :
    Calls Try.prog 66 #[.pointer (some ⟨b, o, none⟩)] w fun r w' => r = .returned (.int .i64 0) ∧ Below w.heap.size w w' := by
  go_enter Try.func66, Try.ntmps66
  go_wp2_with fail
  refine wp_region_held_drew (S := S6 w b o e p m q l v mj) (by kernel_rfl) HS (fun hHeld => ?_)
  refine wpAnyH_take (i := 0) (oi := { dst := some 3, op := Op.move (Operand.tmp 0), type := 46, pos := "heads.go:64", after := #[], guard := none }) (v := ?_) rfl (by kernel_rfl) (by kernel_rfl) (by kernel_rfl) (fun _ _ _ h => h) (Or.inl ⟨by rfl, ?_⟩) hHeld ?_
  rotate_left
  · (intro w hSw; (try dsimp only at hSw); first | (go_simp; done) | (go_simp; with_reducible rfl))
  try simp only [Act.put, List.setIfInBounds_toArray, List.set_cons_zero, List.set_cons_succ]
  refine wpAnyH_take (i := 1) (oi := { dst := some 4, op := Op.nilCheck (Operand.tmp 3), type := 0, pos := "heads.go:64", after := #[{ on := 0, ground := Ground.data }], guard := none }) (v := ?_) rfl (by kernel_rfl) (by kernel_rfl) (by kernel_rfl) (fun _ _ _ h => h) (Or.inl ⟨by rfl, ?_⟩) hHeld ?_
  rotate_left
  · (intro w hSw; (try dsimp only at hSw); first | (go_simp; done) | (go_simp; with_reducible rfl))
  try simp only [Act.put, List.setIfInBounds_toArray, List.set_cons_zero, List.set_cons_succ]
  refine wpAnyH_take (i := 2) (oi := { dst := some 5, op := Op.fieldAddr 86 (Operand.tmp 4) 3, type := 0, pos := "heads.go:64", after := #[{ on := 1, ground := Ground.data }], guard := none }) (v := ?_) rfl (by kernel_rfl) (by kernel_rfl) (by kernel_rfl) (fun _ _ _ h => h) (Or.inl ⟨by rfl, ?_⟩) hHeld ?_
  rotate_left
  · (intro w hSw; (try dsimp only at hSw); first | (go_simp; done) | (go_simp; with_reducible rfl))
  try simp only [Act.put, List.setIfInBounds_toArray, List.set_cons_zero, List.set_cons_succ]
  refine wpAnyH_take (i := 3) (oi := { dst := some 6, op := Op.load 78 (Operand.tmp 5), type := 78, pos := "heads.go:64", after := #[{ on := 2, ground := Ground.data }], guard := none }) (v := ?_) rfl (by kernel_rfl) (by kernel_rfl) (by kernel_rfl) (fun _ _ _ h => h) (Or.inl ⟨by rfl, ?_⟩) hHeld ?_
  rotate_left
  · (intro w hSw; (try dsimp only at hSw); first | (go_simp; done) | (go_simp; with_reducible rfl))
  try simp only [Act.put, List.setIfInBounds_toArray, List.set_cons_zero, List.set_cons_succ]
  refine wpAnyH_ready (rs := [4]) (by kernel_rfl) (by simp) ?_
  refine AllReadyH.cons (o := { dst := some 7, op := Op.call { callee := Callee.value (Operand.func 67), args := #[Operand.tmp 6], argTypes := #[78] }, type := 4, pos := "heads.go:64", after := #[{ on := 3, ground := Ground.data }], guard := none }) rfl (fun K hK => ?_) AllReadyH.nil
  go_simp
  go_at_call 67
  refine (HB.out _ hHeld).mono ?_
  rintro r v1 ⟨rfl, h1⟩
  go_wp2_with fail
  clear hHeld
  refine hK.out _ _ h1 (fun hHeld => ?_)
  clear hK K
  try simp only [Act.put, List.setIfInBounds_toArray, List.set_cons_zero, List.set_cons_succ]
  refine wpAnyH_take (i := 5) (oi := { dst := some 8, op := Op.move (Operand.tmp 7), type := 4, pos := "heads.go:64", after := #[{ on := 4, ground := Ground.data }, { on := 4, ground := Ground.chain }], guard := none }) (v := ?_) rfl (by kernel_rfl) (by kernel_rfl) (by kernel_rfl) (fun _ _ _ h => h) (Or.inl ⟨by rfl, ?_⟩) hHeld ?_
  rotate_left
  · (intro w hSw; (try dsimp only at hSw); first | (go_simp; done) | (go_simp; with_reducible rfl))
  try simp only [Act.put, List.setIfInBounds_toArray, List.set_cons_zero, List.set_cons_succ]
  refine wpAnyH_take (i := 6) (oi := { dst := some 9, op := Op.move (Operand.tmp 0), type := 46, pos := "heads.go:64", after := #[{ on := 5, ground := Ground.guard }], guard := some (5, false) }) rfl (by kernel_rfl) (by kernel_rfl) (by kernel_rfl) (fun _ _ _ h => h) (Or.inr ⟨by rfl, rfl⟩) hHeld ?_
  try simp only [Act.put, List.setIfInBounds_toArray, List.set_cons_zero, List.set_cons_succ]
  refine wpAnyH_take (i := 7) (oi := { dst := some 10, op := Op.nilCheck (Operand.tmp 9), type := 0, pos := "heads.go:64", after := #[{ on := 6, ground := Ground.data }, { on := 5, ground := Ground.guard }], guard := some (5, false) }) rfl (by kernel_rfl) (by kernel_rfl) (by kernel_rfl) (fun _ _ _ h => h) (Or.inr ⟨by rfl, rfl⟩) hHeld ?_
  try simp only [Act.put, List.setIfInBounds_toArray, List.set_cons_zero, List.set_cons_succ]
  refine wpAnyH_take (i := 8) (oi := { dst := some 11, op := Op.fieldAddr 86 (Operand.tmp 10) 3, type := 0, pos := "heads.go:64", after := #[{ on := 7, ground := Ground.data }, { on := 5, ground := Ground.guard }], guard := some (5, false) }) rfl (by kernel_rfl) (by kernel_rfl) (by kernel_rfl) (fun _ _ _ h => h) (Or.inr ⟨by rfl, rfl⟩) hHeld ?_
  try simp only [Act.put, List.setIfInBounds_toArray, List.set_cons_zero, List.set_cons_succ]
  refine wpAnyH_take (i := 9) (oi := { dst := some 12, op := Op.call { callee := Callee.value (Operand.func 72), args := #[Operand.tmp 11], argTypes := #[78] }, type := 3, pos := "heads.go:64", after := #[{ on := 8, ground := Ground.data }, { on := 5, ground := Ground.chain }, { on := 5, ground := Ground.guard }], guard := some (5, false) }) rfl (by kernel_rfl) (by kernel_rfl) (by kernel_rfl) (fun _ _ _ h => h) (Or.inr ⟨by rfl, rfl⟩) hHeld ?_
  try simp only [Act.put, List.setIfInBounds_toArray, List.set_cons_zero, List.set_cons_succ]
  refine wpAnyH_take (i := 10) (oi := { dst := some 13, op := Op.move (Operand.tmp 0), type := 46, pos := "heads.go:64", after := #[{ on := 5, ground := Ground.guard }], guard := some (5, false) }) rfl (by kernel_rfl) (by kernel_rfl) (by kernel_rfl) (fun _ _ _ h => h) (Or.inr ⟨by rfl, rfl⟩) hHeld ?_
  try simp only [Act.put, List.setIfInBounds_toArray, List.set_cons_zero, List.set_cons_succ]
  refine wpAnyH_take (i := 11) (oi := { dst := some 14, op := Op.nilCheck (Operand.tmp 13), type := 0, pos := "heads.go:64", after := #[{ on := 10, ground := Ground.data }, { on := 5, ground := Ground.guard }], guard := some (5, false) }) rfl (by kernel_rfl) (by kernel_rfl) (by kernel_rfl) (fun _ _ _ h => h) (Or.inr ⟨by rfl, rfl⟩) hHeld ?_
  try simp only [Act.put, List.setIfInBounds_toArray, List.set_cons_zero, List.set_cons_succ]
  refine wpAnyH_take (i := 12) (oi := { dst := some 15, op := Op.fieldAddr 86 (Operand.tmp 14) 4, type := 0, pos := "heads.go:64", after := #[{ on := 11, ground := Ground.data }, { on := 5, ground := Ground.guard }], guard := some (5, false) }) rfl (by kernel_rfl) (by kernel_rfl) (by kernel_rfl) (fun _ _ _ h => h) (Or.inr ⟨by rfl, rfl⟩) hHeld ?_
  try simp only [Act.put, List.setIfInBounds_toArray, List.set_cons_zero, List.set_cons_succ]
  refine wpAnyH_take (i := 13) (oi := { dst := some 16, op := Op.fieldAddr 82 (Operand.tmp 15) 0, type := 0, pos := "heads.go:64", after := #[{ on := 12, ground := Ground.data }, { on := 5, ground := Ground.guard }], guard := some (5, false) }) rfl (by kernel_rfl) (by kernel_rfl) (by kernel_rfl) (fun _ _ _ h => h) (Or.inr ⟨by rfl, rfl⟩) hHeld ?_
  try simp only [Act.put, List.setIfInBounds_toArray, List.set_cons_zero, List.set_cons_succ]
  refine wpAnyH_take (i := 14) (oi := { dst := some 17, op := Op.load 3 (Operand.tmp 16), type := 3, pos := "heads.go:64", after := #[{ on := 13, ground := Ground.data }, { on := 5, ground := Ground.guard }], guard := some (5, false) }) rfl (by kernel_rfl) (by kernel_rfl) (by kernel_rfl) (fun _ _ _ h => h) (Or.inr ⟨by rfl, rfl⟩) hHeld ?_
  try simp only [Act.put, List.setIfInBounds_toArray, List.set_cons_zero, List.set_cons_succ]
  refine wpAnyH_take (i := 15) (oi := { dst := some 18, op := Op.binOp BinOp.eql 3 (Operand.tmp 12) (Operand.tmp 17) 3, type := 4, pos := "heads.go:64", after := #[{ on := 9, ground := Ground.data }, { on := 14, ground := Ground.data }, { on := 5, ground := Ground.guard }], guard := some (5, false) }) rfl (by kernel_rfl) (by kernel_rfl) (by kernel_rfl) (fun _ _ _ h => h) (Or.inr ⟨by rfl, rfl⟩) hHeld ?_
  try simp only [Act.put, List.setIfInBounds_toArray, List.set_cons_zero, List.set_cons_succ]
  refine wpAnyH_take (i := 16) (oi := { dst := some 19, op := Op.move (Operand.tmp 18), type := 4, pos := "heads.go:64", after := #[{ on := 15, ground := Ground.data }, { on := 9, ground := Ground.chain }, { on := 5, ground := Ground.guard }], guard := some (5, false) }) rfl (by kernel_rfl) (by kernel_rfl) (by kernel_rfl) (fun _ _ _ h => h) (Or.inr ⟨by rfl, rfl⟩) hHeld ?_
  try simp only [Act.put, List.setIfInBounds_toArray, List.set_cons_zero, List.set_cons_succ]
  refine wpAnyH_take (i := 17) (oi := { dst := some 20, op := Op.move (Operand.tmp 0), type := 46, pos := "heads.go:64", after := #[{ on := 16, ground := Ground.guard }], guard := some (16, true) }) rfl (by kernel_rfl) (by kernel_rfl) (by kernel_rfl) (fun _ _ _ h => h) (Or.inr ⟨by rfl, rfl⟩) hHeld ?_
  try simp only [Act.put, List.setIfInBounds_toArray, List.set_cons_zero, List.set_cons_succ]
  refine wpAnyH_take (i := 18) (oi := { dst := some 21, op := Op.nilCheck (Operand.tmp 20), type := 0, pos := "heads.go:64", after := #[{ on := 17, ground := Ground.data }, { on := 16, ground := Ground.guard }], guard := some (16, true) }) rfl (by kernel_rfl) (by kernel_rfl) (by kernel_rfl) (fun _ _ _ h => h) (Or.inr ⟨by rfl, rfl⟩) hHeld ?_
  try simp only [Act.put, List.setIfInBounds_toArray, List.set_cons_zero, List.set_cons_succ]
  refine wpAnyH_take (i := 19) (oi := { dst := some 22, op := Op.fieldAddr 86 (Operand.tmp 21) 3, type := 0, pos := "heads.go:64", after := #[{ on := 18, ground := Ground.data }, { on := 16, ground := Ground.guard }], guard := some (16, true) }) rfl (by kernel_rfl) (by kernel_rfl) (by kernel_rfl) (fun _ _ _ h => h) (Or.inr ⟨by rfl, rfl⟩) hHeld ?_
  try simp only [Act.put, List.setIfInBounds_toArray, List.set_cons_zero, List.set_cons_succ]
  refine wpAnyH_take (i := 20) (oi := { dst := some 23, op := Op.call { callee := Callee.value (Operand.func 84), args := #[Operand.tmp 22], argTypes := #[78] }, type := 4, pos := "heads.go:64", after := #[{ on := 19, ground := Ground.data }, { on := 16, ground := Ground.chain }, { on := 16, ground := Ground.guard }], guard := some (16, true) }) rfl (by kernel_rfl) (by kernel_rfl) (by kernel_rfl) (fun _ _ _ h => h) (Or.inr ⟨by rfl, rfl⟩) hHeld ?_
  try simp only [Act.put, List.setIfInBounds_toArray, List.set_cons_zero, List.set_cons_succ]
  refine wpAnyH_take (i := 21) (oi := { dst := some 24, op := Op.unOp UnOp.not 4 (Operand.tmp 23), type := 4, pos := "heads.go:64", after := #[{ on := 20, ground := Ground.data }, { on := 16, ground := Ground.guard }], guard := some (16, true) }) rfl (by kernel_rfl) (by kernel_rfl) (by kernel_rfl) (fun _ _ _ h => h) (Or.inr ⟨by rfl, rfl⟩) hHeld ?_
  try simp only [Act.put, List.setIfInBounds_toArray, List.set_cons_zero, List.set_cons_succ]
  refine wpAnyH_take (i := 22) (oi := { dst := some 25, op := Op.pick (Operand.tmp 19) (Operand.tmp 24) (Operand.const (Value.bool false)), type := 4, pos := "heads.go:64", after := #[{ on := 16, ground := Ground.data }, { on := 21, ground := Ground.data }, { on := 5, ground := Ground.guard }], guard := some (5, false) }) rfl (by kernel_rfl) (by kernel_rfl) (by kernel_rfl) (fun _ _ _ h => h) (Or.inr ⟨by rfl, rfl⟩) hHeld ?_
  try simp only [Act.put, List.setIfInBounds_toArray, List.set_cons_zero, List.set_cons_succ]
  refine wpAnyH_take (i := 23) (oi := { dst := some 26, op := Op.pick (Operand.tmp 8) (Operand.const (Value.bool true)) (Operand.tmp 25), type := 4, pos := "heads.go:64", after := #[{ on := 5, ground := Ground.data }, { on := 22, ground := Ground.data }], guard := none }) (v := ?_) rfl (by kernel_rfl) (by kernel_rfl) (by kernel_rfl) (fun _ _ _ h => h) (Or.inl ⟨by rfl, ?_⟩) hHeld ?_
  rotate_left
  · (intro w hSw; (try dsimp only at hSw); first | (go_simp; done) | (go_simp; with_reducible rfl))
  try simp only [Act.put, List.setIfInBounds_toArray, List.set_cons_zero, List.set_cons_succ]
  refine wpAnyH_done (by kernel_rfl) ?_ _
  have HT := Lib.hid hHeld.2.2.out
  go_wp2
  go_ret
  exact ⟨rfl, HT.out⟩
set_option maxRecDepth 100000 in
set_option maxHeartbeats 4000000 in
theorem rchunk_no {w : World} {b o e p m : Nat} {q : Bool} {l v mj : Nat} (HS : S6 w b o e p m q l v mj w.drew) (HB : Hid (∀ W, S6 w b o e p m q l v mj W → Calls Try.prog 67 #[.agg #[.int .i64 e, .int .i64 p, .int .i64 m, .bool q, .int .i64 l, .int .u64 v]] W fun r w' => r = .returned (.bool false) ∧ S6 w b o e p m q l v mj w')) {M : Nat} (HM : Hid (∀ W, S6 w b o e p m q l v mj W → Calls Try.prog 72 #[.pointer (some ⟨b, o + 3, none⟩)] W fun r w' => r = .returned (.int .i64 M) ∧ S6 w b o e p m q l v mj w')) (zm : ((M : Int) == (mj : Int)) = false) :
    Calls Try.prog 66 #[.pointer (some ⟨b, o, none⟩)] w fun r w' => r = .returned (.int .i64 2) ∧ Below w.heap.size w w' := by
  go_enter Try.func66, Try.ntmps66
  go_wp2_with fail
  refine wp_region_held_drew (S := S6 w b o e p m q l v mj) (by kernel_rfl) HS (fun hHeld => ?_)
  refine wpAnyH_take (i := 0) (oi := { dst := some 3, op := Op.move (Operand.tmp 0), type := 46, pos := "heads.go:64", after := #[], guard := none }) (v := ?_) rfl (by kernel_rfl) (by kernel_rfl) (by kernel_rfl) (fun _ _ _ h => h) (Or.inl ⟨by rfl, ?_⟩) hHeld ?_
  rotate_left
  · (intro w hSw; (try dsimp only at hSw); first | (go_simp; done) | (go_simp; with_reducible rfl))
  try simp only [Act.put, List.setIfInBounds_toArray, List.set_cons_zero, List.set_cons_succ]
  refine wpAnyH_take (i := 1) (oi := { dst := some 4, op := Op.nilCheck (Operand.tmp 3), type := 0, pos := "heads.go:64", after := #[{ on := 0, ground := Ground.data }], guard := none }) (v := ?_) rfl (by kernel_rfl) (by kernel_rfl) (by kernel_rfl) (fun _ _ _ h => h) (Or.inl ⟨by rfl, ?_⟩) hHeld ?_
  rotate_left
  · (intro w hSw; (try dsimp only at hSw); first | (go_simp; done) | (go_simp; with_reducible rfl))
  try simp only [Act.put, List.setIfInBounds_toArray, List.set_cons_zero, List.set_cons_succ]
  refine wpAnyH_take (i := 2) (oi := { dst := some 5, op := Op.fieldAddr 86 (Operand.tmp 4) 3, type := 0, pos := "heads.go:64", after := #[{ on := 1, ground := Ground.data }], guard := none }) (v := ?_) rfl (by kernel_rfl) (by kernel_rfl) (by kernel_rfl) (fun _ _ _ h => h) (Or.inl ⟨by rfl, ?_⟩) hHeld ?_
  rotate_left
  · (intro w hSw; (try dsimp only at hSw); first | (go_simp; done) | (go_simp; with_reducible rfl))
  try simp only [Act.put, List.setIfInBounds_toArray, List.set_cons_zero, List.set_cons_succ]
  refine wpAnyH_take (i := 3) (oi := { dst := some 6, op := Op.load 78 (Operand.tmp 5), type := 78, pos := "heads.go:64", after := #[{ on := 2, ground := Ground.data }], guard := none }) (v := ?_) rfl (by kernel_rfl) (by kernel_rfl) (by kernel_rfl) (fun _ _ _ h => h) (Or.inl ⟨by rfl, ?_⟩) hHeld ?_
  rotate_left
  · (intro w hSw; (try dsimp only at hSw); first | (go_simp; done) | (go_simp; with_reducible rfl))
  try simp only [Act.put, List.setIfInBounds_toArray, List.set_cons_zero, List.set_cons_succ]
  refine wpAnyH_ready (rs := [4]) (by kernel_rfl) (by simp) ?_
  refine AllReadyH.cons (o := { dst := some 7, op := Op.call { callee := Callee.value (Operand.func 67), args := #[Operand.tmp 6], argTypes := #[78] }, type := 4, pos := "heads.go:64", after := #[{ on := 3, ground := Ground.data }], guard := none }) rfl (fun K hK => ?_) AllReadyH.nil
  go_simp
  go_at_call 67
  refine (HB.out _ hHeld).mono ?_
  rintro r v1 ⟨rfl, h1⟩
  go_wp2_with fail
  clear hHeld
  refine hK.out _ _ h1 (fun hHeld => ?_)
  clear hK K
  try simp only [Act.put, List.setIfInBounds_toArray, List.set_cons_zero, List.set_cons_succ]
  refine wpAnyH_take (i := 5) (oi := { dst := some 8, op := Op.move (Operand.tmp 7), type := 4, pos := "heads.go:64", after := #[{ on := 4, ground := Ground.data }, { on := 4, ground := Ground.chain }], guard := none }) (v := ?_) rfl (by kernel_rfl) (by kernel_rfl) (by kernel_rfl) (fun _ _ _ h => h) (Or.inl ⟨by rfl, ?_⟩) hHeld ?_
  rotate_left
  · (intro w hSw; (try dsimp only at hSw); first | (go_simp; done) | (go_simp; with_reducible rfl))
  try simp only [Act.put, List.setIfInBounds_toArray, List.set_cons_zero, List.set_cons_succ]
  refine wpAnyH_take (i := 6) (oi := { dst := some 9, op := Op.move (Operand.tmp 0), type := 46, pos := "heads.go:64", after := #[{ on := 5, ground := Ground.guard }], guard := some (5, false) }) (v := ?_) rfl (by kernel_rfl) (by kernel_rfl) (by kernel_rfl) (fun _ _ _ h => h) (Or.inl ⟨by rfl, ?_⟩) hHeld ?_
  rotate_left
  · (intro w hSw; (try dsimp only at hSw); first | (go_simp; done) | (go_simp; with_reducible rfl))
  try simp only [Act.put, List.setIfInBounds_toArray, List.set_cons_zero, List.set_cons_succ]
  refine wpAnyH_take (i := 7) (oi := { dst := some 10, op := Op.nilCheck (Operand.tmp 9), type := 0, pos := "heads.go:64", after := #[{ on := 6, ground := Ground.data }, { on := 5, ground := Ground.guard }], guard := some (5, false) }) (v := ?_) rfl (by kernel_rfl) (by kernel_rfl) (by kernel_rfl) (fun _ _ _ h => h) (Or.inl ⟨by rfl, ?_⟩) hHeld ?_
  rotate_left
  · (intro w hSw; (try dsimp only at hSw); first | (go_simp; done) | (go_simp; with_reducible rfl))
  try simp only [Act.put, List.setIfInBounds_toArray, List.set_cons_zero, List.set_cons_succ]
  refine wpAnyH_take (i := 8) (oi := { dst := some 11, op := Op.fieldAddr 86 (Operand.tmp 10) 3, type := 0, pos := "heads.go:64", after := #[{ on := 7, ground := Ground.data }, { on := 5, ground := Ground.guard }], guard := some (5, false) }) (v := ?_) rfl (by kernel_rfl) (by kernel_rfl) (by kernel_rfl) (fun _ _ _ h => h) (Or.inl ⟨by rfl, ?_⟩) hHeld ?_
  rotate_left
  · (intro w hSw; (try dsimp only at hSw); first | (go_simp; done) | (go_simp; with_reducible rfl))
  try simp only [Act.put, List.setIfInBounds_toArray, List.set_cons_zero, List.set_cons_succ]
  refine wpAnyH_take (i := 10) (oi := { dst := some 13, op := Op.move (Operand.tmp 0), type := 46, pos := "heads.go:64", after := #[{ on := 5, ground := Ground.guard }], guard := some (5, false) }) (v := ?_) rfl (by kernel_rfl) (by kernel_rfl) (by kernel_rfl) (fun _ _ _ h => h) (Or.inl ⟨by rfl, ?_⟩) hHeld ?_
  rotate_left
  · (intro w hSw; (try dsimp only at hSw); first | (go_simp; done) | (go_simp; with_reducible rfl))
  try simp only [Act.put, List.setIfInBounds_toArray, List.set_cons_zero, List.set_cons_succ]
  refine wpAnyH_take (i := 11) (oi := { dst := some 14, op := Op.nilCheck (Operand.tmp 13), type := 0, pos := "heads.go:64", after := #[{ on := 10, ground := Ground.data }, { on := 5, ground := Ground.guard }], guard := some (5, false) }) (v := ?_) rfl (by kernel_rfl) (by kernel_rfl) (by kernel_rfl) (fun _ _ _ h => h) (Or.inl ⟨by rfl, ?_⟩) hHeld ?_
  rotate_left
  · (intro w hSw; (try dsimp only at hSw); first | (go_simp; done) | (go_simp; with_reducible rfl))
  try simp only [Act.put, List.setIfInBounds_toArray, List.set_cons_zero, List.set_cons_succ]
  refine wpAnyH_take (i := 12) (oi := { dst := some 15, op := Op.fieldAddr 86 (Operand.tmp 14) 4, type := 0, pos := "heads.go:64", after := #[{ on := 11, ground := Ground.data }, { on := 5, ground := Ground.guard }], guard := some (5, false) }) (v := ?_) rfl (by kernel_rfl) (by kernel_rfl) (by kernel_rfl) (fun _ _ _ h => h) (Or.inl ⟨by rfl, ?_⟩) hHeld ?_
  rotate_left
  · (intro w hSw; (try dsimp only at hSw); first | (go_simp; done) | (go_simp; with_reducible rfl))
  try simp only [Act.put, List.setIfInBounds_toArray, List.set_cons_zero, List.set_cons_succ]
  refine wpAnyH_take (i := 13) (oi := { dst := some 16, op := Op.fieldAddr 82 (Operand.tmp 15) 0, type := 0, pos := "heads.go:64", after := #[{ on := 12, ground := Ground.data }, { on := 5, ground := Ground.guard }], guard := some (5, false) }) (v := ?_) rfl (by kernel_rfl) (by kernel_rfl) (by kernel_rfl) (fun _ _ _ h => h) (Or.inl ⟨by rfl, ?_⟩) hHeld ?_
  rotate_left
  · (intro w hSw; (try dsimp only at hSw); first | (go_simp; done) | (go_simp; with_reducible rfl))
  try simp only [Act.put, List.setIfInBounds_toArray, List.set_cons_zero, List.set_cons_succ]
  refine wpAnyH_take (i := 14) (oi := { dst := some 17, op := Op.load 3 (Operand.tmp 16), type := 3, pos := "heads.go:64", after := #[{ on := 13, ground := Ground.data }, { on := 5, ground := Ground.guard }], guard := some (5, false) }) (v := ?_) rfl (by kernel_rfl) (by kernel_rfl) (by kernel_rfl) (fun _ _ _ h => h) (Or.inl ⟨by rfl, ?_⟩) hHeld ?_
  rotate_left
  · (intro w hSw; (try dsimp only at hSw); first | (go_simp; done) | (go_simp; with_reducible rfl))
  try simp only [Act.put, List.setIfInBounds_toArray, List.set_cons_zero, List.set_cons_succ]
  refine wpAnyH_ready (rs := [9]) (by kernel_rfl) (by simp) ?_
  refine AllReadyH.cons (o := { dst := some 12, op := Op.call { callee := Callee.value (Operand.func 72), args := #[Operand.tmp 11], argTypes := #[78] }, type := 3, pos := "heads.go:64", after := #[{ on := 8, ground := Ground.data }, { on := 5, ground := Ground.chain }, { on := 5, ground := Ground.guard }], guard := some (5, false) }) rfl (fun K hK => ?_) AllReadyH.nil
  go_simp
  go_at_call 72
  refine (HM.out _ hHeld).mono ?_
  rintro r v1 ⟨rfl, h1⟩
  go_wp2_with fail
  clear hHeld
  refine hK.out _ _ h1 (fun hHeld => ?_)
  clear hK K
  try simp only [Act.put, List.setIfInBounds_toArray, List.set_cons_zero, List.set_cons_succ]
  refine wpAnyH_take (i := 15) (oi := { dst := some 18, op := Op.binOp BinOp.eql 3 (Operand.tmp 12) (Operand.tmp 17) 3, type := 4, pos := "heads.go:64", after := #[{ on := 9, ground := Ground.data }, { on := 14, ground := Ground.data }, { on := 5, ground := Ground.guard }], guard := some (5, false) }) (v := ?_) rfl (by kernel_rfl) (by kernel_rfl) (by kernel_rfl) (fun _ _ _ h => h) (Or.inl ⟨by rfl, ?_⟩) hHeld ?_
  rotate_left
  · (intro w hSw; (try dsimp only at hSw); first | (go_simp; done) | (go_simp; with_reducible rfl))
  try simp only [Act.put, List.setIfInBounds_toArray, List.set_cons_zero, List.set_cons_succ]
  refine wpAnyH_take (i := 16) (oi := { dst := some 19, op := Op.move (Operand.tmp 18), type := 4, pos := "heads.go:64", after := #[{ on := 15, ground := Ground.data }, { on := 9, ground := Ground.chain }, { on := 5, ground := Ground.guard }], guard := some (5, false) }) (v := ?_) rfl (by kernel_rfl) (by kernel_rfl) (by kernel_rfl) (fun _ _ _ h => h) (Or.inl ⟨by rfl, ?_⟩) hHeld ?_
  rotate_left
  · (intro w hSw; (try dsimp only at hSw); first | (go_simp; done) | (go_simp; with_reducible rfl))
  try simp only [Act.put, List.setIfInBounds_toArray, List.set_cons_zero, List.set_cons_succ]
  refine wpAnyH_take (i := 17) (oi := { dst := some 20, op := Op.move (Operand.tmp 0), type := 46, pos := "heads.go:64", after := #[{ on := 16, ground := Ground.guard }], guard := some (16, true) }) rfl (by kernel_rfl) (by kernel_rfl) (by kernel_rfl) (fun _ _ _ h => h) (Or.inr ⟨by rfl, rfl⟩) hHeld ?_
  try simp only [Act.put, List.setIfInBounds_toArray, List.set_cons_zero, List.set_cons_succ]
  refine wpAnyH_take (i := 18) (oi := { dst := some 21, op := Op.nilCheck (Operand.tmp 20), type := 0, pos := "heads.go:64", after := #[{ on := 17, ground := Ground.data }, { on := 16, ground := Ground.guard }], guard := some (16, true) }) rfl (by kernel_rfl) (by kernel_rfl) (by kernel_rfl) (fun _ _ _ h => h) (Or.inr ⟨by rfl, rfl⟩) hHeld ?_
  try simp only [Act.put, List.setIfInBounds_toArray, List.set_cons_zero, List.set_cons_succ]
  refine wpAnyH_take (i := 19) (oi := { dst := some 22, op := Op.fieldAddr 86 (Operand.tmp 21) 3, type := 0, pos := "heads.go:64", after := #[{ on := 18, ground := Ground.data }, { on := 16, ground := Ground.guard }], guard := some (16, true) }) rfl (by kernel_rfl) (by kernel_rfl) (by kernel_rfl) (fun _ _ _ h => h) (Or.inr ⟨by rfl, rfl⟩) hHeld ?_
  try simp only [Act.put, List.setIfInBounds_toArray, List.set_cons_zero, List.set_cons_succ]
  refine wpAnyH_take (i := 20) (oi := { dst := some 23, op := Op.call { callee := Callee.value (Operand.func 84), args := #[Operand.tmp 22], argTypes := #[78] }, type := 4, pos := "heads.go:64", after := #[{ on := 19, ground := Ground.data }, { on := 16, ground := Ground.chain }, { on := 16, ground := Ground.guard }], guard := some (16, true) }) rfl (by kernel_rfl) (by kernel_rfl) (by kernel_rfl) (fun _ _ _ h => h) (Or.inr ⟨by rfl, rfl⟩) hHeld ?_
  try simp only [Act.put, List.setIfInBounds_toArray, List.set_cons_zero, List.set_cons_succ]
  refine wpAnyH_take (i := 21) (oi := { dst := some 24, op := Op.unOp UnOp.not 4 (Operand.tmp 23), type := 4, pos := "heads.go:64", after := #[{ on := 20, ground := Ground.data }, { on := 16, ground := Ground.guard }], guard := some (16, true) }) rfl (by kernel_rfl) (by kernel_rfl) (by kernel_rfl) (fun _ _ _ h => h) (Or.inr ⟨by rfl, rfl⟩) hHeld ?_
  try simp only [Act.put, List.setIfInBounds_toArray, List.set_cons_zero, List.set_cons_succ]
  refine wpAnyH_take (i := 22) (oi := { dst := some 25, op := Op.pick (Operand.tmp 19) (Operand.tmp 24) (Operand.const (Value.bool false)), type := 4, pos := "heads.go:64", after := #[{ on := 16, ground := Ground.data }, { on := 21, ground := Ground.data }, { on := 5, ground := Ground.guard }], guard := some (5, false) }) (v := ?_) rfl (by kernel_rfl) (by kernel_rfl) (by kernel_rfl) (fun _ _ _ h => h) (Or.inl ⟨by rfl, ?_⟩) hHeld ?_
  rotate_left
  · (intro w hSw; (try dsimp only at hSw); first | (go_simp; done) | (go_simp; with_reducible rfl))
  try simp only [Act.put, List.setIfInBounds_toArray, List.set_cons_zero, List.set_cons_succ]
  refine wpAnyH_take (i := 23) (oi := { dst := some 26, op := Op.pick (Operand.tmp 8) (Operand.const (Value.bool true)) (Operand.tmp 25), type := 4, pos := "heads.go:64", after := #[{ on := 5, ground := Ground.data }, { on := 22, ground := Ground.data }], guard := none }) (v := ?_) rfl (by kernel_rfl) (by kernel_rfl) (by kernel_rfl) (fun _ _ _ h => h) (Or.inl ⟨by rfl, ?_⟩) hHeld ?_
  rotate_left
  · (intro w hSw; (try dsimp only at hSw); first | (go_simp; done) | (go_simp; with_reducible rfl))
  try simp only [Act.put, List.setIfInBounds_toArray, List.set_cons_zero, List.set_cons_succ]
  refine wpAnyH_done (by kernel_rfl) ?_ _
  have HT := Lib.hid hHeld.2.2.out
  go_wp2
  go_ret
  exact ⟨rfl, HT.out⟩
set_option maxRecDepth 100000 in
set_option maxHeartbeats 4000000 in
theorem rchunk_f {w : World} {b o e p m : Nat} {q : Bool} {l v mj : Nat} (HS : S6 w b o e p m q l v mj w.drew) (HB : Hid (∀ W, S6 w b o e p m q l v mj W → Calls Try.prog 67 #[.agg #[.int .i64 e, .int .i64 p, .int .i64 m, .bool q, .int .i64 l, .int .u64 v]] W fun r w' => r = .returned (.bool false) ∧ S6 w b o e p m q l v mj w')) {M : Nat} (HM : Hid (∀ W, S6 w b o e p m q l v mj W → Calls Try.prog 72 #[.pointer (some ⟨b, o + 3, none⟩)] W fun r w' => r = .returned (.int .i64 M) ∧ S6 w b o e p m q l v mj w')) (zm : ((M : Int) == (mj : Int)) = true) (HO : Hid (∀ W, S6 w b o e p m q l v mj W → Calls Try.prog 84 #[.pointer (some ⟨b, o + 3, none⟩)] W fun r w' => r = .returned (.bool false) ∧ S6 w b o e p m q l v mj w')) :
    Calls Try.prog 66 #[.pointer (some ⟨b, o, none⟩)] w fun r w' => r = .returned (.int .i64 0) ∧ Below w.heap.size w w' := by
  go_enter Try.func66, Try.ntmps66
  go_wp2_with fail
  refine wp_region_held_drew (S := S6 w b o e p m q l v mj) (by kernel_rfl) HS (fun hHeld => ?_)
  refine wpAnyH_take (i := 0) (oi := { dst := some 3, op := Op.move (Operand.tmp 0), type := 46, pos := "heads.go:64", after := #[], guard := none }) (v := ?_) rfl (by kernel_rfl) (by kernel_rfl) (by kernel_rfl) (fun _ _ _ h => h) (Or.inl ⟨by rfl, ?_⟩) hHeld ?_
  rotate_left
  · (intro w hSw; (try dsimp only at hSw); first | (go_simp; done) | (go_simp; with_reducible rfl))
  try simp only [Act.put, List.setIfInBounds_toArray, List.set_cons_zero, List.set_cons_succ]
  refine wpAnyH_take (i := 1) (oi := { dst := some 4, op := Op.nilCheck (Operand.tmp 3), type := 0, pos := "heads.go:64", after := #[{ on := 0, ground := Ground.data }], guard := none }) (v := ?_) rfl (by kernel_rfl) (by kernel_rfl) (by kernel_rfl) (fun _ _ _ h => h) (Or.inl ⟨by rfl, ?_⟩) hHeld ?_
  rotate_left
  · (intro w hSw; (try dsimp only at hSw); first | (go_simp; done) | (go_simp; with_reducible rfl))
  try simp only [Act.put, List.setIfInBounds_toArray, List.set_cons_zero, List.set_cons_succ]
  refine wpAnyH_take (i := 2) (oi := { dst := some 5, op := Op.fieldAddr 86 (Operand.tmp 4) 3, type := 0, pos := "heads.go:64", after := #[{ on := 1, ground := Ground.data }], guard := none }) (v := ?_) rfl (by kernel_rfl) (by kernel_rfl) (by kernel_rfl) (fun _ _ _ h => h) (Or.inl ⟨by rfl, ?_⟩) hHeld ?_
  rotate_left
  · (intro w hSw; (try dsimp only at hSw); first | (go_simp; done) | (go_simp; with_reducible rfl))
  try simp only [Act.put, List.setIfInBounds_toArray, List.set_cons_zero, List.set_cons_succ]
  refine wpAnyH_take (i := 3) (oi := { dst := some 6, op := Op.load 78 (Operand.tmp 5), type := 78, pos := "heads.go:64", after := #[{ on := 2, ground := Ground.data }], guard := none }) (v := ?_) rfl (by kernel_rfl) (by kernel_rfl) (by kernel_rfl) (fun _ _ _ h => h) (Or.inl ⟨by rfl, ?_⟩) hHeld ?_
  rotate_left
  · (intro w hSw; (try dsimp only at hSw); first | (go_simp; done) | (go_simp; with_reducible rfl))
  try simp only [Act.put, List.setIfInBounds_toArray, List.set_cons_zero, List.set_cons_succ]
  refine wpAnyH_ready (rs := [4]) (by kernel_rfl) (by simp) ?_
  refine AllReadyH.cons (o := { dst := some 7, op := Op.call { callee := Callee.value (Operand.func 67), args := #[Operand.tmp 6], argTypes := #[78] }, type := 4, pos := "heads.go:64", after := #[{ on := 3, ground := Ground.data }], guard := none }) rfl (fun K hK => ?_) AllReadyH.nil
  go_simp
  go_at_call 67
  refine (HB.out _ hHeld).mono ?_
  rintro r v1 ⟨rfl, h1⟩
  go_wp2_with fail
  clear hHeld
  refine hK.out _ _ h1 (fun hHeld => ?_)
  clear hK K
  try simp only [Act.put, List.setIfInBounds_toArray, List.set_cons_zero, List.set_cons_succ]
  refine wpAnyH_take (i := 5) (oi := { dst := some 8, op := Op.move (Operand.tmp 7), type := 4, pos := "heads.go:64", after := #[{ on := 4, ground := Ground.data }, { on := 4, ground := Ground.chain }], guard := none }) (v := ?_) rfl (by kernel_rfl) (by kernel_rfl) (by kernel_rfl) (fun _ _ _ h => h) (Or.inl ⟨by rfl, ?_⟩) hHeld ?_
  rotate_left
  · (intro w hSw; (try dsimp only at hSw); first | (go_simp; done) | (go_simp; with_reducible rfl))
  try simp only [Act.put, List.setIfInBounds_toArray, List.set_cons_zero, List.set_cons_succ]
  refine wpAnyH_take (i := 6) (oi := { dst := some 9, op := Op.move (Operand.tmp 0), type := 46, pos := "heads.go:64", after := #[{ on := 5, ground := Ground.guard }], guard := some (5, false) }) (v := ?_) rfl (by kernel_rfl) (by kernel_rfl) (by kernel_rfl) (fun _ _ _ h => h) (Or.inl ⟨by rfl, ?_⟩) hHeld ?_
  rotate_left
  · (intro w hSw; (try dsimp only at hSw); first | (go_simp; done) | (go_simp; with_reducible rfl))
  try simp only [Act.put, List.setIfInBounds_toArray, List.set_cons_zero, List.set_cons_succ]
  refine wpAnyH_take (i := 7) (oi := { dst := some 10, op := Op.nilCheck (Operand.tmp 9), type := 0, pos := "heads.go:64", after := #[{ on := 6, ground := Ground.data }, { on := 5, ground := Ground.guard }], guard := some (5, false) }) (v := ?_) rfl (by kernel_rfl) (by kernel_rfl) (by kernel_rfl) (fun _ _ _ h => h) (Or.inl ⟨by rfl, ?_⟩) hHeld ?_
  rotate_left
  · (intro w hSw; (try dsimp only at hSw); first | (go_simp; done) | (go_simp; with_reducible rfl))
  try simp only [Act.put, List.setIfInBounds_toArray, List.set_cons_zero, List.set_cons_succ]
  refine wpAnyH_take (i := 8) (oi := { dst := some 11, op := Op.fieldAddr 86 (Operand.tmp 10) 3, type := 0, pos := "heads.go:64", after := #[{ on := 7, ground := Ground.data }, { on := 5, ground := Ground.guard }], guard := some (5, false) }) (v := ?_) rfl (by kernel_rfl) (by kernel_rfl) (by kernel_rfl) (fun _ _ _ h => h) (Or.inl ⟨by rfl, ?_⟩) hHeld ?_
  rotate_left
  · (intro w hSw; (try dsimp only at hSw); first | (go_simp; done) | (go_simp; with_reducible rfl))
  try simp only [Act.put, List.setIfInBounds_toArray, List.set_cons_zero, List.set_cons_succ]
  refine wpAnyH_take (i := 10) (oi := { dst := some 13, op := Op.move (Operand.tmp 0), type := 46, pos := "heads.go:64", after := #[{ on := 5, ground := Ground.guard }], guard := some (5, false) }) (v := ?_) rfl (by kernel_rfl) (by kernel_rfl) (by kernel_rfl) (fun _ _ _ h => h) (Or.inl ⟨by rfl, ?_⟩) hHeld ?_
  rotate_left
  · (intro w hSw; (try dsimp only at hSw); first | (go_simp; done) | (go_simp; with_reducible rfl))
  try simp only [Act.put, List.setIfInBounds_toArray, List.set_cons_zero, List.set_cons_succ]
  refine wpAnyH_take (i := 11) (oi := { dst := some 14, op := Op.nilCheck (Operand.tmp 13), type := 0, pos := "heads.go:64", after := #[{ on := 10, ground := Ground.data }, { on := 5, ground := Ground.guard }], guard := some (5, false) }) (v := ?_) rfl (by kernel_rfl) (by kernel_rfl) (by kernel_rfl) (fun _ _ _ h => h) (Or.inl ⟨by rfl, ?_⟩) hHeld ?_
  rotate_left
  · (intro w hSw; (try dsimp only at hSw); first | (go_simp; done) | (go_simp; with_reducible rfl))
  try simp only [Act.put, List.setIfInBounds_toArray, List.set_cons_zero, List.set_cons_succ]
  refine wpAnyH_take (i := 12) (oi := { dst := some 15, op := Op.fieldAddr 86 (Operand.tmp 14) 4, type := 0, pos := "heads.go:64", after := #[{ on := 11, ground := Ground.data }, { on := 5, ground := Ground.guard }], guard := some (5, false) }) (v := ?_) rfl (by kernel_rfl) (by kernel_rfl) (by kernel_rfl) (fun _ _ _ h => h) (Or.inl ⟨by rfl, ?_⟩) hHeld ?_
  rotate_left
  · (intro w hSw; (try dsimp only at hSw); first | (go_simp; done) | (go_simp; with_reducible rfl))
  try simp only [Act.put, List.setIfInBounds_toArray, List.set_cons_zero, List.set_cons_succ]
  refine wpAnyH_take (i := 13) (oi := { dst := some 16, op := Op.fieldAddr 82 (Operand.tmp 15) 0, type := 0, pos := "heads.go:64", after := #[{ on := 12, ground := Ground.data }, { on := 5, ground := Ground.guard }], guard := some (5, false) }) (v := ?_) rfl (by kernel_rfl) (by kernel_rfl) (by kernel_rfl) (fun _ _ _ h => h) (Or.inl ⟨by rfl, ?_⟩) hHeld ?_
  rotate_left
  · (intro w hSw; (try dsimp only at hSw); first | (go_simp; done) | (go_simp; with_reducible rfl))
  try simp only [Act.put, List.setIfInBounds_toArray, List.set_cons_zero, List.set_cons_succ]
  refine wpAnyH_take (i := 14) (oi := { dst := some 17, op := Op.load 3 (Operand.tmp 16), type := 3, pos := "heads.go:64", after := #[{ on := 13, ground := Ground.data }, { on := 5, ground := Ground.guard }], guard := some (5, false) }) (v := ?_) rfl (by kernel_rfl) (by kernel_rfl) (by kernel_rfl) (fun _ _ _ h => h) (Or.inl ⟨by rfl, ?_⟩) hHeld ?_
  rotate_left
  · (intro w hSw; (try dsimp only at hSw); first | (go_simp; done) | (go_simp; with_reducible rfl))
  try simp only [Act.put, List.setIfInBounds_toArray, List.set_cons_zero, List.set_cons_succ]
  refine wpAnyH_ready (rs := [9]) (by kernel_rfl) (by simp) ?_
  refine AllReadyH.cons (o := { dst := some 12, op := Op.call { callee := Callee.value (Operand.func 72), args := #[Operand.tmp 11], argTypes := #[78] }, type := 3, pos := "heads.go:64", after := #[{ on := 8, ground := Ground.data }, { on := 5, ground := Ground.chain }, { on := 5, ground := Ground.guard }], guard := some (5, false) }) rfl (fun K hK => ?_) AllReadyH.nil
  go_simp
  go_at_call 72
  refine (HM.out _ hHeld).mono ?_
  rintro r v1 ⟨rfl, h1⟩
  go_wp2_with fail
  clear hHeld
  refine hK.out _ _ h1 (fun hHeld => ?_)
  clear hK K
  try simp only [Act.put, List.setIfInBounds_toArray, List.set_cons_zero, List.set_cons_succ]
  refine wpAnyH_take (i := 15) (oi := { dst := some 18, op := Op.binOp BinOp.eql 3 (Operand.tmp 12) (Operand.tmp 17) 3, type := 4, pos := "heads.go:64", after := #[{ on := 9, ground := Ground.data }, { on := 14, ground := Ground.data }, { on := 5, ground := Ground.guard }], guard := some (5, false) }) (v := ?_) rfl (by kernel_rfl) (by kernel_rfl) (by kernel_rfl) (fun _ _ _ h => h) (Or.inl ⟨by rfl, ?_⟩) hHeld ?_
  rotate_left
  · (intro w hSw; (try dsimp only at hSw); first | (go_simp; done) | (go_simp; with_reducible rfl))
  try simp only [Act.put, List.setIfInBounds_toArray, List.set_cons_zero, List.set_cons_succ]
  refine wpAnyH_take (i := 16) (oi := { dst := some 19, op := Op.move (Operand.tmp 18), type := 4, pos := "heads.go:64", after := #[{ on := 15, ground := Ground.data }, { on := 9, ground := Ground.chain }, { on := 5, ground := Ground.guard }], guard := some (5, false) }) (v := ?_) rfl (by kernel_rfl) (by kernel_rfl) (by kernel_rfl) (fun _ _ _ h => h) (Or.inl ⟨by rfl, ?_⟩) hHeld ?_
  rotate_left
  · (intro w hSw; (try dsimp only at hSw); first | (go_simp; done) | (go_simp; with_reducible rfl))
  try simp only [Act.put, List.setIfInBounds_toArray, List.set_cons_zero, List.set_cons_succ]
  refine wpAnyH_take (i := 17) (oi := { dst := some 20, op := Op.move (Operand.tmp 0), type := 46, pos := "heads.go:64", after := #[{ on := 16, ground := Ground.guard }], guard := some (16, true) }) (v := ?_) rfl (by kernel_rfl) (by kernel_rfl) (by kernel_rfl) (fun _ _ _ h => h) (Or.inl ⟨by rfl, ?_⟩) hHeld ?_
  rotate_left
  · (intro w hSw; (try dsimp only at hSw); first | (go_simp; done) | (go_simp; with_reducible rfl))
  try simp only [Act.put, List.setIfInBounds_toArray, List.set_cons_zero, List.set_cons_succ]
  refine wpAnyH_take (i := 18) (oi := { dst := some 21, op := Op.nilCheck (Operand.tmp 20), type := 0, pos := "heads.go:64", after := #[{ on := 17, ground := Ground.data }, { on := 16, ground := Ground.guard }], guard := some (16, true) }) (v := ?_) rfl (by kernel_rfl) (by kernel_rfl) (by kernel_rfl) (fun _ _ _ h => h) (Or.inl ⟨by rfl, ?_⟩) hHeld ?_
  rotate_left
  · (intro w hSw; (try dsimp only at hSw); first | (go_simp; done) | (go_simp; with_reducible rfl))
  try simp only [Act.put, List.setIfInBounds_toArray, List.set_cons_zero, List.set_cons_succ]
  refine wpAnyH_take (i := 19) (oi := { dst := some 22, op := Op.fieldAddr 86 (Operand.tmp 21) 3, type := 0, pos := "heads.go:64", after := #[{ on := 18, ground := Ground.data }, { on := 16, ground := Ground.guard }], guard := some (16, true) }) (v := ?_) rfl (by kernel_rfl) (by kernel_rfl) (by kernel_rfl) (fun _ _ _ h => h) (Or.inl ⟨by rfl, ?_⟩) hHeld ?_
  rotate_left
  · (intro w hSw; (try dsimp only at hSw); first | (go_simp; done) | (go_simp; with_reducible rfl))
  try simp only [Act.put, List.setIfInBounds_toArray, List.set_cons_zero, List.set_cons_succ]
  refine wpAnyH_ready (rs := [20]) (by kernel_rfl) (by simp) ?_
  refine AllReadyH.cons (o := { dst := some 23, op := Op.call { callee := Callee.value (Operand.func 84), args := #[Operand.tmp 22], argTypes := #[78] }, type := 4, pos := "heads.go:64", after := #[{ on := 19, ground := Ground.data }, { on := 16, ground := Ground.chain }, { on := 16, ground := Ground.guard }], guard := some (16, true) }) rfl (fun K hK => ?_) AllReadyH.nil
  go_simp
  go_at_call 84
  refine (HO.out _ hHeld).mono ?_
  rintro r v1 ⟨rfl, h1⟩
  go_wp2_with fail
  clear hHeld
  refine hK.out _ _ h1 (fun hHeld => ?_)
  clear hK K
  try simp only [Act.put, List.setIfInBounds_toArray, List.set_cons_zero, List.set_cons_succ]
  refine wpAnyH_take (i := 21) (oi := { dst := some 24, op := Op.unOp UnOp.not 4 (Operand.tmp 23), type := 4, pos := "heads.go:64", after := #[{ on := 20, ground := Ground.data }, { on := 16, ground := Ground.guard }], guard := some (16, true) }) (v := ?_) rfl (by kernel_rfl) (by kernel_rfl) (by kernel_rfl) (fun _ _ _ h => h) (Or.inl ⟨by rfl, ?_⟩) hHeld ?_
  rotate_left
  · (intro w hSw; (try dsimp only at hSw); first | (go_simp; done) | (go_simp; with_reducible rfl))
  try simp only [Act.put, List.setIfInBounds_toArray, List.set_cons_zero, List.set_cons_succ]
  refine wpAnyH_take (i := 22) (oi := { dst := some 25, op := Op.pick (Operand.tmp 19) (Operand.tmp 24) (Operand.const (Value.bool false)), type := 4, pos := "heads.go:64", after := #[{ on := 16, ground := Ground.data }, { on := 21, ground := Ground.data }, { on := 5, ground := Ground.guard }], guard := some (5, false) }) (v := ?_) rfl (by kernel_rfl) (by kernel_rfl) (by kernel_rfl) (fun _ _ _ h => h) (Or.inl ⟨by rfl, ?_⟩) hHeld ?_
  rotate_left
  · (intro w hSw; (try dsimp only at hSw); first | (go_simp; done) | (go_simp; with_reducible rfl))
  try simp only [Act.put, List.setIfInBounds_toArray, List.set_cons_zero, List.set_cons_succ]
  refine wpAnyH_take (i := 23) (oi := { dst := some 26, op := Op.pick (Operand.tmp 8) (Operand.const (Value.bool true)) (Operand.tmp 25), type := 4, pos := "heads.go:64", after := #[{ on := 5, ground := Ground.data }, { on := 22, ground := Ground.data }], guard := none }) (v := ?_) rfl (by kernel_rfl) (by kernel_rfl) (by kernel_rfl) (fun _ _ _ h => h) (Or.inl ⟨by rfl, ?_⟩) hHeld ?_
  rotate_left
  · (intro w hSw; (try dsimp only at hSw); first | (go_simp; done) | (go_simp; with_reducible rfl))
  try simp only [Act.put, List.setIfInBounds_toArray, List.set_cons_zero, List.set_cons_succ]
  refine wpAnyH_done (by kernel_rfl) ?_ _
  have HT := Lib.hid hHeld.2.2.out
  go_wp2
  go_ret
  exact ⟨rfl, HT.out⟩
set_option maxRecDepth 100000 in
set_option maxHeartbeats 4000000 in
theorem rchunk_o {w : World} {b o e p m : Nat} {q : Bool} {l v mj : Nat} (HS : S6 w b o e p m q l v mj w.drew) (HB : Hid (∀ W, S6 w b o e p m q l v mj W → Calls Try.prog 67 #[.agg #[.int .i64 e, .int .i64 p, .int .i64 m, .bool q, .int .i64 l, .int .u64 v]] W fun r w' => r = .returned (.bool false) ∧ S6 w b o e p m q l v mj w')) {M : Nat} (HM : Hid (∀ W, S6 w b o e p m q l v mj W → Calls Try.prog 72 #[.pointer (some ⟨b, o + 3, none⟩)] W fun r w' => r = .returned (.int .i64 M) ∧ S6 w b o e p m q l v mj w')) (zm : ((M : Int) == (mj : Int)) = true) (HO : Hid (∀ W, S6 w b o e p m q l v mj W → Calls Try.prog 84 #[.pointer (some ⟨b, o + 3, none⟩)] W fun r w' => r = .returned (.bool true) ∧ S6 w b o e p m q l v mj w')) :
    Calls Try.prog 66 #[.pointer (some ⟨b, o, none⟩)] w fun r w' => r = .returned (.int .i64 2) ∧ Below w.heap.size w w' := by
  go_enter Try.func66, Try.ntmps66
  go_wp2_with fail
  refine wp_region_held_drew (S := S6 w b o e p m q l v mj) (by kernel_rfl) HS (fun hHeld => ?_)
  refine wpAnyH_take (i := 0) (oi := { dst := some 3, op := Op.move (Operand.tmp 0), type := 46, pos := "heads.go:64", after := #[], guard := none }) (v := ?_) rfl (by kernel_rfl) (by kernel_rfl) (by kernel_rfl) (fun _ _ _ h => h) (Or.inl ⟨by rfl, ?_⟩) hHeld ?_
  rotate_left
  · (intro w hSw; (try dsimp only at hSw); first | (go_simp; done) | (go_simp; with_reducible rfl))
  try simp only [Act.put, List.setIfInBounds_toArray, List.set_cons_zero, List.set_cons_succ]
  refine wpAnyH_take (i := 1) (oi := { dst := some 4, op := Op.nilCheck (Operand.tmp 3), type := 0, pos := "heads.go:64", after := #[{ on := 0, ground := Ground.data }], guard := none }) (v := ?_) rfl (by kernel_rfl) (by kernel_rfl) (by kernel_rfl) (fun _ _ _ h => h) (Or.inl ⟨by rfl, ?_⟩) hHeld ?_
  rotate_left
  · (intro w hSw; (try dsimp only at hSw); first | (go_simp; done) | (go_simp; with_reducible rfl))
  try simp only [Act.put, List.setIfInBounds_toArray, List.set_cons_zero, List.set_cons_succ]
  refine wpAnyH_take (i := 2) (oi := { dst := some 5, op := Op.fieldAddr 86 (Operand.tmp 4) 3, type := 0, pos := "heads.go:64", after := #[{ on := 1, ground := Ground.data }], guard := none }) (v := ?_) rfl (by kernel_rfl) (by kernel_rfl) (by kernel_rfl) (fun _ _ _ h => h) (Or.inl ⟨by rfl, ?_⟩) hHeld ?_
  rotate_left
  · (intro w hSw; (try dsimp only at hSw); first | (go_simp; done) | (go_simp; with_reducible rfl))
  try simp only [Act.put, List.setIfInBounds_toArray, List.set_cons_zero, List.set_cons_succ]
  refine wpAnyH_take (i := 3) (oi := { dst := some 6, op := Op.load 78 (Operand.tmp 5), type := 78, pos := "heads.go:64", after := #[{ on := 2, ground := Ground.data }], guard := none }) (v := ?_) rfl (by kernel_rfl) (by kernel_rfl) (by kernel_rfl) (fun _ _ _ h => h) (Or.inl ⟨by rfl, ?_⟩) hHeld ?_
  rotate_left
  · (intro w hSw; (try dsimp only at hSw); first | (go_simp; done) | (go_simp; with_reducible rfl))
  try simp only [Act.put, List.setIfInBounds_toArray, List.set_cons_zero, List.set_cons_succ]
  refine wpAnyH_ready (rs := [4]) (by kernel_rfl) (by simp) ?_
  refine AllReadyH.cons (o := { dst := some 7, op := Op.call { callee := Callee.value (Operand.func 67), args := #[Operand.tmp 6], argTypes := #[78] }, type := 4, pos := "heads.go:64", after := #[{ on := 3, ground := Ground.data }], guard := none }) rfl (fun K hK => ?_) AllReadyH.nil
  go_simp
  go_at_call 67
  refine (HB.out _ hHeld).mono ?_
  rintro r v1 ⟨rfl, h1⟩
  go_wp2_with fail
  clear hHeld
  refine hK.out _ _ h1 (fun hHeld => ?_)
  clear hK K
  try simp only [Act.put, List.setIfInBounds_toArray, List.set_cons_zero, List.set_cons_succ]
  refine wpAnyH_take (i := 5) (oi := { dst := some 8, op := Op.move (Operand.tmp 7), type := 4, pos := "heads.go:64", after := #[{ on := 4, ground := Ground.data }, { on := 4, ground := Ground.chain }], guard := none }) (v := ?_) rfl (by kernel_rfl) (by kernel_rfl) (by kernel_rfl) (fun _ _ _ h => h) (Or.inl ⟨by rfl, ?_⟩) hHeld ?_
  rotate_left
  · (intro w hSw; (try dsimp only at hSw); first | (go_simp; done) | (go_simp; with_reducible rfl))
  try simp only [Act.put, List.setIfInBounds_toArray, List.set_cons_zero, List.set_cons_succ]
  refine wpAnyH_take (i := 6) (oi := { dst := some 9, op := Op.move (Operand.tmp 0), type := 46, pos := "heads.go:64", after := #[{ on := 5, ground := Ground.guard }], guard := some (5, false) }) (v := ?_) rfl (by kernel_rfl) (by kernel_rfl) (by kernel_rfl) (fun _ _ _ h => h) (Or.inl ⟨by rfl, ?_⟩) hHeld ?_
  rotate_left
  · (intro w hSw; (try dsimp only at hSw); first | (go_simp; done) | (go_simp; with_reducible rfl))
  try simp only [Act.put, List.setIfInBounds_toArray, List.set_cons_zero, List.set_cons_succ]
  refine wpAnyH_take (i := 7) (oi := { dst := some 10, op := Op.nilCheck (Operand.tmp 9), type := 0, pos := "heads.go:64", after := #[{ on := 6, ground := Ground.data }, { on := 5, ground := Ground.guard }], guard := some (5, false) }) (v := ?_) rfl (by kernel_rfl) (by kernel_rfl) (by kernel_rfl) (fun _ _ _ h => h) (Or.inl ⟨by rfl, ?_⟩) hHeld ?_
  rotate_left
  · (intro w hSw; (try dsimp only at hSw); first | (go_simp; done) | (go_simp; with_reducible rfl))
  try simp only [Act.put, List.setIfInBounds_toArray, List.set_cons_zero, List.set_cons_succ]
  refine wpAnyH_take (i := 8) (oi := { dst := some 11, op := Op.fieldAddr 86 (Operand.tmp 10) 3, type := 0, pos := "heads.go:64", after := #[{ on := 7, ground := Ground.data }, { on := 5, ground := Ground.guard }], guard := some (5, false) }) (v := ?_) rfl (by kernel_rfl) (by kernel_rfl) (by kernel_rfl) (fun _ _ _ h => h) (Or.inl ⟨by rfl, ?_⟩) hHeld ?_
  rotate_left
  · (intro w hSw; (try dsimp only at hSw); first | (go_simp; done) | (go_simp; with_reducible rfl))
  try simp only [Act.put, List.setIfInBounds_toArray, List.set_cons_zero, List.set_cons_succ]
  refine wpAnyH_take (i := 10) (oi := { dst := some 13, op := Op.move (Operand.tmp 0), type := 46, pos := "heads.go:64", after := #[{ on := 5, ground := Ground.guard }], guard := some (5, false) }) (v := ?_) rfl (by kernel_rfl) (by kernel_rfl) (by kernel_rfl) (fun _ _ _ h => h) (Or.inl ⟨by rfl, ?_⟩) hHeld ?_
  rotate_left
  · (intro w hSw; (try dsimp only at hSw); first | (go_simp; done) | (go_simp; with_reducible rfl))
  try simp only [Act.put, List.setIfInBounds_toArray, List.set_cons_zero, List.set_cons_succ]
  refine wpAnyH_take (i := 11) (oi := { dst := some 14, op := Op.nilCheck (Operand.tmp 13), type := 0, pos := "heads.go:64", after := #[{ on := 10, ground := Ground.data }, { on := 5, ground := Ground.guard }], guard := some (5, false) }) (v := ?_) rfl (by kernel_rfl) (by kernel_rfl) (by kernel_rfl) (fun _ _ _ h => h) (Or.inl ⟨by rfl, ?_⟩) hHeld ?_
  rotate_left
  · (intro w hSw; (try dsimp only at hSw); first | (go_simp; done) | (go_simp; with_reducible rfl))
  try simp only [Act.put, List.setIfInBounds_toArray, List.set_cons_zero, List.set_cons_succ]
  refine wpAnyH_take (i := 12) (oi := { dst := some 15, op := Op.fieldAddr 86 (Operand.tmp 14) 4, type := 0, pos := "heads.go:64", after := #[{ on := 11, ground := Ground.data }, { on := 5, ground := Ground.guard }], guard := some (5, false) }) (v := ?_) rfl (by kernel_rfl) (by kernel_rfl) (by kernel_rfl) (fun _ _ _ h => h) (Or.inl ⟨by rfl, ?_⟩) hHeld ?_
  rotate_left
  · (intro w hSw; (try dsimp only at hSw); first | (go_simp; done) | (go_simp; with_reducible rfl))
  try simp only [Act.put, List.setIfInBounds_toArray, List.set_cons_zero, List.set_cons_succ]
  refine wpAnyH_take (i := 13) (oi := { dst := some 16, op := Op.fieldAddr 82 (Operand.tmp 15) 0, type := 0, pos := "heads.go:64", after := #[{ on := 12, ground := Ground.data }, { on := 5, ground := Ground.guard }], guard := some (5, false) }) (v := ?_) rfl (by kernel_rfl) (by kernel_rfl) (by kernel_rfl) (fun _ _ _ h => h) (Or.inl ⟨by rfl, ?_⟩) hHeld ?_
  rotate_left
  · (intro w hSw; (try dsimp only at hSw); first | (go_simp; done) | (go_simp; with_reducible rfl))
  try simp only [Act.put, List.setIfInBounds_toArray, List.set_cons_zero, List.set_cons_succ]
  refine wpAnyH_take (i := 14) (oi := { dst := some 17, op := Op.load 3 (Operand.tmp 16), type := 3, pos := "heads.go:64", after := #[{ on := 13, ground := Ground.data }, { on := 5, ground := Ground.guard }], guard := some (5, false) }) (v := ?_) rfl (by kernel_rfl) (by kernel_rfl) (by kernel_rfl) (fun _ _ _ h => h) (Or.inl ⟨by rfl, ?_⟩) hHeld ?_
  rotate_left
  · (intro w hSw; (try dsimp only at hSw); first | (go_simp; done) | (go_simp; with_reducible rfl))
  try simp only [Act.put, List.setIfInBounds_toArray, List.set_cons_zero, List.set_cons_succ]
  refine wpAnyH_ready (rs := [9]) (by kernel_rfl) (by simp) ?_
  refine AllReadyH.cons (o := { dst := some 12, op := Op.call { callee := Callee.value (Operand.func 72), args := #[Operand.tmp 11], argTypes := #[78] }, type := 3, pos := "heads.go:64", after := #[{ on := 8, ground := Ground.data }, { on := 5, ground := Ground.chain }, { on := 5, ground := Ground.guard }], guard := some (5, false) }) rfl (fun K hK => ?_) AllReadyH.nil
  go_simp
  go_at_call 72
  refine (HM.out _ hHeld).mono ?_
  rintro r v1 ⟨rfl, h1⟩
  go_wp2_with fail
  clear hHeld
  refine hK.out _ _ h1 (fun hHeld => ?_)
  clear hK K
  try simp only [Act.put, List.setIfInBounds_toArray, List.set_cons_zero, List.set_cons_succ]
  refine wpAnyH_take (i := 15) (oi := { dst := some 18, op := Op.binOp BinOp.eql 3 (Operand.tmp 12) (Operand.tmp 17) 3, type := 4, pos := "heads.go:64", after := #[{ on := 9, ground := Ground.data }, { on := 14, ground := Ground.data }, { on := 5, ground := Ground.guard }], guard := some (5, false) }) (v := ?_) rfl (by kernel_rfl) (by kernel_rfl) (by kernel_rfl) (fun _ _ _ h => h) (Or.inl ⟨by rfl, ?_⟩) hHeld ?_
  rotate_left
  · (intro w hSw; (try dsimp only at hSw); first | (go_simp; done) | (go_simp; with_reducible rfl))
  try simp only [Act.put, List.setIfInBounds_toArray, List.set_cons_zero, List.set_cons_succ]
  refine wpAnyH_take (i := 16) (oi := { dst := some 19, op := Op.move (Operand.tmp 18), type := 4, pos := "heads.go:64", after := #[{ on := 15, ground := Ground.data }, { on := 9, ground := Ground.chain }, { on := 5, ground := Ground.guard }], guard := some (5, false) }) (v := ?_) rfl (by kernel_rfl) (by kernel_rfl) (by kernel_rfl) (fun _ _ _ h => h) (Or.inl ⟨by rfl, ?_⟩) hHeld ?_
  rotate_left
  · (intro w hSw; (try dsimp only at hSw); first | (go_simp; done) | (go_simp; with_reducible rfl))
  try simp only [Act.put, List.setIfInBounds_toArray, List.set_cons_zero, List.set_cons_succ]
  refine wpAnyH_take (i := 17) (oi := { dst := some 20, op := Op.move (Operand.tmp 0), type := 46, pos := "heads.go:64", after := #[{ on := 16, ground := Ground.guard }], guard := some (16, true) }) (v := ?_) rfl (by kernel_rfl) (by kernel_rfl) (by kernel_rfl) (fun _ _ _ h => h) (Or.inl ⟨by rfl, ?_⟩) hHeld ?_
  rotate_left
  · (intro w hSw; (try dsimp only at hSw); first | (go_simp; done) | (go_simp; with_reducible rfl))
  try simp only [Act.put, List.setIfInBounds_toArray, List.set_cons_zero, List.set_cons_succ]
  refine wpAnyH_take (i := 18) (oi := { dst := some 21, op := Op.nilCheck (Operand.tmp 20), type := 0, pos := "heads.go:64", after := #[{ on := 17, ground := Ground.data }, { on := 16, ground := Ground.guard }], guard := some (16, true) }) (v := ?_) rfl (by kernel_rfl) (by kernel_rfl) (by kernel_rfl) (fun _ _ _ h => h) (Or.inl ⟨by rfl, ?_⟩) hHeld ?_
  rotate_left
  · (intro w hSw; (try dsimp only at hSw); first | (go_simp; done) | (go_simp; with_reducible rfl))
  try simp only [Act.put, List.setIfInBounds_toArray, List.set_cons_zero, List.set_cons_succ]
  refine wpAnyH_take (i := 19) (oi := { dst := some 22, op := Op.fieldAddr 86 (Operand.tmp 21) 3, type := 0, pos := "heads.go:64", after := #[{ on := 18, ground := Ground.data }, { on := 16, ground := Ground.guard }], guard := some (16, true) }) (v := ?_) rfl (by kernel_rfl) (by kernel_rfl) (by kernel_rfl) (fun _ _ _ h => h) (Or.inl ⟨by rfl, ?_⟩) hHeld ?_
  rotate_left
  · (intro w hSw; (try dsimp only at hSw); first | (go_simp; done) | (go_simp; with_reducible rfl))
  try simp only [Act.put, List.setIfInBounds_toArray, List.set_cons_zero, List.set_cons_succ]
  refine wpAnyH_ready (rs := [20]) (by kernel_rfl) (by simp) ?_
  refine AllReadyH.cons (o := { dst := some 23, op := Op.call { callee := Callee.value (Operand.func 84), args := #[Operand.tmp 22], argTypes := #[78] }, type := 4, pos := "heads.go:64", after := #[{ on := 19, ground := Ground.data }, { on := 16, ground := Ground.chain }, { on := 16, ground := Ground.guard }], guard := some (16, true) }) rfl (fun K hK => ?_) AllReadyH.nil
  go_simp
  go_at_call 84
  refine (HO.out _ hHeld).mono ?_
  rintro r v1 ⟨rfl, h1⟩
  go_wp2_with fail
  clear hHeld
  refine hK.out _ _ h1 (fun hHeld => ?_)
  clear hK K
  try simp only [Act.put, List.setIfInBounds_toArray, List.set_cons_zero, List.set_cons_succ]
  refine wpAnyH_take (i := 21) (oi := { dst := some 24, op := Op.unOp UnOp.not 4 (Operand.tmp 23), type := 4, pos := "heads.go:64", after := #[{ on := 20, ground := Ground.data }, { on := 16, ground := Ground.guard }], guard := some (16, true) }) (v := ?_) rfl (by kernel_rfl) (by kernel_rfl) (by kernel_rfl) (fun _ _ _ h => h) (Or.inl ⟨by rfl, ?_⟩) hHeld ?_
  rotate_left
  · (intro w hSw; (try dsimp only at hSw); first | (go_simp; done) | (go_simp; with_reducible rfl))
  try simp only [Act.put, List.setIfInBounds_toArray, List.set_cons_zero, List.set_cons_succ]
  refine wpAnyH_take (i := 22) (oi := { dst := some 25, op := Op.pick (Operand.tmp 19) (Operand.tmp 24) (Operand.const (Value.bool false)), type := 4, pos := "heads.go:64", after := #[{ on := 16, ground := Ground.data }, { on := 21, ground := Ground.data }, { on := 5, ground := Ground.guard }], guard := some (5, false) }) (v := ?_) rfl (by kernel_rfl) (by kernel_rfl) (by kernel_rfl) (fun _ _ _ h => h) (Or.inl ⟨by rfl, ?_⟩) hHeld ?_
  rotate_left
  · (intro w hSw; (try dsimp only at hSw); first | (go_simp; done) | (go_simp; with_reducible rfl))
  try simp only [Act.put, List.setIfInBounds_toArray, List.set_cons_zero, List.set_cons_succ]
  refine wpAnyH_take (i := 23) (oi := { dst := some 26, op := Op.pick (Operand.tmp 8) (Operand.const (Value.bool true)) (Operand.tmp 25), type := 4, pos := "heads.go:64", after := #[{ on := 5, ground := Ground.data }, { on := 22, ground := Ground.data }], guard := none }) (v := ?_) rfl (by kernel_rfl) (by kernel_rfl) (by kernel_rfl) (fun _ _ _ h => h) (Or.inl ⟨by rfl, ?_⟩) hHeld ?_
  rotate_left
  · (intro w hSw; (try dsimp only at hSw); first | (go_simp; done) | (go_simp; with_reducible rfl))
  try simp only [Act.put, List.setIfInBounds_toArray, List.set_cons_zero, List.set_cons_succ]
  refine wpAnyH_done (by kernel_rfl) ?_ _
  have HT := Lib.hid hHeld.2.2.out
  go_wp2
  go_ret
  exact ⟨rfl, HT.out⟩
end Go.Proofs.Ytgknpheefbfnlaa
/-
  CONTRACTS of package cborin, part H: refusesChunk, refuses.
-/
namespace Go.Proofs.Ytgknpheefbfnlaa
open Go.RowKit
open Go.Lib
set_option maxRecDepth 100000 in
set_option maxHeartbeats 4000000 in
theorem rchunk_any {w : World} {b o D pl : Nat} {h : Hd} {mj : Nat} {ch : Bool} {lk : Nat} {vt : Value} {t : List UInt8} {u : Option (Nat × Nat × Nat)} {vs : Value} {n : Nat} {xs : List Value} (c : CP w b o D pl h mj ch lk vt t u vs n xs) :
    Calls Try.prog 66 #[.pointer (some ⟨b, o, none⟩)] w fun r w' => r = .returned (.int .i64 (chE mj h : Nat)) ∧ Below w.heap.size w w' := by
  obtain ⟨e, p, m, q, l, v, hc⟩ := hd_six h
  have HB : Hid (∀ W, S6 w b o e p m q l v mj W → Calls Try.prog 67 #[.agg #[.int .i64 e, .int .i64 p, .int .i64 m, .bool q, .int .i64 l, .int .u64 v]] W fun r w' => r = .returned (.bool (brkH h)) ∧ S6 w b o e p m q l v mj w') :=
    Lib.hid (fun W hS => (brk_any c.hd.1 hc W).mono (fun r w' hr => ⟨hr.1, c.s6 hc (up_trans hS.2.2.out hr.2)⟩))
  have HM : Hid (∀ W, S6 w b o e p m q l v mj W → Calls Try.prog 72 #[.pointer (some ⟨b, o + 3, none⟩)] W fun r w' => r = .returned (.int .i64 (majH h)) ∧ S6 w b o e p m q l v mj w') :=
    Lib.hid (fun W hS => (major_at (c.go hS.2.2.out).hd).mono (fun r w' hr => ⟨hr.1, hr.2 ▸ hS⟩))
  have HO : Hid (∀ W, S6 w b o e p m q l v mj W → Calls Try.prog 84 #[.pointer (some ⟨b, o + 3, none⟩)] W fun r w' => r = .returned (.bool (opnH h)) ∧ S6 w b o e p m q l v mj w') :=
    Lib.hid (fun W hS => (open_at (c.go hS.2.2.out).hd).mono (fun r w' hr => ⟨hr.1, hr.2 ▸ hS⟩))
  have zm : ((majH h : Int) == (mj : Int)) = decide (majH h = mj) := by rw [Bool.eq_iff_iff, beq_iff_eq, decide_eq_true_eq]; omega
  have hE : chE mj h = if (brkH h || (decide (majH h = mj) && !opnH h)) = true then 0 else 2 := by
    unfold chE
    simp only [Bool.or_eq_true, Bool.and_eq_true, decide_eq_true_eq, Bool.not_eq_true']
  rw [hE]
  have HS : S6 w b o e p m q l v mj w.drew := c.s6 hc (below_drw (Below.refl _ _))
  clear c hc hE
  generalize brkH h = B at *
  generalize decide (majH h = mj) = bm at *
  generalize opnH h = O at *
  generalize majH h = M at *
  cases B with
  | true => exact rchunk_t HS HB
  | false =>
    cases bm with
    | false => exact rchunk_no HS HB HM zm
    | true =>
      cases O with
      | false => exact rchunk_f HS HB HM zm HO
      | true => exact rchunk_o HS HB HM zm HO
def refE (D pl mj : Nat) (s : List Bx) (h : Hd) (l : Nat) : Nat := if pl = 1 then chE mj h else if brkH h = true then (if mayB s = true then 0 else 2) else itemE D s h l
set_option maxRecDepth 100000 in
set_option maxHeartbeats 4000000 in
/-- REFUSES. -/
theorem refuses_any {w : World} {b o D pl : Nat} {h : Hd} {mj : Nat} {ch : Bool} {lk : Nat} {vt : Value} {t : List UInt8} {u : Option (Nat × Nat × Nat)} {vs : Value} {s : List Bx} (c : CP w b o D pl h mj ch lk vt t u vs s.length (inL s)) (hd : s.length ≤ 16) (x : Nat) :
    Calls Try.prog 57 #[.pointer (some ⟨b, o, none⟩), .int .u8 (x : Int)] w fun r w' => r = .returned (.int .i64 (refE D pl mj s h x : Nat)) ∧ Below w.heap.size w w' := by
  obtain ⟨e, p, m, q, l, v, hc⟩ := hd_six h
  have hA := c.hd.2
  rw [hc] at hA
  obtain ⟨⟨k0, _⟩, ⟨k1, _⟩, ⟨k2, _⟩, ⟨k3, _⟩, ⟨k4, _⟩, ⟨k5, _⟩⟩ := hA.six
  have c2 := c.cells.1.2.2.1
  have HB := Lib.hid (fun W => brk_any c.hd.1 hc W)
  have HR := Lib.hid (rchunk_any c)
  have HK := Lib.hid (fun w1 (k : Below w.heap.size w w1) => rbreak_any (c.go k) hd)
  have HI := Lib.hid (fun w1 (k : Below w.heap.size w w1) => ritem_any (c.go k) hd x)
  unfold refE
  clear c hc hA hd
  by_cases hp : pl = 1
  · subst hp
    rw [if_pos rfl]
    go_enter Try.func57, Try.ntmps57
    go_wp2_with fail
    refine HR.out.mono ?_
    rintro r w1 ⟨rfl, b1⟩
    have B1 := Lib.hid b1
    clear b1
    go_wp2
    go_ret
    exact ⟨rfl, B1.out⟩
  · rw [if_neg hp]
    have zp : ((pl : Int) == 1) = false := by rw [beq_eq_false_iff_ne]; omega
    clear hp
    generalize brkH h = B at *
    cases B with
    | true =>
      rw [if_pos rfl]
      generalize (if mayB s = true then 0 else 2 : Nat) = R at *
      go_enter Try.func57, Try.ntmps57
      go_wp2_with fail
      refine (HB.out _).mono ?_
      rintro r w1 ⟨rfl, b1⟩
      have B1 := Lib.hid b1
      clear b1
      go_wp2_with fail
      refine (HK.out _ B1.out).mono ?_
      rintro r w2 ⟨rfl, b2⟩
      have B2 := Lib.hid b2
      clear b2
      go_wp2
      go_ret
      exact ⟨rfl, up_trans B1.out B2.out⟩
    | false =>
      rw [if_neg (by decide)]
      generalize itemE D s h x = R at *
      go_enter Try.func57, Try.ntmps57
      go_wp2_with fail
      refine (HB.out _).mono ?_
      rintro r w1 ⟨rfl, b1⟩
      have B1 := Lib.hid b1
      clear b1
      go_wp2_with fail
      refine (HI.out _ B1.out).mono ?_
      rintro r w2 ⟨rfl, b2⟩
      have B2 := Lib.hid b2
      clear b2
      go_wp2
      go_ret
      exact ⟨rfl, up_trans B1.out B2.out⟩
end Go.Proofs.Ytgknpheefbfnlaa
