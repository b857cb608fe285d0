/-
  LAWS of chapter 9: EventSame.
-/
import Derived.Test.YtnhabheofdifhaaEvN
namespace Go.Proofs.Ytnhabheofdifhaa
open Go.RowKit
open Go.Lib
theorem tidy_k (a : Ev) : (tidyE a).k = a.k := by
  unfold tidyE
  by_cases h1 : a.k = 1
  · rw [if_pos h1, h1]
  rw [if_neg h1]
  by_cases h2 : a.k = 2
  · rw [if_pos h2, h2]
  rw [if_neg h2]
  by_cases h3 : a.k = 3 ∨ a.k = 4
  · rw [if_pos h3]
  rw [if_neg h3]
  by_cases h5 : a.k = 5 ∨ a.k = 6
  · rw [if_pos h5]
  rw [if_neg h5]
theorem same_no_a (ak : Int) (ay : Bool) (am : Nat) (at' : ByteArray) (ac bk : Int) (bY : Bool) (bm : Nat) (bt : ByteArray) (bc : Int) (va vb : Value) (Db : Bool)
    (hOa : ∀ w, Calls Try.prog 10 #[evV ⟨ak, ay, am, at', ac⟩] w fun r w' => r = .returned (.tuple #[va, .bool false]) ∧ Below w.heap.size w w')
    (hOb : ∀ w, Calls Try.prog 10 #[evV ⟨bk, bY, bm, bt, bc⟩] w fun r w' => r = .returned (.tuple #[vb, .bool Db]) ∧ Below w.heap.size w w') (w : World) :
    Calls Try.prog 7 #[evV ⟨ak, ay, am, at', ac⟩, evV ⟨bk, bY, bm, bt, bc⟩] w fun e w' => e = .returned (.bool true) ∧ Below w.heap.size w w' := by
  simp only [evV] at hOa hOb ⊢
  have OA := Lib.hid hOa
  have OB := Lib.hid hOb
  clear hOa hOb
  go_enter Try.func7, Try.ntmps7
  obtain ⟨e0, e1, e2, e3, e4⟩ := (t2_new w ⟨ak, ay, am, at', ac⟩ ⟨bk, bY, bm, bt, bc⟩).fa
  simp only [evA] at e0 e1 e2 e3 e4
  go_wp2_with fail
  refine (OA.out _).mono ?_
  rintro e w2 ⟨rfl, b2⟩
  have T2_ := Lib.hid ((t2_new w ⟨ak, ay, am, at', ac⟩ ⟨bk, bY, bm, bt, bc⟩).go b2)
  clear b2 e0 e1 e2 e3 e4
  obtain ⟨e0, e1, e2, e3, e4⟩ := T2_.out.fb
  simp only at e0 e1 e2 e3 e4
  go_wp2_with fail
  refine (OB.out _).mono ?_
  rintro e w3 ⟨rfl, b3⟩
  have T3 := Lib.hid (T2_.out.go b3)
  clear b3 e0 e1 e2 e3 e4
  obtain ⟨e0, e1, e2, e3, e4⟩ := T3.out.fa
  obtain ⟨f0, f1, f2, f3, f4⟩ := T3.out.fb
  simp only at e0 e1 e2 e3 e4 f0 f1 f2 f3 f4
  go_wp2_with fail
  refine (ev_alive _).mono ?_
  rintro e w4 ⟨rfl, b4⟩
  have T4_ := Lib.hid (T3.out.go b4)
  clear b4
  go_wp2
  go_ret
  exact ⟨rfl, T4_.out.bl⟩
theorem same_no_b (ak : Int) (ay : Bool) (am : Nat) (at' : ByteArray) (ac bk : Int) (bY : Bool) (bm : Nat) (bt : ByteArray) (bc : Int) (va vb : Value)
    (hOa : ∀ w, Calls Try.prog 10 #[evV ⟨ak, ay, am, at', ac⟩] w fun r w' => r = .returned (.tuple #[va, .bool true]) ∧ Below w.heap.size w w')
    (hOb : ∀ w, Calls Try.prog 10 #[evV ⟨bk, bY, bm, bt, bc⟩] w fun r w' => r = .returned (.tuple #[vb, .bool false]) ∧ Below w.heap.size w w') (w : World) :
    Calls Try.prog 7 #[evV ⟨ak, ay, am, at', ac⟩, evV ⟨bk, bY, bm, bt, bc⟩] w fun e w' => e = .returned (.bool true) ∧ Below w.heap.size w w' := by
  simp only [evV] at hOa hOb ⊢
  have OA := Lib.hid hOa
  have OB := Lib.hid hOb
  clear hOa hOb
  go_enter Try.func7, Try.ntmps7
  obtain ⟨e0, e1, e2, e3, e4⟩ := (t2_new w ⟨ak, ay, am, at', ac⟩ ⟨bk, bY, bm, bt, bc⟩).fa
  simp only [evA] at e0 e1 e2 e3 e4
  go_wp2_with fail
  refine (OA.out _).mono ?_
  rintro e w2 ⟨rfl, b2⟩
  have T2_ := Lib.hid ((t2_new w ⟨ak, ay, am, at', ac⟩ ⟨bk, bY, bm, bt, bc⟩).go b2)
  clear b2 e0 e1 e2 e3 e4
  obtain ⟨e0, e1, e2, e3, e4⟩ := T2_.out.fb
  simp only at e0 e1 e2 e3 e4
  go_wp2_with fail
  refine (OB.out _).mono ?_
  rintro e w3 ⟨rfl, b3⟩
  have T3 := Lib.hid (T2_.out.go b3)
  clear b3 e0 e1 e2 e3 e4
  obtain ⟨e0, e1, e2, e3, e4⟩ := T3.out.fa
  obtain ⟨f0, f1, f2, f3, f4⟩ := T3.out.fb
  simp only at e0 e1 e2 e3 e4 f0 f1 f2 f3 f4
  go_wp2_with fail
  refine (ev_alive _).mono ?_
  rintro e w4 ⟨rfl, b4⟩
  have T4_ := Lib.hid (T3.out.go b4)
  clear b4
  go_wp2
  go_ret
  exact ⟨rfl, T4_.out.bl⟩
theorem same_long_a (ak : Int) (ay : Bool) (am : Nat) (at' : ByteArray) (ac bk : Int) (bY : Bool) (bm : Nat) (bt : ByteArray) (bc : Int) (va vb : Value)
    (hOa : ∀ w, Calls Try.prog 10 #[evV ⟨ak, ay, am, at', ac⟩] w fun r w' => r = .returned (.tuple #[va, .bool true]) ∧ Below w.heap.size w w')
    (hOb : ∀ w, Calls Try.prog 10 #[evV ⟨bk, bY, bm, bt, bc⟩] w fun r w' => r = .returned (.tuple #[vb, .bool true]) ∧ Below w.heap.size w w') (h1 : ¬ at'.size ≤ 300) (w : World) :
    Calls Try.prog 7 #[evV ⟨ak, ay, am, at', ac⟩, evV ⟨bk, bY, bm, bt, bc⟩] w fun e w' => e = .returned (.bool true) ∧ Below w.heap.size w w' := by
  simp only [evV] at hOa hOb ⊢
  have OA := Lib.hid hOa
  have OB := Lib.hid hOb
  clear hOa hOb
  have hy : ((300 : Int) < (at'.size : Int)) = True := by simp; omega
  clear h1
  go_enter Try.func7, Try.ntmps7
  obtain ⟨e0, e1, e2, e3, e4⟩ := (t2_new w ⟨ak, ay, am, at', ac⟩ ⟨bk, bY, bm, bt, bc⟩).fa
  simp only [evA] at e0 e1 e2 e3 e4
  go_wp2_with fail
  refine (OA.out _).mono ?_
  rintro e w2 ⟨rfl, b2⟩
  have T2_ := Lib.hid ((t2_new w ⟨ak, ay, am, at', ac⟩ ⟨bk, bY, bm, bt, bc⟩).go b2)
  clear b2 e0 e1 e2 e3 e4
  obtain ⟨e0, e1, e2, e3, e4⟩ := T2_.out.fb
  simp only at e0 e1 e2 e3 e4
  go_wp2_with fail
  refine (OB.out _).mono ?_
  rintro e w3 ⟨rfl, b3⟩
  have T3 := Lib.hid (T2_.out.go b3)
  clear b3 e0 e1 e2 e3 e4
  obtain ⟨e0, e1, e2, e3, e4⟩ := T3.out.fa
  obtain ⟨f0, f1, f2, f3, f4⟩ := T3.out.fb
  simp only at e0 e1 e2 e3 e4 f0 f1 f2 f3 f4
  go_wp2_with fail
  refine (ev_alive _).mono ?_
  rintro e w4 ⟨rfl, b4⟩
  have T4_ := Lib.hid (T3.out.go b4)
  clear b4
  go_wp2
  go_ret
  exact ⟨rfl, T4_.out.bl⟩
theorem same_long_b (ak : Int) (ay : Bool) (am : Nat) (at' : ByteArray) (ac bk : Int) (bY : Bool) (bm : Nat) (bt : ByteArray) (bc : Int) (va vb : Value)
    (hOa : ∀ w, Calls Try.prog 10 #[evV ⟨ak, ay, am, at', ac⟩] w fun r w' => r = .returned (.tuple #[va, .bool true]) ∧ Below w.heap.size w w')
    (hOb : ∀ w, Calls Try.prog 10 #[evV ⟨bk, bY, bm, bt, bc⟩] w fun r w' => r = .returned (.tuple #[vb, .bool true]) ∧ Below w.heap.size w w') (h1 : at'.size ≤ 300) (h2 : ¬ bt.size ≤ 300) (w : World) :
    Calls Try.prog 7 #[evV ⟨ak, ay, am, at', ac⟩, evV ⟨bk, bY, bm, bt, bc⟩] w fun e w' => e = .returned (.bool true) ∧ Below w.heap.size w w' := by
  simp only [evV] at hOa hOb ⊢
  have OA := Lib.hid hOa
  have OB := Lib.hid hOb
  clear hOa hOb
  have hy : ((300 : Int) < (at'.size : Int)) = False := by simp; omega
  have hz : ((300 : Int) < (bt.size : Int)) = True := by simp; omega
  clear h1 h2
  go_enter Try.func7, Try.ntmps7
  obtain ⟨e0, e1, e2, e3, e4⟩ := (t2_new w ⟨ak, ay, am, at', ac⟩ ⟨bk, bY, bm, bt, bc⟩).fa
  simp only [evA] at e0 e1 e2 e3 e4
  go_wp2_with fail
  refine (OA.out _).mono ?_
  rintro e w2 ⟨rfl, b2⟩
  have T2_ := Lib.hid ((t2_new w ⟨ak, ay, am, at', ac⟩ ⟨bk, bY, bm, bt, bc⟩).go b2)
  clear b2 e0 e1 e2 e3 e4
  obtain ⟨e0, e1, e2, e3, e4⟩ := T2_.out.fb
  simp only at e0 e1 e2 e3 e4
  go_wp2_with fail
  refine (OB.out _).mono ?_
  rintro e w3 ⟨rfl, b3⟩
  have T3 := Lib.hid (T2_.out.go b3)
  clear b3 e0 e1 e2 e3 e4
  obtain ⟨e0, e1, e2, e3, e4⟩ := T3.out.fa
  obtain ⟨f0, f1, f2, f3, f4⟩ := T3.out.fb
  simp only at e0 e1 e2 e3 e4 f0 f1 f2 f3 f4
  go_wp2_with fail
  refine (ev_alive _).mono ?_
  rintro e w4 ⟨rfl, b4⟩
  have T4_ := Lib.hid (T3.out.go b4)
  clear b4
  go_wp2
  go_ret
  exact ⟨rfl, T4_.out.bl⟩
set_option maxHeartbeats 2000000 in
theorem same_core (ak : Int) (ay : Bool) (am : Nat) (at' : ByteArray) (ac bk : Int) (bY : Bool) (bm : Nat) (bt : ByteArray) (bc : Int) (va vb : Value) (SB : Bool)
    (hOa : ∀ w, Calls Try.prog 10 #[evV ⟨ak, ay, am, at', ac⟩] w fun r w' => r = .returned (.tuple #[va, .bool true]) ∧ Below w.heap.size w w')
    (hOb : ∀ w, Calls Try.prog 10 #[evV ⟨bk, bY, bm, bt, bc⟩] w fun r w' => r = .returned (.tuple #[vb, .bool true]) ∧ Below w.heap.size w w') (h1 : at'.size ≤ 300) (h2 : bt.size ≤ 300)
    (hS : ∀ w, Calls Try.prog 14 #[va, vb] w fun r w' => r = .returned (.bool SB) ∧ Below w.heap.size w w')
    (hT : ∀ w, Calls Try.prog 14 #[vb, va] w fun r w' => r = .returned (.bool SB) ∧ Below w.heap.size w w')
    (hV : ∀ w, Calls Try.prog 14 #[va, va] w fun r w' => r = .returned (.bool true) ∧ Below w.heap.size w w')
    (h5 : ∀ w, Calls Try.prog 14 #[va, .iface 3 (.int .i64 5)] w fun r w' => r = .returned (.bool false) ∧ Below w.heap.size w w')
    (hX : ∀ w, Calls Try.prog 14 #[.iface 9 (.string ⟨#[120]⟩), .iface 9 (.string ⟨#[120]⟩)] w fun r w' => r = .returned (.bool false) ∧ Below w.heap.size w w')
    (hk : SB = true → ak = bk) (w : World) :
    Calls Try.prog 7 #[evV ⟨ak, ay, am, at', ac⟩, evV ⟨bk, bY, bm, bt, bc⟩] w fun e w' => e = .returned (.bool true) ∧ Below w.heap.size w w' := by
  simp only [evV] at hOa hOb ⊢
  have OA := Lib.hid hOa
  have OB := Lib.hid hOb
  clear hOa hOb
  have hy : ((300 : Int) < (at'.size : Int)) = False := by simp; omega
  have hz : ((300 : Int) < (bt.size : Int)) = False := by simp; omega
  have hSB : (SB == SB) = true := by cases SB <;> rfl
  have KK := Lib.hid hk
  have CS := Lib.hid hS
  have CT := Lib.hid hT
  have CV := Lib.hid hV
  have C5 := Lib.hid h5
  have CX := Lib.hid hX
  clear h1 h2 hk hS hT hV h5 hX
  go_enter Try.func7, Try.ntmps7
  obtain ⟨e0, e1, e2, e3, e4⟩ := (t2_new w ⟨ak, ay, am, at', ac⟩ ⟨bk, bY, bm, bt, bc⟩).fa
  simp only [evA] at e0 e1 e2 e3 e4
  go_wp2_with fail
  refine (OA.out _).mono ?_
  rintro e w2 ⟨rfl, b2⟩
  have T2_ := Lib.hid ((t2_new w ⟨ak, ay, am, at', ac⟩ ⟨bk, bY, bm, bt, bc⟩).go b2)
  clear b2 e0 e1 e2 e3 e4
  obtain ⟨e0, e1, e2, e3, e4⟩ := T2_.out.fb
  simp only at e0 e1 e2 e3 e4
  go_wp2_with fail
  refine (OB.out _).mono ?_
  rintro e w3 ⟨rfl, b3⟩
  have T3 := Lib.hid (T2_.out.go b3)
  clear b3 e0 e1 e2 e3 e4
  obtain ⟨e0, e1, e2, e3, e4⟩ := T3.out.fa
  obtain ⟨f0, f1, f2, f3, f4⟩ := T3.out.fb
  simp only at e0 e1 e2 e3 e4 f0 f1 f2 f3 f4
  go_wp2_with fail
  refine (ev_alive _).mono ?_
  rintro e w4 ⟨rfl, b4⟩
  have T4_ := Lib.hid (T3.out.go b4)
  clear b4
  go_wp2_with fail
  refine (CS.out _).mono ?_
  rintro e w5 ⟨rfl, b⟩
  have U5 := Lib.hid (T4_.out.go b)
  clear b
  go_wp2_with fail
  refine (CT.out _).mono ?_
  rintro e w6 ⟨rfl, b⟩
  have U6 := Lib.hid (U5.out.go b)
  clear b
  go_wp2_with fail
  refine (CV.out _).mono ?_
  rintro e w7 ⟨rfl, b⟩
  have U7 := Lib.hid (U6.out.go b)
  clear b
  cases SB with
  | false =>
    go_wp2_with fail
    refine (CS.out _).mono ?_
    rintro e w8 ⟨rfl, b⟩
    have U8 := Lib.hid (U7.out.go b)
    clear b
    go_wp2_with fail
    refine (C5.out _).mono ?_
    rintro e w9 ⟨rfl, b⟩
    have U9 := Lib.hid (U8.out.go b)
    clear b
    go_wp2_with fail
    refine (CX.out _).mono ?_
    rintro e w10 ⟨rfl, b⟩
    have U10 := Lib.hid (U9.out.go b)
    clear b
    go_wp2
    go_ret
    exact ⟨rfl, U10.out.bl⟩
  | true =>
    obtain rfl := KK.out rfl
    clear e0 e1 e2 e3 e4 f0 f1 f2 f3 f4
    go_wp2_with fail
    refine (CS.out _).mono ?_
    rintro e w8 ⟨rfl, b⟩
    have U8 := Lib.hid (U7.out.go b)
    clear b
    obtain ⟨e0, e1, e2, e3, e4⟩ := U8.out.fa
    obtain ⟨f0, f1, f2, f3, f4⟩ := U8.out.fb
    simp only at e0 e1 e2 e3 e4 f0 f1 f2 f3 f4
    go_wp2_with fail
    refine (C5.out _).mono ?_
    rintro e w9 ⟨rfl, b⟩
    have U9 := Lib.hid (U8.out.go b)
    clear b
    go_wp2_with fail
    refine (CX.out _).mono ?_
    rintro e w10 ⟨rfl, b⟩
    have U10 := Lib.hid (U9.out.go b)
    clear b
    go_wp2
    go_ret
    exact ⟨rfl, U10.out.bl⟩
theorem same_law (a b : Ev) (w : World) : Calls Try.prog 7 #[evV a, evV b] w fun e w' => e = .returned (.bool true) ∧ Below w.heap.size w w' := by
  have hOa := fun w => of_any a w
  have hOb := fun w => of_any b w
  by_cases hma : mayE a
  · by_cases hmb : mayE b
    · simp only [if_pos hma, decide_eq_true hma] at hOa
      simp only [if_pos hmb, decide_eq_true hmb] at hOb
      by_cases h1 : a.t.size ≤ 300
      · by_cases h2 : b.t.size ≤ 300
        · have hT := fun w => same_any b a hmb hma w
          rw [sameE_comm] at hT
          have hV := fun w => same_any a a hma hma w
          rw [sameE_refl] at hV
          refine same_core a.k a.y a.m a.t a.c b.k b.y b.m b.t b.c (valE a) (valE b) (sameE (tidyE a) (tidyE b)) hOa hOb h1 h2 (fun w => same_any a b hma hmb w) hT hV (fun w => ?_) (fun w => ?_) (fun h => ?_) w
          · exact same_by _ _ (tidyE a) evZ true false (plain_any a hma) (plain_other _ (by decide) (by decide) (by decide) (by decide) (by decide) (by decide) _) w
          · exact same_by _ _ evZ evZ false false (plain_other _ (by decide) (by decide) (by decide) (by decide) (by decide) (by decide) _) (plain_other _ (by decide) (by decide) (by decide) (by decide) (by decide) (by decide) _) w
          · have := (sameE_iff _ _).1 h
            rw [← tidy_k a, ← tidy_k b, this]
        · exact same_long_b a.k a.y a.m a.t a.c b.k b.y b.m b.t b.c _ _ hOa hOb h1 h2 w
      · exact same_long_a a.k a.y a.m a.t a.c b.k b.y b.m b.t b.c _ _ hOa hOb h1 w
    · simp only [if_pos hma, decide_eq_true hma] at hOa
      simp only [if_neg hmb, decide_eq_false hmb] at hOb
      exact same_no_b a.k a.y a.m a.t a.c b.k b.y b.m b.t b.c _ _ hOa hOb w
  · simp only [if_neg hma, decide_eq_false hma] at hOa
    exact same_no_a a.k a.y a.m a.t a.c b.k b.y b.m b.t b.c _ _ _ hOa hOb w
end Go.Proofs.Ytnhabheofdifhaa
