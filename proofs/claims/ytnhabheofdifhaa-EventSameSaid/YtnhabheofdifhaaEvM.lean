/-
  LAWS of chapter 9: EventTells.
-/
import Derived.Test.YtnhabheofdifhaaEvL
import Derived.Deep.RegionHeld3
namespace Go.Proofs.Ytnhabheofdifhaa
open Go.RowKit
open Go.Lib
def evA (e : Ev) : Array Value := #[.int .i64 e.k, .bool e.y, .int .u64 (e.m : Int), .string e.t, .int .i64 e.c]
/-- Two parts in blocks of their own. -/
structure T2 (W : World) (p q : Nat) (a b : Ev) (w : World) : Prop where
  op : Blk w p (evA a) 24
  oq : Blk w q (evA b) 24
  bl : Below W.heap.size W w
theorem T2.go {W w w' : World} {p q : Nat} {a b : Ev} (h : T2 W p q a b w) (k : Below w.heap.size w w') : T2 W p q a b w' := ⟨h.op.go k, h.oq.go k, up_trans h.bl k⟩
theorem t2_new (W : World) (a b : Ev) : T2 W W.heap.size (W.heap.size + 1) a b ((W.alloc (.cells (evA a) 24)).alloc (.cells (evA b) 24)) :=
  ⟨(blk_new W _ _).alloc _, by have := blk_new (W.alloc (.cells (evA a) 24)) (evA b) 24; rwa [World.size_alloc] at this, up_alloc (up_alloc (Below.refl _ _) _) _⟩
theorem T2.fa {W w : World} {p q : Nat} {a b : Ev} (h : T2 W p q a b w) : w.cell? ⟨p, 0, none⟩ = some (.int .i64 a.k) ∧ w.cell? ⟨p, 1, none⟩ = some (.bool a.y) ∧ w.cell? ⟨p, 2, none⟩ = some (.int .u64 (a.m : Int)) ∧ w.cell? ⟨p, 3, none⟩ = some (.string a.t) ∧ w.cell? ⟨p, 4, none⟩ = some (.int .i64 a.c) := (Blk.ev h.op).1
theorem T2.fb {W w : World} {p q : Nat} {a b : Ev} (h : T2 W p q a b w) : w.cell? ⟨q, 0, none⟩ = some (.int .i64 b.k) ∧ w.cell? ⟨q, 1, none⟩ = some (.bool b.y) ∧ w.cell? ⟨q, 2, none⟩ = some (.int .u64 (b.m : Int)) ∧ w.cell? ⟨q, 3, none⟩ = some (.string b.t) ∧ w.cell? ⟨q, 4, none⟩ = some (.int .i64 b.c) := (Blk.ev h.oq).1
/-- Four parts in blocks of their own. -/
structure T4 (W : World) (p q x y : Nat) (a b X Y : Ev) (w : World) : Prop where
  op : Blk w p (evA a) 24
  oq : Blk w q (evA b) 24
  ox : Blk w x (evA X) 24
  oy : Blk w y (evA Y) 24
  bl : Below W.heap.size W w
theorem T4.go {W w w' : World} {p q x y : Nat} {a b X Y : Ev} (h : T4 W p q x y a b X Y w) (k : Below w.heap.size w w') : T4 W p q x y a b X Y w' :=
  ⟨h.op.go k, h.oq.go k, h.ox.go k, h.oy.go k, up_trans h.bl k⟩
abbrev S4 (W : World) (p q x y : Nat) (a b X Y : Ev) (w' : World) : Prop := (w'.cell? ⟨p, 0, none⟩ = some (.int .i64 a.k) ∧ w'.cell? ⟨p, 1, none⟩ = some (.bool a.y) ∧ w'.cell? ⟨p, 2, none⟩ = some (.int .u64 (a.m : Int)) ∧ w'.cell? ⟨p, 3, none⟩ = some (.string a.t) ∧ w'.cell? ⟨p, 4, none⟩ = some (.int .i64 a.c)) ∧ (w'.cell? ⟨q, 0, none⟩ = some (.int .i64 b.k) ∧ w'.cell? ⟨q, 1, none⟩ = some (.bool b.y) ∧ w'.cell? ⟨q, 2, none⟩ = some (.int .u64 (b.m : Int)) ∧ w'.cell? ⟨q, 3, none⟩ = some (.string b.t) ∧ w'.cell? ⟨q, 4, none⟩ = some (.int .i64 b.c)) ∧ (w'.cell? ⟨x, 0, none⟩ = some (.int .i64 X.k) ∧ w'.cell? ⟨x, 1, none⟩ = some (.bool X.y) ∧ w'.cell? ⟨x, 2, none⟩ = some (.int .u64 (X.m : Int)) ∧ w'.cell? ⟨x, 3, none⟩ = some (.string X.t) ∧ w'.cell? ⟨x, 4, none⟩ = some (.int .i64 X.c)) ∧ (w'.cell? ⟨y, 0, none⟩ = some (.int .i64 Y.k) ∧ w'.cell? ⟨y, 1, none⟩ = some (.bool Y.y) ∧ w'.cell? ⟨y, 2, none⟩ = some (.int .u64 (Y.m : Int)) ∧ w'.cell? ⟨y, 3, none⟩ = some (.string Y.t) ∧ w'.cell? ⟨y, 4, none⟩ = some (.int .i64 Y.c)) ∧ Hid (T4 W p q x y a b X Y w')
theorem T4.s {W w : World} {p q x y : Nat} {a b X Y : Ev} (h : T4 W p q x y a b X Y w) : S4 W p q x y a b X Y w :=
  ⟨(Blk.ev h.op).1, (Blk.ev h.oq).1, (Blk.ev h.ox).1, (Blk.ev h.oy).1, Lib.hid h⟩
theorem size_tidy (a : Ev) : sizeR (tidyE a) = 1 + ((tidyE a).t.size : Int) := by
  have h0 : (⟨#[]⟩ : ByteArray).size = 0 := rfl
  unfold sizeR tidyE
  by_cases h1 : a.k = 1
  · simp [h1, h0]
  by_cases h2 : a.k = 2
  · simp [h2, h0]
  by_cases h3 : a.k = 3
  · simp [h3]
  by_cases h4 : a.k = 4
  · simp [h4]
  by_cases h5 : a.k = 5
  · simp [h5, h0]
  by_cases h6 : a.k = 6
  · simp [h6, h0]
  simp [h1, h2, h3, h4, h5, h6, h0]
theorem tidy_small {a : Ev} (h : a.t.size ≤ 300) : (tidyE a).t.size ≤ 300 := by
  have h0 : (⟨#[]⟩ : ByteArray).size = 0 := rfl
  unfold tidyE
  split
  · simp [h0]
  · split
    · simp [h0]
    · split
      · exact h
      · split <;> simp [h0]
theorem val_not_word {a : Ev} (ha : a.k ≠ 3) : valE a = .nilIface ∨ ∃ d x, valE a = .iface d x ∧ d ≠ 49 := by
  unfold valE
  by_cases h1 : a.k = 1
  · exact .inr ⟨_, _, by rw [if_pos h1], by decide⟩
  rw [if_neg h1]
  by_cases h2 : a.k = 2
  · exact .inr ⟨_, _, by rw [if_pos h2], by decide⟩
  rw [if_neg h2, if_neg ha]
  by_cases h4 : a.k = 4
  · exact .inr ⟨_, _, by rw [if_pos h4], by decide⟩
  rw [if_neg h4]
  by_cases h5 : a.k = 5
  · exact .inr ⟨_, _, by rw [if_pos h5], by decide⟩
  rw [if_neg h5]
  by_cases h6 : a.k = 6
  · exact .inr ⟨_, _, by rw [if_pos h6], by decide⟩
  rw [if_neg h6]
  by_cases h7 : a.k = 7
  · exact .inr ⟨_, _, by rw [if_pos h7], by decide⟩
  rw [if_neg h7]
  exact .inl rfl
theorem tells_long_a (a b : Ev) (w : World) (h : ¬ a.t.size ≤ 300) :
    Calls Try.prog 3 #[evV a, evV b] w fun e w' => e = .returned (.bool true) ∧ Below w.heap.size w w' := by
  obtain ⟨ak, ay, am, at', ac⟩ := a
  obtain ⟨bk, bY, bm, bt, bc⟩ := b
  have hz : ((300 : Int) < (at'.size : Int)) = True := by simp only at h; simp; omega
  clear h
  simp only [evV]
  go_enter Try.func3, Try.ntmps3
  go_wp2_with fail
  refine (ev_alive _).mono ?_
  rintro e w1 ⟨rfl, b1⟩
  have B1 := Lib.hid (up_trans (up_alloc (up_alloc (Below.refl _ _) _) _) b1)
  clear b1
  go_wp2
  go_ret
  exact ⟨rfl, B1.out⟩
theorem tells_long_b (a b : Ev) (w : World) (ha : a.t.size ≤ 300) (h : ¬ b.t.size ≤ 300) :
    Calls Try.prog 3 #[evV a, evV b] w fun e w' => e = .returned (.bool true) ∧ Below w.heap.size w w' := by
  obtain ⟨ak, ay, am, at', ac⟩ := a
  obtain ⟨bk, bY, bm, bt, bc⟩ := b
  have hy : ((300 : Int) < (at'.size : Int)) = False := by simp only at ha; simp; omega
  have hz : ((300 : Int) < (bt.size : Int)) = True := by simp only at h; simp; omega
  clear h ha
  simp only [evV]
  go_enter Try.func3, Try.ntmps3
  go_wp2_with fail
  refine (ev_alive _).mono ?_
  rintro e w1 ⟨rfl, b1⟩
  have B1 := Lib.hid (up_trans (up_alloc (up_alloc (Below.refl _ _) _) _) b1)
  clear b1
  go_wp2
  go_ret
  exact ⟨rfl, B1.out⟩
set_option maxHeartbeats 2000000 in
theorem tells_none (a b : Ev) (w : World) (ha : a.t.size ≤ 300) (hb : b.t.size ≤ 300) (hn : ¬ (mayE a ∧ mayE b)) :
    Calls Try.prog 3 #[evV a, evV b] w fun e w' => e = .returned (.bool true) ∧ Below w.heap.size w w' := by
  have hOa := fun w => of_any a w
  have hOb := fun w => of_any b w
  have hMa := fun w => may_any a w
  have hMb := fun w => may_any b w
  have hD : (decide (mayE a) && decide (mayE b)) = false := by
    rw [Bool.eq_false_iff]
    simpa using hn
  obtain ⟨va, hva⟩ : ∃ v, (if mayE a then valE a else .nilIface) = v := ⟨_, rfl⟩
  obtain ⟨vb, hvb⟩ : ∃ v, (if mayE b then valE b else .nilIface) = v := ⟨_, rfl⟩
  simp only [hva] at hOa
  simp only [hvb] at hOb
  clear hn hva hvb
  generalize decide (mayE a) = Da at *
  generalize decide (mayE b) = Db at *
  obtain ⟨ak, ay, am, at', ac⟩ := a
  obtain ⟨bk, bY, bm, bt, bc⟩ := b
  have hy : ((300 : Int) < (at'.size : Int)) = False := by simp only at ha; simp; omega
  have hz : ((300 : Int) < (bt.size : Int)) = False := by simp only at hb; simp; omega
  have hda : (Da != Da) = false := by cases Da <;> rfl
  have hdb : (Db != Db) = false := by cases Db <;> rfl
  clear hb ha
  simp only [evV] at hOa hOb hMa hMb ⊢
  have OA := Lib.hid hOa
  have OB := Lib.hid hOb
  have MA := Lib.hid hMa
  have MB := Lib.hid hMb
  clear hOa hOb hMa hMb
  go_enter Try.func3, Try.ntmps3
  go_wp2_with fail
  refine (ev_alive _).mono ?_
  rintro e w1 ⟨rfl, b1⟩
  have T1 : Hid (T2 w w.heap.size (w.heap.size + 1) ⟨ak, ay, am, at', ac⟩ ⟨bk, bY, bm, bt, bc⟩ w1) := Lib.hid ((t2_new w _ _).go b1)
  clear b1
  obtain ⟨e0, e1, e2, e3, e4⟩ := T1.out.fa
  simp only at e0 e1 e2 e3 e4
  go_wp2_with fail
  refine (OA.out _).mono ?_
  rintro e w2 ⟨rfl, b2⟩
  have T2_ := Lib.hid (T1.out.go b2)
  clear b2 e0 e1 e2 e3 e4
  obtain ⟨e0, e1, e2, e3, e4⟩ := T2_.out.fb
  simp only at e0 e1 e2 e3 e4
  go_wp2_with fail
  refine (OB.out _).mono ?_
  rintro e w3 ⟨rfl, b3⟩
  have T3 := Lib.hid (T2_.out.go b3)
  clear b3 e0 e1 e2 e3 e4
  obtain ⟨e0, e1, e2, e3, e4⟩ := T3.out.fa
  simp only at e0 e1 e2 e3 e4
  cases Da with
  | false =>
    go_wp2_with fail
    refine (MA.out _).mono ?_
    rintro e w4 ⟨rfl, b4⟩
    have T4_ := Lib.hid (T3.out.go b4)
    obtain ⟨f0, f1, f2, f3, f4⟩ := T4_.out.fb
    simp only at f0 f1 f2 f3 f4
    clear b4
    go_wp2_with fail
    refine (MB.out _).mono ?_
    rintro e w5 ⟨rfl, b5⟩
    have T5 := Lib.hid (T4_.out.go b5)
    clear b5
    go_wp2
    go_ret
    exact ⟨rfl, T5.out.bl⟩
  | true =>
    obtain rfl : Db = false := by simpa using hD
    go_wp2_with fail
    refine (MA.out _).mono ?_
    rintro e w4 ⟨rfl, b4⟩
    have T4_ := Lib.hid (T3.out.go b4)
    obtain ⟨f0, f1, f2, f3, f4⟩ := T4_.out.fb
    simp only at f0 f1 f2 f3 f4
    clear b4
    go_wp2_with fail
    refine (MB.out _).mono ?_
    rintro e w5 ⟨rfl, b5⟩
    have T5 := Lib.hid (T4_.out.go b5)
    clear b5
    go_wp2
    go_ret
    exact ⟨rfl, T5.out.bl⟩
end Go.Proofs.Ytnhabheofdifhaa
