/-
  LAWS of chapter 7: HeadSizes.
-/
import Derived.Test.YtkclpolgadlbhaaHeadLawsA
namespace Go.Proofs.Ytkclpolgadlbhaa
open Go.RowKit
open Go.Lib
structure Two7 (n : Int) (a b : Nat) (X Y : ByteArray) (Q E : Bool) : Prop where
  px : ∀ W, Calls Try.prog 14 #[.int .i64 n, .int .u64 a] W fun e w' => e = .returned (.string X) ∧ Below W.heap.size W w'
  py : ∀ W, Calls Try.prog 14 #[.int .i64 n, .int .u64 b] W fun e w' => e = .returned (.string Y) ∧ Below W.heap.size W w'
  less : Op.bytesLess X.toList Y.toList = Q
  eq : (X.toList == Y.toList) = E
  size : X.size = if 4294967296 ≤ a then 9 else if 65536 ≤ a then 5 else if 256 ≤ a then 3 else if 24 ≤ a then 2 else 1
theorem head_inj (m a b : Nat) (hm : m < 8) (ha : a < 18446744073709551616) (hb : b < 18446744073709551616) : headB m a = headB m b ↔ a = b := by
  constructor
  · intro h
    have h1 := run_head m a hm ha
    rw [h, run_head m b hm hb] at h1
    injection h1 with _ h2
    exact h2.symm
  · intro h; rw [h]
theorem two7_of (n : Int) (a b : Nat) (ha : a < 18446744073709551616) (hb : b < 18446744073709551616) : ∃ X Y, Two7 n a b X Y (decide (a < b)) (decide (a = b)) := by
  have hm : (n % 8).toNat < 8 := by omega
  refine ⟨_, _, fun W => put_any n a ha W, fun W => put_any n b hb W, ?_, ?_, ?_⟩
  · rw [ByteArray.toList_eq, ByteArray.toList_eq]
    have := head_less _ a b hm ha hb
    cases hq : Op.bytesLess (headB (n % 8).toNat a) (headB (n % 8).toNat b) with
    | true =>
      rw [hq] at this
      symm
      simpa using this
    | false =>
      rw [hq] at this
      symm
      simpa using this
  · rw [ByteArray.toList_eq, ByteArray.toList_eq]
    have := head_inj _ a b hm ha hb
    simp only [] at *
    by_cases h : a = b
    · subst h
      simp
    · rw [decide_eq_false h, beq_eq_false_iff_ne]
      intro he
      exact h (this.1 he)
  · rw [ba_size, headB_length]
    rcases sizH_cases a ha with ⟨h, e⟩ | ⟨h, e⟩ | ⟨h, e⟩ | ⟨h, e⟩ | ⟨h, e⟩ <;> rw [e] <;> dsimp only
    · rw [if_neg (by omega), if_neg (by omega), if_neg (by omega), if_neg (by omega)]
    · rw [if_neg (by omega), if_neg (by omega), if_neg (by omega), if_pos (by omega)]
    · rw [if_neg (by omega), if_neg (by omega), if_pos (by omega)]
    · rw [if_neg (by omega), if_pos (by omega)]
    · rw [if_pos (by omega)]
set_option maxHeartbeats 2000000 in
theorem sizes_lt (n : Int) (a b : Nat) (h : a < b) (X Y : ByteArray) (hT : Two7 n a b X Y true false) (w : World) :
    Calls Try.prog 5 #[.int .i64 n, .int .u64 a, .int .u64 b] w fun e w' => e = .returned (.bool true) ∧ Below w.heap.size w w' := by
  obtain ⟨hX, hY, hl, he, hs⟩ := hT
  have HX := Lib.hid hX
  have HY := Lib.hid hY
  have q1 : (a < b) = True := by simp only [eq_iff_iff, iff_true]; omega
  have q2 : ((a : Int) == b) = false := by rw [beq_eq_false_iff_ne]; omega
  clear hX hY h
  go_enter Try.func5, Try.ntmps5
  go_wp2_with fail
  refine (alive_any _).mono ?_
  rintro e w1 ⟨rfl, b1⟩
  have B1 := Lib.hid b1
  clear b1
  go_wp2_with fail
  refine (HX.out _).mono ?_
  rintro e w2 ⟨rfl, b2⟩
  have B2 := Lib.hid (B1.out.trans (b2.mono B1.out.size))
  clear b2
  go_wp2_with fail
  refine (HY.out _).mono ?_
  rintro e w3 ⟨rfl, b3⟩
  have B3 := Lib.hid (B2.out.trans (b3.mono B2.out.size))
  clear b3
  by_cases c4 : 4294967296 ≤ a
  · rw [if_pos c4] at hs
    have d4 : ((4294967296 : Int) ≤ (a : Int)) = True := by simp only [eq_iff_iff, iff_true]; omega
    have hs' : ((X.size : Int) == 9) = true := by rw [beq_iff_eq]; omega
    clear c4 hs
    go_wp2
    go_ret
    exact ⟨rfl, B3.out⟩
  have d4 : ((4294967296 : Int) ≤ (a : Int)) = False := by simp only [eq_iff_iff, iff_false]; omega
  rw [if_neg c4] at hs
  by_cases c3 : 65536 ≤ a
  · rw [if_pos c3] at hs
    have d3 : ((65536 : Int) ≤ (a : Int)) = True := by simp only [eq_iff_iff, iff_true]; omega
    have hs' : ((X.size : Int) == 5) = true := by rw [beq_iff_eq]; omega
    clear c4 c3 hs
    go_wp2
    go_ret
    exact ⟨rfl, B3.out⟩
  have d3 : ((65536 : Int) ≤ (a : Int)) = False := by simp only [eq_iff_iff, iff_false]; omega
  rw [if_neg c3] at hs
  by_cases c2 : 256 ≤ a
  · rw [if_pos c2] at hs
    have d2 : ((256 : Int) ≤ (a : Int)) = True := by simp only [eq_iff_iff, iff_true]; omega
    have hs' : ((X.size : Int) == 3) = true := by rw [beq_iff_eq]; omega
    clear c4 c3 c2 hs
    go_wp2
    go_ret
    exact ⟨rfl, B3.out⟩
  have d2 : ((256 : Int) ≤ (a : Int)) = False := by simp only [eq_iff_iff, iff_false]; omega
  rw [if_neg c2] at hs
  by_cases c1 : 24 ≤ a
  · rw [if_pos c1] at hs
    have d1 : ((24 : Int) ≤ (a : Int)) = True := by simp only [eq_iff_iff, iff_true]; omega
    have hs' : ((X.size : Int) == 2) = true := by rw [beq_iff_eq]; omega
    clear c4 c3 c2 c1 hs
    go_wp2
    go_ret
    exact ⟨rfl, B3.out⟩
  have d1 : ((24 : Int) ≤ (a : Int)) = False := by simp only [eq_iff_iff, iff_false]; omega
  rw [if_neg c1] at hs
  have hs' : ((X.size : Int) == 1) = true := by rw [beq_iff_eq]; omega
  clear c4 c3 c2 c1 hs
  go_wp2
  go_ret
  exact ⟨rfl, B3.out⟩
set_option maxHeartbeats 2000000 in
theorem sizes_eq (n : Int) (a b : Nat) (h : a = b) (X Y : ByteArray) (hT : Two7 n a b X Y false true) (w : World) :
    Calls Try.prog 5 #[.int .i64 n, .int .u64 a, .int .u64 b] w fun e w' => e = .returned (.bool true) ∧ Below w.heap.size w w' := by
  obtain ⟨hX, hY, hl, he, hs⟩ := hT
  have HX := Lib.hid hX
  have HY := Lib.hid hY
  have q1 : (a < b) = False := by simp only [eq_iff_iff, iff_false]; omega
  have q2 : ((a : Int) == b) = true := by rw [beq_iff_eq]; omega
  clear hX hY h
  go_enter Try.func5, Try.ntmps5
  go_wp2_with fail
  refine (alive_any _).mono ?_
  rintro e w1 ⟨rfl, b1⟩
  have B1 := Lib.hid b1
  clear b1
  go_wp2_with fail
  refine (HX.out _).mono ?_
  rintro e w2 ⟨rfl, b2⟩
  have B2 := Lib.hid (B1.out.trans (b2.mono B1.out.size))
  clear b2
  go_wp2_with fail
  refine (HY.out _).mono ?_
  rintro e w3 ⟨rfl, b3⟩
  have B3 := Lib.hid (B2.out.trans (b3.mono B2.out.size))
  clear b3
  by_cases c4 : 4294967296 ≤ a
  · rw [if_pos c4] at hs
    have d4 : ((4294967296 : Int) ≤ (a : Int)) = True := by simp only [eq_iff_iff, iff_true]; omega
    have hs' : ((X.size : Int) == 9) = true := by rw [beq_iff_eq]; omega
    clear c4 hs
    go_wp2
    go_ret
    exact ⟨rfl, B3.out⟩
  have d4 : ((4294967296 : Int) ≤ (a : Int)) = False := by simp only [eq_iff_iff, iff_false]; omega
  rw [if_neg c4] at hs
  by_cases c3 : 65536 ≤ a
  · rw [if_pos c3] at hs
    have d3 : ((65536 : Int) ≤ (a : Int)) = True := by simp only [eq_iff_iff, iff_true]; omega
    have hs' : ((X.size : Int) == 5) = true := by rw [beq_iff_eq]; omega
    clear c4 c3 hs
    go_wp2
    go_ret
    exact ⟨rfl, B3.out⟩
  have d3 : ((65536 : Int) ≤ (a : Int)) = False := by simp only [eq_iff_iff, iff_false]; omega
  rw [if_neg c3] at hs
  by_cases c2 : 256 ≤ a
  · rw [if_pos c2] at hs
    have d2 : ((256 : Int) ≤ (a : Int)) = True := by simp only [eq_iff_iff, iff_true]; omega
    have hs' : ((X.size : Int) == 3) = true := by rw [beq_iff_eq]; omega
    clear c4 c3 c2 hs
    go_wp2
    go_ret
    exact ⟨rfl, B3.out⟩
  have d2 : ((256 : Int) ≤ (a : Int)) = False := by simp only [eq_iff_iff, iff_false]; omega
  rw [if_neg c2] at hs
  by_cases c1 : 24 ≤ a
  · rw [if_pos c1] at hs
    have d1 : ((24 : Int) ≤ (a : Int)) = True := by simp only [eq_iff_iff, iff_true]; omega
    have hs' : ((X.size : Int) == 2) = true := by rw [beq_iff_eq]; omega
    clear c4 c3 c2 c1 hs
    go_wp2
    go_ret
    exact ⟨rfl, B3.out⟩
  have d1 : ((24 : Int) ≤ (a : Int)) = False := by simp only [eq_iff_iff, iff_false]; omega
  rw [if_neg c1] at hs
  have hs' : ((X.size : Int) == 1) = true := by rw [beq_iff_eq]; omega
  clear c4 c3 c2 c1 hs
  go_wp2
  go_ret
  exact ⟨rfl, B3.out⟩
set_option maxHeartbeats 2000000 in
theorem sizes_gt (n : Int) (a b : Nat) (h : b < a) (X Y : ByteArray) (hT : Two7 n a b X Y false false) (w : World) :
    Calls Try.prog 5 #[.int .i64 n, .int .u64 a, .int .u64 b] w fun e w' => e = .returned (.bool true) ∧ Below w.heap.size w w' := by
  obtain ⟨hX, hY, hl, he, hs⟩ := hT
  have HX := Lib.hid hX
  have HY := Lib.hid hY
  have q1 : (a < b) = False := by simp only [eq_iff_iff, iff_false]; omega
  have q2 : ((a : Int) == b) = false := by rw [beq_eq_false_iff_ne]; omega
  clear hX hY h
  go_enter Try.func5, Try.ntmps5
  go_wp2_with fail
  refine (alive_any _).mono ?_
  rintro e w1 ⟨rfl, b1⟩
  have B1 := Lib.hid b1
  clear b1
  go_wp2_with fail
  refine (HX.out _).mono ?_
  rintro e w2 ⟨rfl, b2⟩
  have B2 := Lib.hid (B1.out.trans (b2.mono B1.out.size))
  clear b2
  go_wp2_with fail
  refine (HY.out _).mono ?_
  rintro e w3 ⟨rfl, b3⟩
  have B3 := Lib.hid (B2.out.trans (b3.mono B2.out.size))
  clear b3
  by_cases c4 : 4294967296 ≤ a
  · rw [if_pos c4] at hs
    have d4 : ((4294967296 : Int) ≤ (a : Int)) = True := by simp only [eq_iff_iff, iff_true]; omega
    have hs' : ((X.size : Int) == 9) = true := by rw [beq_iff_eq]; omega
    clear c4 hs
    go_wp2
    go_ret
    exact ⟨rfl, B3.out⟩
  have d4 : ((4294967296 : Int) ≤ (a : Int)) = False := by simp only [eq_iff_iff, iff_false]; omega
  rw [if_neg c4] at hs
  by_cases c3 : 65536 ≤ a
  · rw [if_pos c3] at hs
    have d3 : ((65536 : Int) ≤ (a : Int)) = True := by simp only [eq_iff_iff, iff_true]; omega
    have hs' : ((X.size : Int) == 5) = true := by rw [beq_iff_eq]; omega
    clear c4 c3 hs
    go_wp2
    go_ret
    exact ⟨rfl, B3.out⟩
  have d3 : ((65536 : Int) ≤ (a : Int)) = False := by simp only [eq_iff_iff, iff_false]; omega
  rw [if_neg c3] at hs
  by_cases c2 : 256 ≤ a
  · rw [if_pos c2] at hs
    have d2 : ((256 : Int) ≤ (a : Int)) = True := by simp only [eq_iff_iff, iff_true]; omega
    have hs' : ((X.size : Int) == 3) = true := by rw [beq_iff_eq]; omega
    clear c4 c3 c2 hs
    go_wp2
    go_ret
    exact ⟨rfl, B3.out⟩
  have d2 : ((256 : Int) ≤ (a : Int)) = False := by simp only [eq_iff_iff, iff_false]; omega
  rw [if_neg c2] at hs
  by_cases c1 : 24 ≤ a
  · rw [if_pos c1] at hs
    have d1 : ((24 : Int) ≤ (a : Int)) = True := by simp only [eq_iff_iff, iff_true]; omega
    have hs' : ((X.size : Int) == 2) = true := by rw [beq_iff_eq]; omega
    clear c4 c3 c2 c1 hs
    go_wp2
    go_ret
    exact ⟨rfl, B3.out⟩
  have d1 : ((24 : Int) ≤ (a : Int)) = False := by simp only [eq_iff_iff, iff_false]; omega
  rw [if_neg c1] at hs
  have hs' : ((X.size : Int) == 1) = true := by rw [beq_iff_eq]; omega
  clear c4 c3 c2 c1 hs
  go_wp2
  go_ret
  exact ⟨rfl, B3.out⟩
theorem sizes_any (n : Int) (a b : Nat) (ha : a < 18446744073709551616) (hb : b < 18446744073709551616) (w : World) :
    Calls Try.prog 5 #[.int .i64 n, .int .u64 a, .int .u64 b] w fun e w' => e = .returned (.bool true) ∧ Below w.heap.size w w' := by
  obtain ⟨X, Y, h⟩ := two7_of n a b ha hb
  have hd : (decide (a < b), decide (a = b)) = (true, false) ∧ a < b ∧ ¬ a = b ∨ (decide (a < b), decide (a = b)) = (false, true) ∧ ¬ a < b ∧ a = b ∨ (decide (a < b), decide (a = b)) = (false, false) ∧ ¬ a < b ∧ ¬ a = b := by
    rcases Nat.lt_trichotomy a b with h | h | h
    · exact .inl ⟨by rw [decide_eq_true h, decide_eq_false (by omega)], h, by omega⟩
    · exact .inr (.inl ⟨by rw [decide_eq_true h, decide_eq_false (by omega)], by omega, h⟩)
    · exact .inr (.inr ⟨by rw [decide_eq_false (by omega), decide_eq_false (by omega)], by omega, by omega⟩)
  rcases hd with ⟨e, h1, h2⟩ | ⟨e, h1, h2⟩ | ⟨e, h1, h2⟩
  all_goals
    injection e with e1 e2
    rw [e1, e2] at h
  · exact sizes_lt n a b h1 X Y h w
  · exact sizes_eq n a b h2 X Y h w
  · exact sizes_gt n a b (by omega) X Y h w
end Go.Proofs.Ytkclpolgadlbhaa
