/-
  LAWS of chapter 5: EscapePairs.
-/
import Derived.Test.YtpcdajhcimcedaaEscLawsD
namespace Go.Proofs.Ytpcdajhcimcedaa
open Go.RowKit
open Go.Lib
theorem and1023 (n : Nat) (h : n < 4611686018427387904) : bits .and .i64 (n : Int) 1023 = ((n % 1024 : Nat) : Int) := by
  have h1 : (BitVec.ofInt 64 (n : Int)).toNat = n := by
    rw [BitVec.ofInt_natCast, BitVec.toNat_ofNat]; exact Nat.mod_eq_of_lt (by omega)
  have h2 : (BitVec.ofInt 64 (1023 : Int)).toNat = 1023 := by decide
  show IntKind.i64.wrap ((BitVec.ofInt 64 (n : Int) &&& BitVec.ofInt 64 (1023 : Int)).toNat : Int) = _
  rw [BitVec.toNat_and, h1, h2, show 1023 = 2 ^ 10 - 1 by decide, Nat.and_two_pow_sub_one_eq_mod, IntKind.wrap_i64]
  omega
abbrev litS : ByteArray := ⟨#[48, 49, 50, 51, 52, 53, 54, 55, 56, 57, 97, 98, 99, 100, 101, 102]⟩
abbrev litL : ByteArray := ⟨#[48, 49, 50, 51, 52, 53, 54, 55, 56, 57, 65, 66, 67, 68, 69, 70]⟩
/-- The digits of either case. -/
structure Dig2 (q : Bool) (D : ByteArray) (f : Nat → UInt8) : Prop where
  dig : DigF D f
  hf : ∀ n, n < 16 → hexV (f n).toNat = some n
  hd : (f 13).toNat = 100 ∨ (f 13).toNat = 68
  is : q = true ∧ D = litL ∨ q = false ∧ D = litS
theorem dig2_small : Dig2 false litS hexD := ⟨dig_small, fun n h => hexD_v ⟨n, h⟩, .inl (by decide), .inr ⟨rfl, rfl⟩⟩
theorem dig2_large : Dig2 true litL hexU := ⟨dig_large, fun n h => hexU_v ⟨n, h⟩, .inr (by decide), .inl ⟨rfl, rfl⟩⟩
/-- The digits' block, behind each call. -/
def DgS (w wr : World) (b : Nat) (D : ByteArray) : Prop := wr.cell? ⟨b, 0, none⟩ = some (.string D) ∧ b < wr.heap.size ∧ Below w.heap.size w wr
theorem DgS.next {w wr w2 : World} {b : Nat} {D : ByteArray} (h : DgS w wr b D) (k : Below wr.heap.size wr w2) : DgS w w2 b D :=
  ⟨(k.cell (p := ⟨b, 0, none⟩) h.2.1).trans h.1, Nat.lt_of_lt_of_le h.2.1 k.size, h.2.2.trans (k.mono h.2.2.size)⟩
theorem dgs_new {w w1 : World} (h : Below w.heap.size w w1) (D : ByteArray) : DgS w (w1.alloc (.cells #[.string D] 9)) w1.heap.size D := by
  refine ⟨?_, by simp, h.alloc h.size _⟩
  have := heap_alloc_new w1 (.cells #[.string D] 9)
  unfold World.cell?
  simp only [this]
  rfl
theorem uL_length (f : Nat → UInt8) (v : Nat) : (uL f v).length = 6 := rfl
theorem read_list (l : List UInt8) (z : ByteArray) (e0 : Nat) (p : Ins × List UInt8) (hl : l.length ≤ 100) (hp : runI insT l = p) (hz : z = ⟨(readT p).toArray⟩) (he : readE p = e0) (X : ByteArray) (hX : X = ⟨l.toArray⟩) (w : World) :
    Calls Try.prog 13 #[.string X] w fun e w' => e = .returned (.tuple #[.string z, .int .i64 e0]) ∧ Below w.heap.size w w' := by
  subst hX
  refine read_lit _ w ?_ z e0 p hp hz he
  show l.toArray.size ≤ 1000000
  simp
  omega
set_option maxRecDepth 100000 in
set_option maxHeartbeats 1600000 in
/-- A surrogate. -/
theorem pairs_sur (q : Bool) (D : ByteArray) (f : Nat → UInt8) (hD : Dig2 q D f) (n : Nat) (hn : 55296 ≤ n ∧ n ≤ 57343) (w : World) :
    Calls Try.prog 5 #[.int .i64 n, .bool q] w fun e w' => e = .returned (.bool true) ∧ Below w.heap.size w w' := by
  have hU := fun (b : Nat) (W : World) => u_any b D f hD.dig n (by omega) W
  obtain ⟨X, hX⟩ : ∃ X : ByteArray, X = ⟨(uL f n).toArray⟩ := ⟨_, rfl⟩
  rw [← hX] at hU
  have hXs : X.size = 6 := by rw [← size_list, hX]; rfl
  have HU := Lib.hid hU
  have HR := Lib.hid (fun W => read_list (uL f n ++ [120]) ⟨#[]⟩ 9 (.bad true, []) (by rw [List.length_append, uL_length]; decide) (run_sur f hD.hf n (by omega)) rfl rfl (X ++ ⟨#[120]⟩) (by rw [hX, ← ba_append]) W)
  have hmf : ∀ (fn : Fn) (first cap : Array Value) (w : World), (Instr.makeFunc fn first cap).run Try.prog w = .ok (.func fn first cap) w := fun _ _ _ _ => rfl
  have a1 : ((n : Int) < 0) = False := by simp only [eq_iff_iff, iff_false]; omega
  have a2 : ((1114111 : Int) < (n : Int)) = False := by simp only [eq_iff_iff, iff_false]; omega
  have a3 : ((55296 : Int) ≤ (n : Int)) = True := by simp only [eq_iff_iff, iff_true]; omega
  have a4 : ((n : Int) ≤ 57343) = True := by simp only [eq_iff_iff, iff_true]; omega
  have hg : (9223372036854775807 < X.size + (⟨#[120]⟩ : ByteArray).size) = False := by
    simp only [eq_iff_iff, iff_false]
    have : (⟨#[120]⟩ : ByteArray).size = 1 := rfl
    omega
  have hg2 : (9223372036854775807 < X.size + 1) = False := by simp only [eq_iff_iff, iff_false]; omega
  have hq := hD.is
  clear hU hX hn hD hXs
  rcases hq with ⟨rfl, rfl⟩ | ⟨rfl, rfl⟩
  · go_enter Try.func5, Try.ntmps5
    go_wp2_with fail
    refine (alive_any _).mono ?_
    rintro e w1 ⟨rfl, b1⟩
    have HS := Lib.hid (dgs_new b1 litL)
    clear b1
    go_wp2_with fail
    refine (HU.out _ _ HS.out.1).mono ?_
    rintro e w2 ⟨rfl, b2⟩
    have HS2 := Lib.hid (HS.out.next b2)
    clear b2
    go_wp2_with fail
    refine (HR.out _).mono ?_
    rintro e w3 ⟨rfl, b3⟩
    have HS3 := Lib.hid (HS2.out.next b3)
    clear b3
    go_wp2
    go_ret
    exact ⟨rfl, HS3.out.2.2⟩
  · go_enter Try.func5, Try.ntmps5
    go_wp2_with fail
    refine (alive_any _).mono ?_
    rintro e w1 ⟨rfl, b1⟩
    have HS := Lib.hid (dgs_new b1 litS)
    clear b1
    go_wp2_with fail
    refine (HU.out _ _ HS.out.1).mono ?_
    rintro e w2 ⟨rfl, b2⟩
    have HS2 := Lib.hid (HS.out.next b2)
    clear b2
    go_wp2_with fail
    refine (HR.out _).mono ?_
    rintro e w3 ⟨rfl, b3⟩
    have HS3 := Lib.hid (HS2.out.next b3)
    clear b3
    go_wp2
    go_ret
    exact ⟨rfl, HS3.out.2.2⟩
theorem encode_of {n : Nat} : (⟨(encL n).toArray⟩ : ByteArray) = Utf8.encode (n : Int) := enc_list n
theorem readT_ins (l : List UInt8) : readT (insT, l) = l := rfl
set_option maxRecDepth 100000 in
set_option maxHeartbeats 1600000 in
/-- A rune of four digits. -/
theorem pairs_four (q : Bool) (D : ByteArray) (f : Nat → UInt8) (hD : Dig2 q D f) (n : Nat) (hn : n < 65536) (hr : IsRune n) (w : World) :
    Calls Try.prog 5 #[.int .i64 n, .bool q] w fun e w' => e = .returned (.bool true) ∧ Below w.heap.size w w' := by
  have hU := fun (b : Nat) (W : World) => u_any b D f hD.dig n (by omega) W
  obtain ⟨X, hX⟩ : ∃ X : ByteArray, X = ⟨(uL f n).toArray⟩ := ⟨_, rfl⟩
  rw [← hX] at hU
  have HU := Lib.hid hU
  have hp : runI insT (uL f n) = (insT, encL n) := by
    unfold IsRune at hr
    rw [run_u f hD.hf n hn, if_neg (by omega), if_neg (by omega)]
  have HF := Lib.hid (fun W => ref_ok n hr W)
  have hRd := fun (z : ByteArray) hz W => read_list (uL f n) z 0 (insT, encL n) (by rw [uL_length]; decide) hp hz rfl X hX W
  have hR := hRd (Utf8.encode (n : Int)) (by rw [readT_ins]; exact encode_of.symm)
  have HR := Lib.hid hR
  generalize Utf8.encode (n : Int) = y at *
  have hmf : ∀ (fn : Fn) (first cap : Array Value) (w : World), (Instr.makeFunc fn first cap).run Try.prog w = .ok (.func fn first cap) w := fun _ _ _ _ => rfl
  have a1 : ((n : Int) < 0) = False := by simp only [eq_iff_iff, iff_false]; omega
  have a2 : ((1114111 : Int) < (n : Int)) = False := by simp only [eq_iff_iff, iff_false]; omega
  have a5 : ((65536 : Int) ≤ (n : Int)) = False := by simp only [eq_iff_iff, iff_false]; omega
  have hy : (y.toList == y.toList) = true := by simp
  have HA : Hid (((55296 : Int) ≤ (n : Int)) = False ∨ (((55296 : Int) ≤ (n : Int)) = True ∧ ((n : Int) ≤ 57343) = False)) := Lib.hid (by unfold IsRune at hr; simp only [eq_iff_iff, iff_false, iff_true]; omega)
  have hq := hD.is
  clear hU hX hn hD hr hp hR hRd
  rcases hq with ⟨rfl, rfl⟩ | ⟨rfl, rfl⟩
  · rcases HA.out with a3 | ⟨a3, a4⟩
    · go_enter Try.func5, Try.ntmps5
      go_wp2_with fail
      refine (alive_any _).mono ?_
      rintro e w1 ⟨rfl, b1⟩
      have HS := Lib.hid (dgs_new b1 litL)
      clear b1
      go_wp2_with fail
      refine (HU.out _ _ HS.out.1).mono ?_
      rintro e w2 ⟨rfl, b2⟩
      have HS2 := Lib.hid (HS.out.next b2)
      clear b2
      go_wp2_with fail
      refine (HR.out _).mono ?_
      rintro e w3 ⟨rfl, b3⟩
      have HS3 := Lib.hid (HS2.out.next b3)
      clear b3
      go_wp2_with fail
      refine (HF.out _).mono ?_
      rintro e w4 ⟨rfl, b4⟩
      have HS4 := Lib.hid (HS3.out.next b4)
      clear b4
      go_wp2
      go_ret
      exact ⟨rfl, HS4.out.2.2⟩
    · go_enter Try.func5, Try.ntmps5
      go_wp2_with fail
      refine (alive_any _).mono ?_
      rintro e w1 ⟨rfl, b1⟩
      have HS := Lib.hid (dgs_new b1 litL)
      clear b1
      go_wp2_with fail
      refine (HU.out _ _ HS.out.1).mono ?_
      rintro e w2 ⟨rfl, b2⟩
      have HS2 := Lib.hid (HS.out.next b2)
      clear b2
      go_wp2_with fail
      refine (HR.out _).mono ?_
      rintro e w3 ⟨rfl, b3⟩
      have HS3 := Lib.hid (HS2.out.next b3)
      clear b3
      go_wp2_with fail
      refine (HF.out _).mono ?_
      rintro e w4 ⟨rfl, b4⟩
      have HS4 := Lib.hid (HS3.out.next b4)
      clear b4
      go_wp2
      go_ret
      exact ⟨rfl, HS4.out.2.2⟩
  · rcases HA.out with a3 | ⟨a3, a4⟩
    · go_enter Try.func5, Try.ntmps5
      go_wp2_with fail
      refine (alive_any _).mono ?_
      rintro e w1 ⟨rfl, b1⟩
      have HS := Lib.hid (dgs_new b1 litS)
      clear b1
      go_wp2_with fail
      refine (HU.out _ _ HS.out.1).mono ?_
      rintro e w2 ⟨rfl, b2⟩
      have HS2 := Lib.hid (HS.out.next b2)
      clear b2
      go_wp2_with fail
      refine (HR.out _).mono ?_
      rintro e w3 ⟨rfl, b3⟩
      have HS3 := Lib.hid (HS2.out.next b3)
      clear b3
      go_wp2_with fail
      refine (HF.out _).mono ?_
      rintro e w4 ⟨rfl, b4⟩
      have HS4 := Lib.hid (HS3.out.next b4)
      clear b4
      go_wp2
      go_ret
      exact ⟨rfl, HS4.out.2.2⟩
    · go_enter Try.func5, Try.ntmps5
      go_wp2_with fail
      refine (alive_any _).mono ?_
      rintro e w1 ⟨rfl, b1⟩
      have HS := Lib.hid (dgs_new b1 litS)
      clear b1
      go_wp2_with fail
      refine (HU.out _ _ HS.out.1).mono ?_
      rintro e w2 ⟨rfl, b2⟩
      have HS2 := Lib.hid (HS.out.next b2)
      clear b2
      go_wp2_with fail
      refine (HR.out _).mono ?_
      rintro e w3 ⟨rfl, b3⟩
      have HS3 := Lib.hid (HS2.out.next b3)
      clear b3
      go_wp2_with fail
      refine (HF.out _).mono ?_
      rintro e w4 ⟨rfl, b4⟩
      have HS4 := Lib.hid (HS3.out.next b4)
      clear b4
      go_wp2
      go_ret
      exact ⟨rfl, HS4.out.2.2⟩
theorem half_a (n : Nat) (h0 : 65536 ≤ n) (h1 : n ≤ 1114111) : ∃ a b : Nat, (55296 : Int) + ((n : Int) - 65536) / 1024 = (a : Int) ∧ (56320 : Int) + (((n - 65536) % 1024 : Nat) : Int) = (b : Int) ∧ (55296 ≤ a ∧ a ≤ 56319) ∧ (56320 ≤ b ∧ b ≤ 57343) ∧ pairN a b = n ∧ ((n - 65536 : Nat) : Int) = (n : Int) - 65536 :=
  ⟨55296 + (n - 65536) / 1024, 56320 + (n - 65536) % 1024, by omega, by omega, by omega, by omega, pair_is n _ _ rfl rfl h0, by omega⟩
set_option maxRecDepth 100000 in
set_option maxHeartbeats 3200000 in
/-- A rune of two escapes. -/
theorem pairs_big (q : Bool) (D : ByteArray) (f : Nat → UInt8) (hD : Dig2 q D f) (n : Nat) (hn : 65536 ≤ n ∧ n ≤ 1114111) (w : World) :
    Calls Try.prog 5 #[.int .i64 n, .bool q] w fun e w' => e = .returned (.bool true) ∧ Below w.heap.size w w' := by
  obtain ⟨a, b, ha, hb, ra, rb, hp, hsub⟩ := half_a n hn.1 hn.2
  have hand := and1023 (n - 65536) (by omega)
  rw [hsub] at hand
  obtain ⟨m, hm⟩ : ∃ m : Int, (((n - 65536) % 1024 : Nat) : Int) = m := ⟨_, rfl⟩
  rw [hm] at hand hb
  have hm2 : 0 ≤ m ∧ m ≤ 1023 := by omega
  have hU0 := fun (g : Nat) (W : World) => u_any g D f hD.dig n (by omega) W
  have hU1 := fun (g : Nat) (W : World) => u_any g D f hD.dig a (by omega) W
  have hU2 := fun (g : Nat) (W : World) => u_any g D f hD.dig b (by omega) W
  rw [← ha] at hU1
  rw [← hb] at hU2
  have hrun := run_pair f hD.hf hD.hd n a b ra rb hp
  obtain ⟨X0, hX0⟩ : ∃ X : ByteArray, X = ⟨(uL f n).toArray⟩ := ⟨_, rfl⟩
  obtain ⟨X1, hX1⟩ : ∃ X : ByteArray, X = ⟨(uL f a).toArray⟩ := ⟨_, rfl⟩
  obtain ⟨X2, hX2⟩ : ∃ X : ByteArray, X = ⟨(uL f b).toArray⟩ := ⟨_, rfl⟩
  rw [← hX0] at hU0
  rw [← hX1] at hU1
  rw [← hX2] at hU2
  have s1 : X1.size = 6 := by rw [← size_list, hX1]; rfl
  have s2 : X2.size = 6 := by rw [← size_list, hX2]; rfl
  have HU0 := Lib.hid hU0
  have HU1 := Lib.hid hU1
  have HU2 := Lib.hid hU2
  have HF := Lib.hid (fun W => ref_ok n (.inr (by omega)) W)
  have hRd := fun (z : ByteArray) hz W => read_list (uL f a ++ uL f b) z 0 (insT, encL n) (by rw [List.length_append, uL_length, uL_length]; decide) hrun hz rfl (X1 ++ X2) (by rw [hX1, hX2, ← ba_append]) W
  have hR := hRd (Utf8.encode (n : Int)) (by rw [readT_ins]; exact encode_of.symm)
  have HR := Lib.hid hR
  generalize Utf8.encode (n : Int) = y at *
  have hmf : ∀ (fn : Fn) (first cap : Array Value) (w : World), (Instr.makeFunc fn first cap).run Try.prog w = .ok (.func fn first cap) w := fun _ _ _ _ => rfl
  have a1 : ((n : Int) < 0) = False := by simp only [eq_iff_iff, iff_false]; omega
  have a2 : ((1114111 : Int) < (n : Int)) = False := by simp only [eq_iff_iff, iff_false]; omega
  have a3 : ((55296 : Int) ≤ (n : Int)) = True := by simp only [eq_iff_iff, iff_true]; omega
  have a4 : ((n : Int) ≤ 57343) = False := by simp only [eq_iff_iff, iff_false]; omega
  have a5 : ((65536 : Int) ≤ (n : Int)) = True := by simp only [eq_iff_iff, iff_true]; omega
  have hg : (9223372036854775807 < X1.size + X2.size) = False := by simp only [eq_iff_iff, iff_false]; omega
  have hy : (y.toList == y.toList) = true := by simp
  have hn2 : (n : Int) ≤ 1114111 := by omega
  have hn3 : (65536 : Int) ≤ n := by omega
  have hq := hD.is
  clear hU0 hU1 hU2 hX0 hX1 hX2 hD hrun hR hRd hp ha hb ra rb hsub hm hn s1 s2
  rcases hq with ⟨rfl, rfl⟩ | ⟨rfl, rfl⟩
  · go_enter Try.func5, Try.ntmps5
    go_wp2_with fail
    refine (alive_any _).mono ?_
    rintro e w1 ⟨rfl, b1⟩
    have HS := Lib.hid (dgs_new b1 litL)
    clear b1
    go_wp2_with fail
    refine (HU0.out _ _ HS.out.1).mono ?_
    rintro e w2 ⟨rfl, b2⟩
    have HS2 := Lib.hid (HS.out.next b2)
    clear b2
    go_wp2_with fail
    refine (HU1.out _ _ HS2.out.1).mono ?_
    rintro e w3 ⟨rfl, b3⟩
    have HS3 := Lib.hid (HS2.out.next b3)
    clear b3
    go_wp2_with fail
    refine (HU2.out _ _ HS3.out.1).mono ?_
    rintro e w4 ⟨rfl, b4⟩
    have HS4 := Lib.hid (HS3.out.next b4)
    clear b4
    go_wp2_with fail
    refine (HR.out _).mono ?_
    rintro e w5 ⟨rfl, b5⟩
    have HS5 := Lib.hid (HS4.out.next b5)
    clear b5
    go_wp2_with fail
    refine (HF.out _).mono ?_
    rintro e w6 ⟨rfl, b6⟩
    have HS6 := Lib.hid (HS5.out.next b6)
    clear b6
    go_wp2
    go_ret
    exact ⟨rfl, HS6.out.2.2⟩
  · go_enter Try.func5, Try.ntmps5
    go_wp2_with fail
    refine (alive_any _).mono ?_
    rintro e w1 ⟨rfl, b1⟩
    have HS := Lib.hid (dgs_new b1 litS)
    clear b1
    go_wp2_with fail
    refine (HU0.out _ _ HS.out.1).mono ?_
    rintro e w2 ⟨rfl, b2⟩
    have HS2 := Lib.hid (HS.out.next b2)
    clear b2
    go_wp2_with fail
    refine (HU1.out _ _ HS2.out.1).mono ?_
    rintro e w3 ⟨rfl, b3⟩
    have HS3 := Lib.hid (HS2.out.next b3)
    clear b3
    go_wp2_with fail
    refine (HU2.out _ _ HS3.out.1).mono ?_
    rintro e w4 ⟨rfl, b4⟩
    have HS4 := Lib.hid (HS3.out.next b4)
    clear b4
    go_wp2_with fail
    refine (HR.out _).mono ?_
    rintro e w5 ⟨rfl, b5⟩
    have HS5 := Lib.hid (HS4.out.next b5)
    clear b5
    go_wp2_with fail
    refine (HF.out _).mono ?_
    rintro e w6 ⟨rfl, b6⟩
    have HS6 := Lib.hid (HS5.out.next b6)
    clear b6
    go_wp2
    go_ret
    exact ⟨rfl, HS6.out.2.2⟩
theorem pairs_out (r : Int) (q : Bool) (hr : r < 0 ∨ 1114111 < r) (w : World) :
    Calls Try.prog 5 #[.int .i64 r, .bool q] w fun e w' => e = .returned (.bool true) ∧ Below w.heap.size w w' := by
  by_cases h0 : r < 0
  · clear hr
    go_enter Try.func5, Try.ntmps5
    go_wp2_with fail
    refine (alive_any _).mono ?_
    rintro e w1 ⟨rfl, b1⟩
    go_wp2
    go_ret
    exact ⟨rfl, b1⟩
  · have h1 : (1114111 : Int) < r := by omega
    clear hr
    go_enter Try.func5, Try.ntmps5
    go_wp2_with fail
    refine (alive_any _).mono ?_
    rintro e w1 ⟨rfl, b1⟩
    go_wp2
    go_ret
    exact ⟨rfl, b1⟩
theorem pairs_any (r : Int) (q : Bool) (w : World) : Calls Try.prog 5 #[.int .i64 r, .bool q] w fun e w' => e = .returned (.bool true) ∧ Below w.heap.size w w' := by
  by_cases hr : r < 0 ∨ 1114111 < r
  · exact pairs_out r q hr w
  obtain ⟨n, rfl⟩ : ∃ n : Nat, r = n := ⟨r.toNat, by omega⟩
  obtain ⟨D, f, hD⟩ : ∃ D f, Dig2 q D f := by
    cases q
    · exact ⟨_, _, dig2_small⟩
    · exact ⟨_, _, dig2_large⟩
  by_cases h1 : 65536 ≤ n
  · exact pairs_big q D f hD n (by omega) w
  by_cases h2 : 55296 ≤ n ∧ n ≤ 57343
  · exact pairs_sur q D f hD n h2 w
  · exact pairs_four q D f hD n (by omega) (by unfold IsRune; omega) w
end Go.Proofs.Ytpcdajhcimcedaa
