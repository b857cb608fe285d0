/-
  CONTRACTS of escape.Reader, part B: digit, open, take, Step, Whole.
-/
import Derived.Test.YteonbajndghfcaaEsc
namespace Go.Proofs.Yteonbajndghfcaa
open Go.RowKit
open Go.Lib
theorem bits_or_i64 (a b : Nat) (ha : a < 4611686018427387904) (hb : b < 4611686018427387904) : bits .or .i64 (a : Int) (b : Int) = ((a ||| b : Nat) : Int) := by
  have hx : a ||| b < 2 ^ 62 := Nat.or_lt_two_pow (by omega) (by omega)
  have h1 : (BitVec.ofInt 64 (a : Int)).toNat = a := by
    rw [BitVec.ofInt_natCast, BitVec.toNat_ofNat]; exact Nat.mod_eq_of_lt (by omega)
  have h2 : (BitVec.ofInt 64 (b : Int)).toNat = b := by
    rw [BitVec.ofInt_natCast, BitVec.toNat_ofNat]; exact Nat.mod_eq_of_lt (by omega)
  show IntKind.i64.wrap ((BitVec.ofInt 64 (a : Int) ||| BitVec.ofInt 64 (b : Int)).toNat : Int) = _
  rw [BitVec.toNat_or, h1, h2, IntKind.wrap_i64]
  omega
theorem or16 (v d : Nat) (hv : v < 65536) (hd : d < 16) : bits .or .i64 ((v : Int) * 16) (d : Int) = (v : Int) * 16 + d := by
  have h1 := bits_or_i64 (v * 16) d (by omega) (by omega)
  have h2 := Nat.two_pow_add_eq_or_of_lt (i := 4) (b := d) (by omega) v
  rw [show v * 16 = 2 ^ 4 * v by omega, ← h2] at h1
  rw [show (v : Int) * 16 = ((2 ^ 4 * v : Nat) : Int) by omega, h1]
  omega
set_option maxHeartbeats 800000 in
theorem digit_no (w : World) (b o x : Nat) (hx : hexV x = none) :
    Calls Try.prog 42 #[.pointer (some ⟨b, o, none⟩), .int .u8 x] w fun e w' => e = .returned (.tuple #[.string ⟨#[]⟩, .int .i64 2]) ∧ w = w' := by
  have hH := hexDigit_any x
  have he : hexR x = (0, false) := by unfold hexR; rw [hx]
  rw [he] at hH
  have HH := Lib.hid hH
  clear hH he hx
  go_enter Try.func42, Try.ntmps42
  go_wp2_with fail
  refine (HH.out _).mono ?_
  rintro e w' ⟨rfl, rfl⟩
  go_wp2
  go_ret2
  exact ⟨rfl, rfl⟩
theorem two_set {w : World} {b o s c h : Nat} (h0 : At w b (o + 5) (tail3 s c h)) (c' s' : Int) :
    At ((w.setCell ⟨b, o + 6, none⟩ (.int .i64 c')).setCell ⟨b, o + 5, none⟩ (.int .i64 s')) b (o + 5) [.int .i64 s', .int .i64 c', .int .i64 h] ∧
    Sub b (o + 5) 3 w ((w.setCell ⟨b, o + 6, none⟩ (.int .i64 c')).setCell ⟨b, o + 5, none⟩ (.int .i64 s')) := by
  have e1 := h0.set 1 (by simp) (.int .i64 c')
  have e2 := e1.set 0 (by simp) (.int .i64 s')
  exact ⟨e2, (sub_setCell w (o + 6) _ (by omega)).setCell (o + 5) _ (by omega)⟩
set_option maxRecDepth 100000 in
set_option maxHeartbeats 800000 in
theorem digit_mid (w : World) (b o n v hi x d : Nat) (hx : hexV x = some d) (hn : n < 5) (hv : v < 65536) (h : At w b (o + 5) (tail3 n v hi)) :
    Calls Try.prog 42 #[.pointer (some ⟨b, o, none⟩), .int .u8 x] w fun e w' => e = .returned (.tuple #[.string ⟨#[]⟩, .int .i64 0]) ∧ At w' b (o + 5) (tail3 (n + 1) (v * 16 + d) hi) ∧ Sub b (o + 5) 3 w w' := by
  obtain ⟨⟨hc0, hf0⟩, ⟨hc1, hf1⟩, hc2, hf2⟩ := h.tail
  have hH := hexDigit_any x
  have he : hexR x = (d, true) := by unfold hexR; rw [hx]
  rw [he] at hH
  have HH := Lib.hid hH
  have hd := (hexV_lt hx).1
  have hor := or16 v d hv hd
  have hP := two_set h ((v : Int) * 16 + d) ((n : Int) + 1)
  have HP := Lib.hid hP
  have hlt : ((n : Int) + 1 < 6) = True := by simp only [eq_iff_iff, iff_true]; omega
  clear hH he hx h hP
  go_enter Try.func42, Try.ntmps42
  go_wp2_with fail
  refine (HH.out _).mono ?_
  rintro e w' ⟨rfl, rfl⟩
  go_wp2
  go_ret2
  refine ⟨rfl, ?_, HP.out.2⟩
  have := HP.out.1
  unfold tail3
  rw [show ((n + 1 : Nat) : Int) = (n : Int) + 1 by omega, show ((v * 16 + d : Nat) : Int) = (v : Int) * 16 + d by omega]
  exact this
set_option maxRecDepth 100000 in
set_option maxHeartbeats 800000 in
theorem digit_end (w : World) (b o v hi x d c : Nat) (R : Value × Value) (hx : hexV x = some d) (hv : v < 65536) (h : At w b (o + 5) (tail3 5 v hi))
    (hE : ∀ w1 : World, At w1 b (o + 5) (tail3 6 (v * 16 + d) hi) → Calls Try.prog 49 #[.pointer (some ⟨b, o, none⟩)] w1 fun e w' => e = .returned (.tuple #[R.1, R.2]) ∧ EndPost w1 b o c w') :
    Calls Try.prog 42 #[.pointer (some ⟨b, o, none⟩), .int .u8 x] w fun e w' => e = .returned (.tuple #[R.1, R.2]) ∧ EndPost w b o c w' := by
  obtain ⟨⟨hc0', hf0⟩, ⟨hc1, hf1⟩, hc2, hf2⟩ := h.tail
  have hc0 : w.cell? ⟨b, o + 5, none⟩ = some (.int .i64 5) := hc0'
  clear hc0'
  obtain ⟨R1, R2⟩ := R
  simp only [] at hE ⊢
  have hH := hexDigit_any x
  have he : hexR x = (d, true) := by unfold hexR; rw [hx]
  rw [he] at hH
  have HH := Lib.hid hH
  have hd := (hexV_lt hx).1
  have hor := or16 v d hv hd
  have hP := two_set h ((v : Int) * 16 + d) 6
  have hA := hE _ (by
    unfold tail3
    rw [show ((v * 16 + d : Nat) : Int) = (v : Int) * 16 + d by omega]
    exact hP.1)
  have HE := Lib.hid hA
  have HP := Lib.hid hP.2
  clear hH he hx h hP hE hA
  go_enter Try.func42, Try.ntmps42
  go_wp2_with fail
  refine (HH.out _).mono ?_
  rintro e w' ⟨rfl, rfl⟩
  go_wp2_with fail
  refine HE.out.mono ?_
  rintro e w' ⟨rfl, hp⟩
  go_wp2
  go_ret2
  exact ⟨rfl, hp.1, HP.out.trans hp.2⟩
theorem one_set {w : World} {b o s c h : Nat} (h0 : At w b (o + 5) (tail3 s c h)) (s' : Int) :
    At (w.setCell ⟨b, o + 5, none⟩ (.int .i64 s')) b (o + 5) [.int .i64 s', .int .i64 c, .int .i64 h] ∧ Sub b (o + 5) 3 w (w.setCell ⟨b, o + 5, none⟩ (.int .i64 s')) :=
  ⟨h0.set 0 (by simp) (.int .i64 s'), sub_setCell w (o + 5) _ (by omega)⟩
set_option maxHeartbeats 800000 in
theorem open_u (w : World) (b o s c hi : Nat) (h : At w b (o + 5) (tail3 s c hi)) :
    Calls Try.prog 41 #[.pointer (some ⟨b, o, none⟩), .int .u8 117] w fun e w' => e = .returned (.tuple #[.string ⟨#[]⟩, .int .i64 0]) ∧ At w' b (o + 5) (tail3 2 c hi) ∧ Sub b (o + 5) 3 w w' := by
  obtain ⟨⟨hc0, hf0⟩, ⟨hc1, hf1⟩, hc2, hf2⟩ := h.tail
  have HP := Lib.hid (one_set h 2)
  clear h
  go_enter Try.func41, Try.ntmps41
  go_wp2
  go_ret2
  exact ⟨rfl, HP.out⟩
set_option maxHeartbeats 800000 in
theorem open_short (w : World) (b o s c hi x y : Nat) (hx : shortOf x = some y) (h : At w b (o + 5) (tail3 s c hi)) :
    Calls Try.prog 41 #[.pointer (some ⟨b, o, none⟩), .int .u8 x] w fun e w' => e = .returned (.tuple #[.string ⟨#[UInt8.ofNat y]⟩, .int .i64 0]) ∧ At w' b (o + 5) (tail3 0 c hi) ∧ Sub b (o + 5) 3 w w' := by
  obtain ⟨⟨hc0, hf0⟩, ⟨hc1, hf1⟩, hc2, hf2⟩ := h.tail
  have HP := Lib.hid (one_set h 0)
  have hM := meant_any x
  have he : shortL x = [UInt8.ofNat y] := by unfold shortL; rw [hx]
  rw [he] at hM
  have h117 : ((x : Int) == 117) = false := by
    rw [beq_eq_false_iff_ne]
    intro e
    have : x = 117 := by omega
    subst this
    rw [show shortOf 117 = none by decide] at hx
    cases hx
  have HM := Lib.hid hM
  obtain ⟨z, hz⟩ : ∃ z : ByteArray, z = ⟨#[UInt8.ofNat y]⟩ := ⟨_, rfl⟩
  have hz1 : z.toList = [UInt8.ofNat y] := by rw [hz, ByteArray.toList_eq]
  have hz2 : z.toList.isEmpty = false := by rw [hz1]; rfl
  have hz3 : (z.toList = []) = False := by rw [hz1]; simp
  have HM' : Hid (∀ w, Calls Try.prog 48 #[.int .u8 x] w fun e w' => e = .returned (.string z) ∧ w = w') := Lib.hid (by rw [hz]; exact HM.out)
  rw [← hz]
  clear h hM he hx HM hz hz1
  go_enter Try.func41, Try.ntmps41
  go_wp2_with fail
  refine (HM'.out _).mono ?_
  rintro e w' ⟨rfl, rfl⟩
  go_wp2
  go_ret2
  exact ⟨rfl, HP.out⟩
set_option maxHeartbeats 800000 in
theorem open_no (w : World) (b o x : Nat) (hx : shortOf x = none) (hu : x ≠ 117) :
    Calls Try.prog 41 #[.pointer (some ⟨b, o, none⟩), .int .u8 x] w fun e w' => e = .returned (.tuple #[.string ⟨#[]⟩, .int .i64 2]) ∧ w = w' := by
  have hM := meant_any x
  have he : shortL x = [] := by unfold shortL; rw [hx]
  rw [he] at hM
  have h117 : ((x : Int) == 117) = false := by rw [beq_eq_false_iff_ne]; omega
  have HM := Lib.hid hM
  clear hM he hx hu
  go_enter Try.func41, Try.ntmps41
  go_wp2_with fail
  refine (HM.out _).mono ?_
  rintro e w' ⟨rfl, rfl⟩
  go_wp2
  go_ret2
  exact ⟨rfl, rfl⟩
end Go.Proofs.Yteonbajndghfcaa
