/-
  LAWS of chapter 6: DecimalSigns.
-/
import Derived.Test.YtkaionchipljgaaDoorDecAlive
namespace Go.Proofs.YtkaionchipljgaaDoor
open Go.RowKit
open Go.Lib
/-- A text behind a minus. -/
structure Mns (v : Nat) (X N : ByteArray) : Prop where
  cat : (⟨#[45]⟩ : ByteArray) ++ X = N
  sx : X.size ≤ 20
  sn : N.size ≤ 21
  pr : ∀ w, Tab w → Calls Tryd.prog 11 #[.agg #[.bool false, .int .u64 v]] w fun e w' => e = .returned (.string X) ∧ Below w.heap.size w w'
theorem mns_of (v : Nat) (hv : v < 18446744073709551616) : ∃ X N, Mns v X N ∧ N = ⟨(45 :: decDigits v).toArray⟩ := by
  have hl : (decDigits v).length ≤ 20 := by rw [decDigits_length]; exact nDigits_le v (by omega)
  refine ⟨⟨(decDigits v).toArray⟩, ⟨(45 :: decDigits v).toArray⟩, ⟨cat_of [45] _, by rw [size_of]; exact hl, by rw [size_of]; simp; omega, fun w hT => print_pos v hv w hT⟩, rfl⟩
set_option maxHeartbeats 1000000 in
theorem signs_zero (w : World) (hT : Tab w) (X N : ByteArray) (h : Mns 0 X N) (hp : ∀ w, Calls Tryd.prog 10 #[.string N] w fun r w' => r = .returned (.tuple #[.agg #[.bool false, .int .u64 0], .int .i64 0]) ∧ Below w.heap.size w w') :
    Calls Tryd.prog 8 #[.int .u64 0] w fun e w' => e = .returned (.bool true) ∧ Below w.heap.size w w' := by
  obtain ⟨hcat, hsx, hsn, hpr⟩ := h
  have HP := Lib.hid hp
  have HPR := Lib.hid hpr
  clear hp hpr
  go_enter Tryd.func8, Tryd.ntmps8
  go_wp2_with fail
  refine (alive_any _ hT).mono ?_
  rintro e w1 ⟨rfl, b1⟩
  have T1 := Lib.hid (hT.below b1)
  have B1 := Lib.hid b1
  clear b1
  go_wp2_with fail
  refine (HPR.out _ T1.out).mono ?_
  rintro e w2 ⟨rfl, b2⟩
  have B2 := Lib.hid (B1.out.trans (b2.mono B1.out.size))
  clear b2
  go_wp2_with fail
  refine (HP.out _).mono ?_
  rintro e w3 ⟨rfl, b3⟩
  have B3 := Lib.hid (B2.out.trans (b3.mono B2.out.size))
  clear b3
  go_wp2
  go_ret
  exact ⟨rfl, B3.out.alloc B3.out.size _⟩
set_option maxHeartbeats 1000000 in
theorem signs_pos (v : Nat) (hv : v < 18446744073709551616) (w : World) (hT : Tab w) (X N : ByteArray) (h : Mns v X N) (u : Nat) (hu : v = u + 1)
    (hp : ∀ w, Calls Tryd.prog 10 #[.string N] w fun r w' => r = .returned (.tuple #[.agg #[.bool true, .int .u64 u], .int .i64 0]) ∧ Below w.heap.size w w')
    (hq : ∀ w, Tab w → Calls Tryd.prog 11 #[.agg #[.bool true, .int .u64 u]] w fun e w' => e = .returned (.string N) ∧ Below w.heap.size w w') :
    Calls Tryd.prog 8 #[.int .u64 v] w fun e w' => e = .returned (.bool true) ∧ Below w.heap.size w w' := by
  obtain ⟨hcat, hsx, hsn, hpr⟩ := h
  have HP := Lib.hid hp
  have HPR := Lib.hid hpr
  have HQ := Lib.hid hq
  have hz : ((v : Int) == 0) = false := by rw [beq_eq_false_iff_ne]; omega
  have hw : IntKind.u64.wrap ((v : Int) - 1) = (u : Int) := by rw [wrap_u64_of _ (by omega) (by omega)]; omega
  have hNN : (N.toList == N.toList) = true := by simp
  clear hp hpr hq hv hu
  go_enter Tryd.func8, Tryd.ntmps8
  go_wp2_with fail
  refine (alive_any _ hT).mono ?_
  rintro e w1 ⟨rfl, b1⟩
  have T1 := Lib.hid (hT.below b1)
  have B1 := Lib.hid b1
  clear b1
  go_wp2_with fail
  refine (HPR.out _ T1.out).mono ?_
  rintro e w2 ⟨rfl, b2⟩
  have T2 := Lib.hid (T1.out.below b2)
  have B2 := Lib.hid (B1.out.trans (b2.mono B1.out.size))
  clear b2
  go_wp2_with fail
  refine (HP.out _).mono ?_
  rintro e w3 ⟨rfl, b3⟩
  have T3 := Lib.hid ((T2.out.below b3).alloc (.cells #[.bool true, .int .u64 u] 24))
  have B3 := Lib.hid (B2.out.trans (b3.mono B2.out.size))
  clear b3
  go_wp2_with fail
  refine (HQ.out _ T3.out).mono ?_
  rintro e w4 ⟨rfl, b4⟩
  have B4 := Lib.hid ((B3.out.alloc B3.out.size _).trans (b4.mono (by have := B3.out.size; simp; omega)))
  clear b4
  go_wp2
  go_ret
  exact ⟨rfl, B4.out⟩
theorem signs_any (v : Nat) (hv : v < 18446744073709551616) (w : World) (hT : Tab w) :
    Calls Tryd.prog 8 #[.int .u64 v] w fun e w' => e = .returned (.bool true) ∧ Below w.heap.size w w' := by
  obtain ⟨X, N, hM, hN⟩ := mns_of v hv
  have hpar : parseD d0 N.data.toList = endD (atD 1 true v) := by
    rw [hN]
    have := (runs_neg v).all
    simpa using this
  by_cases h0 : v = 0
  · subst h0
    exact signs_zero w hT X N hM fun w => parse_lit N w false 0 0 hpar
  · refine signs_pos v hv w hT X N hM (v - 1) (by omega) (fun w => parse_lit N w true (v - 1) 0 ?_) fun w hT => print_lit true (v - 1) N w (by omega) hT ?_
    · rw [hpar]
      unfold atD endD
      rw [if_neg h0]
      simp only []
      rw [if_neg (by omega), if_pos ⟨by trivial, by omega⟩, if_pos (by omega)]
    · rw [hN]
      show _ = (⟨(45 :: decDigits (v - 1 + 1)).toArray⟩ : ByteArray)
      rw [show v - 1 + 1 = v by omega]
end Go.Proofs.YtkaionchipljgaaDoor
