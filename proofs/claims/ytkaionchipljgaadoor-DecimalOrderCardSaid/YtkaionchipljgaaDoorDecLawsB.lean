/-
  LAWS of chapter 6: DecimalOrder.
-/
import Derived.Test.YtkaionchipljgaaDoorDecLawsA
import Derived.Deep.RegionHeld3
namespace Go.Proofs.YtkaionchipljgaaDoor
open Go.RowKit
open Go.Lib
theorem run_at (D : ByteArray) (a : Nat) (h : a < D.size) (x : UInt8) (hx : D[a]'h = x) (W : World) : (Instr.index 9 (.string D) (.int .i64 (a : Int))).run Tryd.prog W = .ok (.int .u8 (x.toNat : Int)) W := by
  rw [run_index_string W 9 D .i64 (a : Int) Tryd.underlying9, dif_pos (by omega)]
  subst hx
  rfl
/-- Behind calls: the table stands, and what was there. -/
structure TB (w w' : World) : Prop where
  t : Tab w'
  b : Below w.heap.size w w'
theorem TB.go {w v v' : World} (h : TB w v) (k : Below v.heap.size v v') : TB w v' := ⟨h.t.below k, h.b.trans (k.mono h.b.size)⟩
theorem TB.drew {w v : World} (h : TB w v) : TB w v.drew := ⟨h.t.drew, h.b.drew⟩
/-- What the law meets of two numbers. -/
structure Ord (a b : Nat) (X Y N R : ByteArray) (Q : Bool) : Prop where
  px : ∀ w, Tab w → Calls Tryd.prog 11 #[.agg #[.bool false, .int .u64 a]] w fun e w' => e = .returned (.string X) ∧ Below w.heap.size w w'
  py : ∀ w, Tab w → Calls Tryd.prog 11 #[.agg #[.bool false, .int .u64 b]] w fun e w' => e = .returned (.string Y) ∧ Below w.heap.size w w'
  pn : ∀ w, Tab w → Calls Tryd.prog 11 #[.agg #[.bool true, .int .u64 a]] w fun e w' => e = .returned (.string N) ∧ Below w.heap.size w w'
  sx : X.size ≤ 20
  sy : Y.size ≤ 20
  sn : 2 ≤ N.size ∧ N.size ≤ 21
  ix : ∀ W : World, (Instr.index 9 (.string N) (.int .i64 0)).run Tryd.prog W = .ok (.int .u8 45) W
  sl : ∀ W : World, (Instr.slice 9 (.string N) (some (.int .i64 1)) none none).run Tryd.prog W = .ok (.string R) W
  less : Op.bytesLess X.toList Y.toList = Q
  way : X.size < Y.size ∧ a < b ∨ Y.size < X.size ∧ ¬ a < b ∨ X.size = Y.size ∧ Q = true ∧ a < b ∨ X.size = Y.size ∧ Q = false ∧ ¬ a < b
set_option maxHeartbeats 2000000 in
theorem order_max {a b : Nat} {X Y N R : ByteArray} {Q : Bool} (h : Ord a b X Y N R Q) (w : World) (hT : Tab w) (hm : a = 18446744073709551615) :
    Calls Tryd.prog 4 #[.int .u64 a, .int .u64 b] w fun e w' => e = .returned (.bool true) ∧ Below w.heap.size w w' := by
  obtain ⟨px, py, pn, sx, sy, ⟨sn1, sn2⟩, ix, sl, less, way⟩ := h
  have PX := Lib.hid px
  have PY := Lib.hid py
  have PN := Lib.hid pn
  have hRR : (R.toList == R.toList) = true := by simp
  have n1 : ((2 : Int) ≤ (N.size : Int)) = True := by simp; omega
  have hz : ((a : Int) == 18446744073709551615) = true := by rw [beq_iff_eq]; omega
  clear hm
  clear px py pn
  rcases way with ⟨w1, w2⟩ | ⟨w1, w2⟩ | ⟨w1, rfl, w2⟩ | ⟨w1, rfl, w2⟩
  · have hab : (a < b) = True := by simp; omega
    have z1 : ((X.size : Int) < (Y.size : Int)) = True := by simp; omega
    clear less
    clear w1 w2 sn1 sn2
    go_enter Tryd.func4, Tryd.ntmps4
    go_wp2_with fail
    refine (alive_any _ hT).mono ?_
    rintro e w1 ⟨rfl, b1⟩
    have T1 := Lib.hid (hT.below b1)
    have B1 := Lib.hid b1
    clear b1
    go_wp2_with fail
    refine (PX.out _ T1.out).mono ?_
    rintro e w2 ⟨rfl, b2⟩
    have T2 := Lib.hid (T1.out.below b2)
    have B2 := Lib.hid (B1.out.trans (b2.mono B1.out.size))
    clear b2
    go_wp2_with fail
    refine (PY.out _ T2.out).mono ?_
    rintro e w3 ⟨rfl, b3⟩
    have T3 := Lib.hid (T2.out.below b3)
    have B3 := Lib.hid (B2.out.trans (b3.mono B2.out.size))
    clear b3
    go_wp2_with fail
    refine (PN.out _ T3.out).mono ?_
    rintro e w4 ⟨rfl, b4⟩
    have T4 := Lib.hid (T3.out.below b4)
    have B4 := Lib.hid (B3.out.trans (b4.mono B3.out.size))
    clear b4
    go_wp2
    go_quiet (fail)
    go_wp2
    go_ret
    exact ⟨rfl, below_drewN B4.out _⟩
  · have hab : (a < b) = False := by simp; omega
    have z1 : ((X.size : Int) < (Y.size : Int)) = False := by simp; omega
    have z2 : ((X.size : Int) == (Y.size : Int)) = false := by rw [beq_eq_false_iff_ne]; omega
    clear less
    clear w1 w2 sn1 sn2
    go_enter Tryd.func4, Tryd.ntmps4
    go_wp2_with fail
    refine (alive_any _ hT).mono ?_
    rintro e w1 ⟨rfl, b1⟩
    have T1 := Lib.hid (hT.below b1)
    have B1 := Lib.hid b1
    clear b1
    go_wp2_with fail
    refine (PX.out _ T1.out).mono ?_
    rintro e w2 ⟨rfl, b2⟩
    have T2 := Lib.hid (T1.out.below b2)
    have B2 := Lib.hid (B1.out.trans (b2.mono B1.out.size))
    clear b2
    go_wp2_with fail
    refine (PY.out _ T2.out).mono ?_
    rintro e w3 ⟨rfl, b3⟩
    have T3 := Lib.hid (T2.out.below b3)
    have B3 := Lib.hid (B2.out.trans (b3.mono B2.out.size))
    clear b3
    go_wp2_with fail
    refine (PN.out _ T3.out).mono ?_
    rintro e w4 ⟨rfl, b4⟩
    have T4 := Lib.hid (T3.out.below b4)
    have B4 := Lib.hid (B3.out.trans (b4.mono B3.out.size))
    clear b4
    go_wp2
    go_quiet (fail)
    go_wp2
    go_ret
    exact ⟨rfl, below_drewN B4.out _⟩
  · have hab : (a < b) = True := by simp; omega
    have z1 : ((X.size : Int) < (Y.size : Int)) = False := by simp; omega
    have z2 : ((X.size : Int) == (Y.size : Int)) = true := by rw [beq_iff_eq]; omega
    clear w1 w2 sn1 sn2
    go_enter Tryd.func4, Tryd.ntmps4
    go_wp2_with fail
    refine (alive_any _ hT).mono ?_
    rintro e w1 ⟨rfl, b1⟩
    have T1 := Lib.hid (hT.below b1)
    have B1 := Lib.hid b1
    clear b1
    go_wp2_with fail
    refine (PX.out _ T1.out).mono ?_
    rintro e w2 ⟨rfl, b2⟩
    have T2 := Lib.hid (T1.out.below b2)
    have B2 := Lib.hid (B1.out.trans (b2.mono B1.out.size))
    clear b2
    go_wp2_with fail
    refine (PY.out _ T2.out).mono ?_
    rintro e w3 ⟨rfl, b3⟩
    have T3 := Lib.hid (T2.out.below b3)
    have B3 := Lib.hid (B2.out.trans (b3.mono B2.out.size))
    clear b3
    go_wp2_with fail
    refine (PN.out _ T3.out).mono ?_
    rintro e w4 ⟨rfl, b4⟩
    have T4 := Lib.hid (T3.out.below b4)
    have B4 := Lib.hid (B3.out.trans (b4.mono B3.out.size))
    clear b4
    go_wp2
    go_quiet (fail)
    go_wp2
    go_ret
    exact ⟨rfl, below_drewN B4.out _⟩
  · have hab : (a < b) = False := by simp; omega
    have z1 : ((X.size : Int) < (Y.size : Int)) = False := by simp; omega
    have z2 : ((X.size : Int) == (Y.size : Int)) = true := by rw [beq_iff_eq]; omega
    clear w1 w2 sn1 sn2
    go_enter Tryd.func4, Tryd.ntmps4
    go_wp2_with fail
    refine (alive_any _ hT).mono ?_
    rintro e w1 ⟨rfl, b1⟩
    have T1 := Lib.hid (hT.below b1)
    have B1 := Lib.hid b1
    clear b1
    go_wp2_with fail
    refine (PX.out _ T1.out).mono ?_
    rintro e w2 ⟨rfl, b2⟩
    have T2 := Lib.hid (T1.out.below b2)
    have B2 := Lib.hid (B1.out.trans (b2.mono B1.out.size))
    clear b2
    go_wp2_with fail
    refine (PY.out _ T2.out).mono ?_
    rintro e w3 ⟨rfl, b3⟩
    have T3 := Lib.hid (T2.out.below b3)
    have B3 := Lib.hid (B2.out.trans (b3.mono B2.out.size))
    clear b3
    go_wp2_with fail
    refine (PN.out _ T3.out).mono ?_
    rintro e w4 ⟨rfl, b4⟩
    have T4 := Lib.hid (T3.out.below b4)
    have B4 := Lib.hid (B3.out.trans (b4.mono B3.out.size))
    clear b4
    go_wp2
    go_quiet (fail)
    go_wp2
    go_ret
    exact ⟨rfl, below_drewN B4.out _⟩
set_option maxHeartbeats 2000000 in
theorem order_less {a b : Nat} {X Y N R : ByteArray} {Q : Bool} (h : Ord a b X Y N R Q) (w : World) (hT : Tab w) (c : Nat) (hm : a < 18446744073709551615) (hc : c = a + 1) (pa : ∀ w, Tab w → Calls Tryd.prog 11 #[.agg #[.bool false, .int .u64 c]] w fun e w' => e = .returned (.string R) ∧ Below w.heap.size w w') :
    Calls Tryd.prog 4 #[.int .u64 a, .int .u64 b] w fun e w' => e = .returned (.bool true) ∧ Below w.heap.size w w' := by
  obtain ⟨px, py, pn, sx, sy, ⟨sn1, sn2⟩, ix, sl, less, way⟩ := h
  have PX := Lib.hid px
  have PY := Lib.hid py
  have PN := Lib.hid pn
  have hRR : (R.toList == R.toList) = true := by simp
  have n1 : ((2 : Int) ≤ (N.size : Int)) = True := by simp; omega
  have hz : ((a : Int) == 18446744073709551615) = false := by rw [beq_eq_false_iff_ne]; omega
  have hw : IntKind.u64.wrap ((a : Int) + 1) = (c : Int) := by rw [wrap_u64_of _ (by omega) (by omega)]; omega
  have PA : Hid (∀ v, TB w v → Calls Tryd.prog 11 #[.agg #[.bool false, .int .u64 c]] v fun e v' => e = .returned (.string R) ∧ TB w v') := Lib.hid fun v hv => (pa v hv.t).mono (by rintro e v' ⟨rfl, k⟩; exact ⟨rfl, hv.go k⟩)
  clear hm hc pa
  clear px py pn
  rcases way with ⟨w1, w2⟩ | ⟨w1, w2⟩ | ⟨w1, rfl, w2⟩ | ⟨w1, rfl, w2⟩
  · have hab : (a < b) = True := by simp; omega
    have z1 : ((X.size : Int) < (Y.size : Int)) = True := by simp; omega
    clear less
    clear w1 w2 sn1 sn2
    go_enter Tryd.func4, Tryd.ntmps4
    go_wp2_with fail
    refine (alive_any _ hT).mono ?_
    rintro e w1 ⟨rfl, b1⟩
    have T1 := Lib.hid (hT.below b1)
    have B1 := Lib.hid b1
    clear b1
    go_wp2_with fail
    refine (PX.out _ T1.out).mono ?_
    rintro e w2 ⟨rfl, b2⟩
    have T2 := Lib.hid (T1.out.below b2)
    have B2 := Lib.hid (B1.out.trans (b2.mono B1.out.size))
    clear b2
    go_wp2_with fail
    refine (PY.out _ T2.out).mono ?_
    rintro e w3 ⟨rfl, b3⟩
    have T3 := Lib.hid (T2.out.below b3)
    have B3 := Lib.hid (B2.out.trans (b3.mono B2.out.size))
    clear b3
    go_wp2_with fail
    refine (PN.out _ T3.out).mono ?_
    rintro e w4 ⟨rfl, b4⟩
    have T4 := Lib.hid (T3.out.below b4)
    have B4 := Lib.hid (B3.out.trans (b4.mono B3.out.size))
    clear b4
    go_wp2
    have HS : TB w w4.drew := TB.drew ⟨T4.out, B4.out⟩
    go_region_held3 (TB w) (first | assumption)
      (first | ((go_at_call 11); (with_reducible refine (PA.out _ (by assumption)).mono ?_); rintro e v1 ⟨rfl, b5⟩))
    all_goals
      go_wp2
      go_ret
      exact ⟨rfl, TB.b (by assumption)⟩
  · have hab : (a < b) = False := by simp; omega
    have z1 : ((X.size : Int) < (Y.size : Int)) = False := by simp; omega
    have z2 : ((X.size : Int) == (Y.size : Int)) = false := by rw [beq_eq_false_iff_ne]; omega
    clear less
    clear w1 w2 sn1 sn2
    go_enter Tryd.func4, Tryd.ntmps4
    go_wp2_with fail
    refine (alive_any _ hT).mono ?_
    rintro e w1 ⟨rfl, b1⟩
    have T1 := Lib.hid (hT.below b1)
    have B1 := Lib.hid b1
    clear b1
    go_wp2_with fail
    refine (PX.out _ T1.out).mono ?_
    rintro e w2 ⟨rfl, b2⟩
    have T2 := Lib.hid (T1.out.below b2)
    have B2 := Lib.hid (B1.out.trans (b2.mono B1.out.size))
    clear b2
    go_wp2_with fail
    refine (PY.out _ T2.out).mono ?_
    rintro e w3 ⟨rfl, b3⟩
    have T3 := Lib.hid (T2.out.below b3)
    have B3 := Lib.hid (B2.out.trans (b3.mono B2.out.size))
    clear b3
    go_wp2_with fail
    refine (PN.out _ T3.out).mono ?_
    rintro e w4 ⟨rfl, b4⟩
    have T4 := Lib.hid (T3.out.below b4)
    have B4 := Lib.hid (B3.out.trans (b4.mono B3.out.size))
    clear b4
    go_wp2
    have HS : TB w w4.drew := TB.drew ⟨T4.out, B4.out⟩
    go_region_held3 (TB w) (first | assumption)
      (first | ((go_at_call 11); (with_reducible refine (PA.out _ (by assumption)).mono ?_); rintro e v1 ⟨rfl, b5⟩))
    all_goals
      go_wp2
      go_ret
      exact ⟨rfl, TB.b (by assumption)⟩
  · have hab : (a < b) = True := by simp; omega
    have z1 : ((X.size : Int) < (Y.size : Int)) = False := by simp; omega
    have z2 : ((X.size : Int) == (Y.size : Int)) = true := by rw [beq_iff_eq]; omega
    clear w1 w2 sn1 sn2
    go_enter Tryd.func4, Tryd.ntmps4
    go_wp2_with fail
    refine (alive_any _ hT).mono ?_
    rintro e w1 ⟨rfl, b1⟩
    have T1 := Lib.hid (hT.below b1)
    have B1 := Lib.hid b1
    clear b1
    go_wp2_with fail
    refine (PX.out _ T1.out).mono ?_
    rintro e w2 ⟨rfl, b2⟩
    have T2 := Lib.hid (T1.out.below b2)
    have B2 := Lib.hid (B1.out.trans (b2.mono B1.out.size))
    clear b2
    go_wp2_with fail
    refine (PY.out _ T2.out).mono ?_
    rintro e w3 ⟨rfl, b3⟩
    have T3 := Lib.hid (T2.out.below b3)
    have B3 := Lib.hid (B2.out.trans (b3.mono B2.out.size))
    clear b3
    go_wp2_with fail
    refine (PN.out _ T3.out).mono ?_
    rintro e w4 ⟨rfl, b4⟩
    have T4 := Lib.hid (T3.out.below b4)
    have B4 := Lib.hid (B3.out.trans (b4.mono B3.out.size))
    clear b4
    go_wp2
    have HS : TB w w4.drew := TB.drew ⟨T4.out, B4.out⟩
    go_region_held3 (TB w) (first | assumption)
      (first | ((go_at_call 11); (with_reducible refine (PA.out _ (by assumption)).mono ?_); rintro e v1 ⟨rfl, b5⟩))
    all_goals
      go_wp2
      go_ret
      exact ⟨rfl, TB.b (by assumption)⟩
  · have hab : (a < b) = False := by simp; omega
    have z1 : ((X.size : Int) < (Y.size : Int)) = False := by simp; omega
    have z2 : ((X.size : Int) == (Y.size : Int)) = true := by rw [beq_iff_eq]; omega
    clear w1 w2 sn1 sn2
    go_enter Tryd.func4, Tryd.ntmps4
    go_wp2_with fail
    refine (alive_any _ hT).mono ?_
    rintro e w1 ⟨rfl, b1⟩
    have T1 := Lib.hid (hT.below b1)
    have B1 := Lib.hid b1
    clear b1
    go_wp2_with fail
    refine (PX.out _ T1.out).mono ?_
    rintro e w2 ⟨rfl, b2⟩
    have T2 := Lib.hid (T1.out.below b2)
    have B2 := Lib.hid (B1.out.trans (b2.mono B1.out.size))
    clear b2
    go_wp2_with fail
    refine (PY.out _ T2.out).mono ?_
    rintro e w3 ⟨rfl, b3⟩
    have T3 := Lib.hid (T2.out.below b3)
    have B3 := Lib.hid (B2.out.trans (b3.mono B2.out.size))
    clear b3
    go_wp2_with fail
    refine (PN.out _ T3.out).mono ?_
    rintro e w4 ⟨rfl, b4⟩
    have T4 := Lib.hid (T3.out.below b4)
    have B4 := Lib.hid (B3.out.trans (b4.mono B3.out.size))
    clear b4
    go_wp2
    have HS : TB w w4.drew := TB.drew ⟨T4.out, B4.out⟩
    go_region_held3 (TB w) (first | assumption)
      (first | ((go_at_call 11); (with_reducible refine (PA.out _ (by assumption)).mono ?_); rintro e v1 ⟨rfl, b5⟩))
    all_goals
      go_wp2
      go_ret
      exact ⟨rfl, TB.b (by assumption)⟩
theorem slice_tail (x : UInt8) (l : List UInt8) (W : World) : (Instr.slice 9 (.string ⟨(x :: l).toArray⟩) (some (.int .i64 1)) none none).run Tryd.prog W = .ok (.string ⟨l.toArray⟩) W := by
  have hs : (⟨(x :: l).toArray⟩ : ByteArray).size = l.length + 1 := size_of _
  rw [run_slice_string_l W 9 ⟨(x :: l).toArray⟩ Tryd.underlying9 .i64 1 (by omega) (by rw [hs]; omega)]
  congr 2
  apply ByteArray.ext
  apply Array.toList_inj.1
  rw [ByteArray.data_extract, hs]
  simp
theorem list_data (s : ByteArray) : s.toList = s.data.toList := by rw [ByteArray.toList_eq]
theorem order_any (a b : Nat) (ha : a < 18446744073709551616) (hb : b < 18446744073709551616) (w : World) (hT : Tab w) :
    Calls Tryd.prog 4 #[.int .u64 a, .int .u64 b] w fun e w' => e = .returned (.bool true) ∧ Below w.heap.size w w' := by
  have hl : ∀ n, n < 18446744073709551617 → (⟨(decDigits n).toArray⟩ : ByteArray).size = nDigits n := fun n h => by rw [size_of, decDigits_length]
  have h20 : ∀ n, n < 18446744073709551617 → nDigits n ≤ 20 := fun n h => nDigits_le n (by omega)
  have ho := order_dec a b
  have hN : (⟨(45 :: decDigits (a + 1)).toArray⟩ : ByteArray).size = nDigits (a + 1) + 1 := by rw [size_of, List.length_cons, decDigits_length]
  have hO : Ord a b ⟨(decDigits a).toArray⟩ ⟨(decDigits b).toArray⟩ ⟨(45 :: decDigits (a + 1)).toArray⟩ ⟨(decDigits (a + 1)).toArray⟩ (Op.bytesLess (decDigits a) (decDigits b)) := by
    refine ⟨fun w hT => print_pos a ha w hT, fun w hT => print_pos b hb w hT, fun w hT => print_any true a ha w hT, ?_, ?_, ?_, ?_, ?_, ?_, ?_⟩
    · rw [hl a (by omega)]; exact h20 a (by omega)
    · rw [hl b (by omega)]; exact h20 b (by omega)
    · rw [hN]
      have := nDigits_pos (a + 1)
      have := h20 (a + 1) (by omega)
      omega
    · exact fun W => run_at _ 0 (by rw [hN]; omega) 45 rfl W
    · exact fun W => slice_tail 45 _ W
    · rw [list_data, list_data]
    · rw [hl a (by omega), hl b (by omega)]
      by_cases h : a < b
      · rcases ho.2 h with h1 | ⟨h1, h2⟩
        · exact .inl ⟨h1, h⟩
        · exact .inr (.inr (.inl ⟨h1, h2, h⟩))
      · by_cases h1 : nDigits a = nDigits b
        · refine .inr (.inr (.inr ⟨h1, ?_, h⟩))
          cases hq : Op.bytesLess (decDigits a) (decDigits b) with
          | false => rfl
          | true => exact absurd (ho.1 (.inr ⟨h1, hq⟩)) h
        · refine .inr (.inl ⟨?_, h⟩)
          have := nDigits_mono b a (by omega)
          omega
  by_cases hm : a = 18446744073709551615
  · exact order_max hO w hT hm
  · exact order_less hO w hT (a + 1) (by omega) rfl fun w hT => print_pos (a + 1) (by omega) w hT
end Go.Proofs.YtkaionchipljgaaDoor
