/-
  LAWS of chapter 7: HeadLong.
-/
import Derived.Test.YtkclpolgadlbhaaHeadLawsA
import Derived.Deep.DeepCutAuto
import Derived.Deep.RegionWith
namespace Go.Proofs.Ytkclpolgadlbhaa
open Go.RowKit
open Go.Lib
theorem HMid.keep {w wr w2 : World} {b k : Nat} {l : List UInt8} (h : HMid w b l k wr) (hb : Below wr.heap.size wr w2) : HMid w b l k w2 :=
  ⟨h.at_.below hb h.at_.lt, h.bl.trans (hb.mono h.bl.size), h.le⟩
theorem mod4_ref (a : Int) : (wrap64 (a.tmod 4 + 4)).tmod 4 = ((a % 4).toNat : Int) := by
  have h1 := Int.tmod_lt_of_pos a (show (0 : Int) < 4 by omega)
  have h2 : -(4 : Int) < a.tmod 4 := Int.lt_tmod_of_pos a (show (0 : Int) < 4 by omega)
  have h0 : a.tmod 4 = a % 4 ∨ a.tmod 4 = a % 4 - 4 := by
    rw [Int.tmod_eq_emod]
    split
    · exact .inl (by omega)
    · exact .inr rfl
  have hw : wrap64 (a.tmod 4 + 4) = a.tmod 4 + 4 := by unfold wrap64; omega
  rw [hw, Int.tmod_eq_emod_of_nonneg (by omega)]
  omega
set_option maxHeartbeats 2000000 in
theorem long_out0 (n j : Int) (v : Nat) (hj : (wrap64 (j.tmod 4 + 4)).tmod 4 = 0) (hv : 256 ≤ v) (w : World) :
    Calls Try.prog 6 #[.int .i64 n, .int .u64 v, .int .i64 j] w fun e w' => e = .returned (.bool true) ∧ Below w.heap.size w w' := by
  have d : ((256 : Int) ≤ (v : Int)) = True := by simp only [eq_iff_iff, iff_true]; omega
  clear hv
  go_enter Try.func6, Try.ntmps6
  go_wp2_with fail
  refine (alive_any _).mono ?_
  rintro e w1 ⟨rfl, b1⟩
  go_wp2
  go_ret
  exact ⟨rfl, b1⟩
set_option maxRecDepth 100000 in
set_option maxHeartbeats 4000000 in
theorem long_0 (n j : Int) (v : Nat) (hj : (wrap64 (j.tmod 4 + 4)).tmod 4 = 0) (hv : v < 256) (w : World) :
    Calls Try.prog 6 #[.int .i64 n, .int .u64 v, .int .i64 j] w fun e w' => e = .returned (.bool true) ∧ Below w.heap.size w w' := by
  have d : ((256 : Int) ≤ (v : Int)) = False := by simp only [eq_iff_iff, iff_false]; omega
  have ha := mod8_ref n
  obtain ⟨m, hm⟩ : ∃ m, (n % 8).toNat = m := ⟨_, rfl⟩
  have hm8 : m < 8 := by omega
  rw [hm] at ha
  have hO := hok_long m 0 v hm8 (by omega) (by simp; omega)
  have hwa : IntKind.u8.wrap ((m : Int) * 32 + 24) = (m : Int) * 32 + 24 := wrapI_u8 _ (by omega) (by omega)
  have hwb : IntKind.u8.wrap 0 = 0 := by decide
  have hwk : IntKind.i64.wrap 1 = 1 := by decide
  have hBg := fun W => big_lit v 1 1 v rfl rfl (by omega) (by omega) _ rfl W
  have hc : (m : Int) * 32 + 24 = (((UInt8.ofNat (m * 32 + (24 + 0))).toNat : Nat) : Int) := by simp; omega
  have s2 : (⟨(bigB 1 v).toArray⟩ : ByteArray).size = 1 := by rw [ba_size, bigB_length]
  have hXY : (⟨#[UInt8.ofNat (m * 32 + (24 + 0))]⟩ : ByteArray) ++ ⟨(bigB 1 v).toArray⟩ = ⟨(UInt8.ofNat (m * 32 + (24 + 0)) :: bigB 1 v).toArray⟩ := by
    rw [show (⟨#[UInt8.ofNat (m * 32 + (24 + 0))]⟩ : ByteArray) = ⟨[UInt8.ofNat (m * 32 + (24 + 0))].toArray⟩ from rfl, ba_append]
    rfl
  rw [show 2 ^ 0 = 1 from rfl] at hO
  generalize (UInt8.ofNat (m * 32 + (24 + 0))) = x0 at *
  have s1 : (⟨#[x0]⟩ : ByteArray).size = 1 := rfl
  generalize bigB 1 v = t at *
  have hHO : ∀ (W W2 : World), Below (W.alloc (.cells #[.int .u8 ((m : Int) * 32 + 24)] 5)).drew.heap.size (W.alloc (.cells #[.int .u8 ((m : Int) * 32 + 24)] 5)).drew W2 → _ := fun W W2 hb => ho_old (w := W) (w2 := W2) x0 ((m : Int) * 32 + 24) hc hb
  have hcv := fun W => ho_new W x0 ((m : Int) * 32 + 24) hc
  have hcd := fun W => ho_drew W x0 ((m : Int) * 32 + 24) hc
  obtain ⟨X, hX⟩ : ∃ X, (⟨#[x0]⟩ : ByteArray) = X := ⟨_, rfl⟩
  obtain ⟨Y, hY⟩ : ∃ Y, (⟨t.toArray⟩ : ByteArray) = Y := ⟨_, rfl⟩
  obtain ⟨B, hB⟩ : ∃ B, X ++ Y = B := ⟨_, rfl⟩
  rw [hX] at s1 hHO hcv hcd
  rw [hY] at s2 hBg
  rw [hX, hY, hB] at hXY
  obtain ⟨l, hl⟩ : ∃ l, x0 :: t = l := ⟨_, rfl⟩
  rw [hl] at hO hXY
  have hsum : (9223372036854775807 < X.size + Y.size) = False := by simp only [eq_iff_iff, iff_false]; omega
  have hsz : B.size = l.length := by rw [hXY]; rfl
  have h9 : B.size ≤ 9 := by rw [hsz]; exact hO.le
  have h1 : 1 ≤ B.size := by rw [hsz]; exact hO.ne
  have HA := Lib.hid (str_at l B hXY)
  have HO := Lib.hid hO
  have HZ := Lib.hid hsz
  have HBg := Lib.hid hBg
  have HHO := Lib.hid hHO
  clear hO hBg hHO hXY hX hY hl hsz hc hm
  go_enter Try.func6, Try.ntmps6
  go_wp2_with fail
  refine (alive_any _).mono ?_
  rintro e w1 ⟨rfl, b1⟩
  have B1 := Lib.hid b1
  clear b1
  obtain ⟨b, hb⟩ : ∃ b, b = w1.heap.size := ⟨_, rfl⟩
  have H0 : Hid (HMid w b l 0 (w1.alloc (.cells hdZero 28))) := Lib.hid (by
    rw [hb]
    exact ⟨hat_new w1, B1.out.alloc B1.out.size _, B1.out.size⟩)
  have HBn := Lib.hid hb
  clear hb B1
  unfold hdZero at H0
  go_wp2_with fail
  go_cut [10] (fun s wx => s = .string B ∧ Hid (HMid w b l 0 wx))
  case first =>
    generalize w1.alloc (.cells #[.int .i64 0, .int .i64 0, .int .i64 0, .bool false, .int .i64 0, .int .u64 0] 28) = E at H0 ⊢
    have hcw := hcv E
    have hcx := hcd E
    go_region_with ((go_at_call 16); (with_reducible refine (HBg.out _).mono ?_); (rintro e w3 ⟨rfl, b3⟩); (first | (have hcy := HHO.out E w3 b3) | skip))
    all_goals
      go_wp2_with fail
      go_meet
      refine ⟨rfl, Lib.hid (H0.out.keep ?_)⟩
      first
        | exact ends1 b3
        | exact ends2 _ b3
  case rest =>
    obtain ⟨rfl, HE0⟩ := hcut
    clear H0 hcv hcd HHO HBg hsum s1 s2
    rw [← HBn.out]
    go_wp2_with fail
    go_loopw [11] (fun i wr => ∃ k : Nat, k ≤ B.size ∧ i = .int .i64 k ∧ Hid (HMid w b l k wr)) (fun i _ => B.size - (RowKit.intOf i).toNat)
    case atStart => exact ⟨0, Nat.zero_le _, rfl, HE0⟩
    case round =>
      obtain ⟨k, hk, rfl, HE⟩ := hrel
      by_cases hlt : k < B.size
      · obtain ⟨x, hx⟩ : ∃ x, B[k]'hlt = x := ⟨_, rfl⟩
        have hlk := HA.out k hlt
        rw [hx] at hlk
        obtain ⟨o1, o2, _⟩ := HO.out.ok k x hlk
        have hS := hstep_at (byte_lt x) HE.out.at_
        have hdec : ((k : Int) == (B.size : Int) - 1) = decide (k + 1 = l.length) := by
          have := HZ.out
          rw [Bool.eq_iff_iff]
          simp only [beq_iff_eq, decide_eq_true_eq]
          omega
        rw [← hdec] at o2
        rw [o1, o2] at hS
        have HS := Lib.hid hS
        have HL := Lib.hid hlk
        clear hlk o1 o2 hS hdec
        obtain ⟨dd, hd⟩ : ∃ dd, ((k : Int) == (B.size : Int) - 1) = dd := ⟨_, rfl⟩
        rw [hd] at HS
        go_wp2_with fail
        refine HS.out.mono ?_
        rintro e w3 ⟨rfl, hP⟩
        have HE2 := Lib.hid (HE.out.go x HL.out hP)
        clear hP HE HS HL
        have hdn : (dd != dd) = false := by cases dd <;> rfl
        go_wp2
        go_roundw
        case rel => exact ⟨k + 1, by omega, by go_num, HE2⟩
        case measure => simp [RowKit.intOf]; omega
      · have hfin := HE.out.at_
        rw [List.take_of_length_le (by have := HZ.out; omega), HO.out.fin] at hfin
        have HV := Lib.hid (value_at hfin)
        have HM := Lib.hid (major_at hfin)
        clear hfin
        go_wp2_with fail
        refine HV.out.mono ?_
        rintro e w3 ⟨rfl, rfl⟩
        go_wp2_with fail
        refine HM.out.mono ?_
        rintro e w3 ⟨rfl, rfl⟩
        have hsh : ((m : Int) * 32) / 32 = (m : Int) := by omega
        simp only [majH]
        go_wp2
        go_ret
        exact ⟨rfl, HE.out.bl⟩
set_option maxHeartbeats 2000000 in
theorem long_out1 (n j : Int) (v : Nat) (hj : (wrap64 (j.tmod 4 + 4)).tmod 4 = 1) (hv : 65536 ≤ v) (w : World) :
    Calls Try.prog 6 #[.int .i64 n, .int .u64 v, .int .i64 j] w fun e w' => e = .returned (.bool true) ∧ Below w.heap.size w w' := by
  have d : ((65536 : Int) ≤ (v : Int)) = True := by simp only [eq_iff_iff, iff_true]; omega
  clear hv
  go_enter Try.func6, Try.ntmps6
  go_wp2_with fail
  refine (alive_any _).mono ?_
  rintro e w1 ⟨rfl, b1⟩
  go_wp2
  go_ret
  exact ⟨rfl, b1⟩
set_option maxRecDepth 100000 in
set_option maxHeartbeats 4000000 in
theorem long_1 (n j : Int) (v : Nat) (hj : (wrap64 (j.tmod 4 + 4)).tmod 4 = 1) (hv : v < 65536) (w : World) :
    Calls Try.prog 6 #[.int .i64 n, .int .u64 v, .int .i64 j] w fun e w' => e = .returned (.bool true) ∧ Below w.heap.size w w' := by
  have d : ((65536 : Int) ≤ (v : Int)) = False := by simp only [eq_iff_iff, iff_false]; omega
  have ha := mod8_ref n
  obtain ⟨m, hm⟩ : ∃ m, (n % 8).toNat = m := ⟨_, rfl⟩
  have hm8 : m < 8 := by omega
  rw [hm] at ha
  have hO := hok_long m 1 v hm8 (by omega) (by simp; omega)
  have hwa : IntKind.u8.wrap ((m : Int) * 32 + 24) = (m : Int) * 32 + 24 := wrapI_u8 _ (by omega) (by omega)
  have hwb : IntKind.u8.wrap 1 = 1 := by decide
  have hwk : IntKind.i64.wrap 2 = 2 := by decide
  have hwc : IntKind.u8.wrap ((m : Int) * 32 + 24 + 1) = (m : Int) * 32 + 24 + 1 := wrapI_u8 _ (by omega) (by omega)
  have hBg := fun W => big_lit v 2 2 v rfl rfl (by omega) (by omega) _ rfl W
  have hc : (m : Int) * 32 + 24 + 1 = (((UInt8.ofNat (m * 32 + (24 + 1))).toNat : Nat) : Int) := by simp; omega
  have s2 : (⟨(bigB 2 v).toArray⟩ : ByteArray).size = 2 := by rw [ba_size, bigB_length]
  have hXY : (⟨#[UInt8.ofNat (m * 32 + (24 + 1))]⟩ : ByteArray) ++ ⟨(bigB 2 v).toArray⟩ = ⟨(UInt8.ofNat (m * 32 + (24 + 1)) :: bigB 2 v).toArray⟩ := by
    rw [show (⟨#[UInt8.ofNat (m * 32 + (24 + 1))]⟩ : ByteArray) = ⟨[UInt8.ofNat (m * 32 + (24 + 1))].toArray⟩ from rfl, ba_append]
    rfl
  rw [show 2 ^ 1 = 2 from rfl] at hO
  generalize (UInt8.ofNat (m * 32 + (24 + 1))) = x0 at *
  have s1 : (⟨#[x0]⟩ : ByteArray).size = 1 := rfl
  generalize bigB 2 v = t at *
  have hHO : ∀ (W W2 : World), Below (W.alloc (.cells #[.int .u8 ((m : Int) * 32 + 24 + 1)] 5)).drew.heap.size (W.alloc (.cells #[.int .u8 ((m : Int) * 32 + 24 + 1)] 5)).drew W2 → _ := fun W W2 hb => ho_old (w := W) (w2 := W2) x0 ((m : Int) * 32 + 24 + 1) hc hb
  have hcv := fun W => ho_new W x0 ((m : Int) * 32 + 24 + 1) hc
  have hcd := fun W => ho_drew W x0 ((m : Int) * 32 + 24 + 1) hc
  obtain ⟨X, hX⟩ : ∃ X, (⟨#[x0]⟩ : ByteArray) = X := ⟨_, rfl⟩
  obtain ⟨Y, hY⟩ : ∃ Y, (⟨t.toArray⟩ : ByteArray) = Y := ⟨_, rfl⟩
  obtain ⟨B, hB⟩ : ∃ B, X ++ Y = B := ⟨_, rfl⟩
  rw [hX] at s1 hHO hcv hcd
  rw [hY] at s2 hBg
  rw [hX, hY, hB] at hXY
  obtain ⟨l, hl⟩ : ∃ l, x0 :: t = l := ⟨_, rfl⟩
  rw [hl] at hO hXY
  have hsum : (9223372036854775807 < X.size + Y.size) = False := by simp only [eq_iff_iff, iff_false]; omega
  have hsz : B.size = l.length := by rw [hXY]; rfl
  have h9 : B.size ≤ 9 := by rw [hsz]; exact hO.le
  have h1 : 1 ≤ B.size := by rw [hsz]; exact hO.ne
  have HA := Lib.hid (str_at l B hXY)
  have HO := Lib.hid hO
  have HZ := Lib.hid hsz
  have HBg := Lib.hid hBg
  have HHO := Lib.hid hHO
  clear hO hBg hHO hXY hX hY hl hsz hc hm
  go_enter Try.func6, Try.ntmps6
  go_wp2_with fail
  refine (alive_any _).mono ?_
  rintro e w1 ⟨rfl, b1⟩
  have B1 := Lib.hid b1
  clear b1
  obtain ⟨b, hb⟩ : ∃ b, b = w1.heap.size := ⟨_, rfl⟩
  have H0 : Hid (HMid w b l 0 (w1.alloc (.cells hdZero 28))) := Lib.hid (by
    rw [hb]
    exact ⟨hat_new w1, B1.out.alloc B1.out.size _, B1.out.size⟩)
  have HBn := Lib.hid hb
  clear hb B1
  unfold hdZero at H0
  go_wp2_with fail
  go_cut [10] (fun s wx => s = .string B ∧ Hid (HMid w b l 0 wx))
  case first =>
    generalize w1.alloc (.cells #[.int .i64 0, .int .i64 0, .int .i64 0, .bool false, .int .i64 0, .int .u64 0] 28) = E at H0 ⊢
    have hcw := hcv E
    have hcx := hcd E
    go_region_with ((go_at_call 16); (with_reducible refine (HBg.out _).mono ?_); (rintro e w3 ⟨rfl, b3⟩); (first | (have hcy := HHO.out E w3 b3) | skip))
    all_goals
      go_wp2_with fail
      go_meet
      refine ⟨rfl, Lib.hid (H0.out.keep ?_)⟩
      first
        | exact ends1 b3
        | exact ends2 _ b3
  case rest =>
    obtain ⟨rfl, HE0⟩ := hcut
    clear H0 hcv hcd HHO HBg hsum s1 s2
    rw [← HBn.out]
    go_wp2_with fail
    go_loopw [11] (fun i wr => ∃ k : Nat, k ≤ B.size ∧ i = .int .i64 k ∧ Hid (HMid w b l k wr)) (fun i _ => B.size - (RowKit.intOf i).toNat)
    case atStart => exact ⟨0, Nat.zero_le _, rfl, HE0⟩
    case round =>
      obtain ⟨k, hk, rfl, HE⟩ := hrel
      by_cases hlt : k < B.size
      · obtain ⟨x, hx⟩ : ∃ x, B[k]'hlt = x := ⟨_, rfl⟩
        have hlk := HA.out k hlt
        rw [hx] at hlk
        obtain ⟨o1, o2, _⟩ := HO.out.ok k x hlk
        have hS := hstep_at (byte_lt x) HE.out.at_
        have hdec : ((k : Int) == (B.size : Int) - 1) = decide (k + 1 = l.length) := by
          have := HZ.out
          rw [Bool.eq_iff_iff]
          simp only [beq_iff_eq, decide_eq_true_eq]
          omega
        rw [← hdec] at o2
        rw [o1, o2] at hS
        have HS := Lib.hid hS
        have HL := Lib.hid hlk
        clear hlk o1 o2 hS hdec
        obtain ⟨dd, hd⟩ : ∃ dd, ((k : Int) == (B.size : Int) - 1) = dd := ⟨_, rfl⟩
        rw [hd] at HS
        go_wp2_with fail
        refine HS.out.mono ?_
        rintro e w3 ⟨rfl, hP⟩
        have HE2 := Lib.hid (HE.out.go x HL.out hP)
        clear hP HE HS HL
        have hdn : (dd != dd) = false := by cases dd <;> rfl
        go_wp2
        go_roundw
        case rel => exact ⟨k + 1, by omega, by go_num, HE2⟩
        case measure => simp [RowKit.intOf]; omega
      · have hfin := HE.out.at_
        rw [List.take_of_length_le (by have := HZ.out; omega), HO.out.fin] at hfin
        have HV := Lib.hid (value_at hfin)
        have HM := Lib.hid (major_at hfin)
        clear hfin
        go_wp2_with fail
        refine HV.out.mono ?_
        rintro e w3 ⟨rfl, rfl⟩
        go_wp2_with fail
        refine HM.out.mono ?_
        rintro e w3 ⟨rfl, rfl⟩
        have hsh : ((m : Int) * 32) / 32 = (m : Int) := by omega
        simp only [majH]
        go_wp2
        go_ret
        exact ⟨rfl, HE.out.bl⟩
set_option maxHeartbeats 2000000 in
theorem long_out2 (n j : Int) (v : Nat) (hj : (wrap64 (j.tmod 4 + 4)).tmod 4 = 2) (hv : 4294967296 ≤ v) (w : World) :
    Calls Try.prog 6 #[.int .i64 n, .int .u64 v, .int .i64 j] w fun e w' => e = .returned (.bool true) ∧ Below w.heap.size w w' := by
  have d : ((4294967296 : Int) ≤ (v : Int)) = True := by simp only [eq_iff_iff, iff_true]; omega
  clear hv
  go_enter Try.func6, Try.ntmps6
  go_wp2_with fail
  refine (alive_any _).mono ?_
  rintro e w1 ⟨rfl, b1⟩
  go_wp2
  go_ret
  exact ⟨rfl, b1⟩
set_option maxRecDepth 100000 in
set_option maxHeartbeats 4000000 in
theorem long_2 (n j : Int) (v : Nat) (hj : (wrap64 (j.tmod 4 + 4)).tmod 4 = 2) (hv : v < 4294967296) (w : World) :
    Calls Try.prog 6 #[.int .i64 n, .int .u64 v, .int .i64 j] w fun e w' => e = .returned (.bool true) ∧ Below w.heap.size w w' := by
  have d : ((4294967296 : Int) ≤ (v : Int)) = False := by simp only [eq_iff_iff, iff_false]; omega
  have ha := mod8_ref n
  obtain ⟨m, hm⟩ : ∃ m, (n % 8).toNat = m := ⟨_, rfl⟩
  have hm8 : m < 8 := by omega
  rw [hm] at ha
  have hO := hok_long m 2 v hm8 (by omega) (by simp; omega)
  have hwa : IntKind.u8.wrap ((m : Int) * 32 + 24) = (m : Int) * 32 + 24 := wrapI_u8 _ (by omega) (by omega)
  have hwb : IntKind.u8.wrap 2 = 2 := by decide
  have hwk : IntKind.i64.wrap 4 = 4 := by decide
  have hwc : IntKind.u8.wrap ((m : Int) * 32 + 24 + 2) = (m : Int) * 32 + 24 + 2 := wrapI_u8 _ (by omega) (by omega)
  have hBg := fun W => big_lit v 4 4 v rfl rfl (by omega) (by omega) _ rfl W
  have hc : (m : Int) * 32 + 24 + 2 = (((UInt8.ofNat (m * 32 + (24 + 2))).toNat : Nat) : Int) := by simp; omega
  have s2 : (⟨(bigB 4 v).toArray⟩ : ByteArray).size = 4 := by rw [ba_size, bigB_length]
  have hXY : (⟨#[UInt8.ofNat (m * 32 + (24 + 2))]⟩ : ByteArray) ++ ⟨(bigB 4 v).toArray⟩ = ⟨(UInt8.ofNat (m * 32 + (24 + 2)) :: bigB 4 v).toArray⟩ := by
    rw [show (⟨#[UInt8.ofNat (m * 32 + (24 + 2))]⟩ : ByteArray) = ⟨[UInt8.ofNat (m * 32 + (24 + 2))].toArray⟩ from rfl, ba_append]
    rfl
  rw [show 2 ^ 2 = 4 from rfl] at hO
  generalize (UInt8.ofNat (m * 32 + (24 + 2))) = x0 at *
  have s1 : (⟨#[x0]⟩ : ByteArray).size = 1 := rfl
  generalize bigB 4 v = t at *
  have hHO : ∀ (W W2 : World), Below (W.alloc (.cells #[.int .u8 ((m : Int) * 32 + 24 + 2)] 5)).drew.heap.size (W.alloc (.cells #[.int .u8 ((m : Int) * 32 + 24 + 2)] 5)).drew W2 → _ := fun W W2 hb => ho_old (w := W) (w2 := W2) x0 ((m : Int) * 32 + 24 + 2) hc hb
  have hcv := fun W => ho_new W x0 ((m : Int) * 32 + 24 + 2) hc
  have hcd := fun W => ho_drew W x0 ((m : Int) * 32 + 24 + 2) hc
  obtain ⟨X, hX⟩ : ∃ X, (⟨#[x0]⟩ : ByteArray) = X := ⟨_, rfl⟩
  obtain ⟨Y, hY⟩ : ∃ Y, (⟨t.toArray⟩ : ByteArray) = Y := ⟨_, rfl⟩
  obtain ⟨B, hB⟩ : ∃ B, X ++ Y = B := ⟨_, rfl⟩
  rw [hX] at s1 hHO hcv hcd
  rw [hY] at s2 hBg
  rw [hX, hY, hB] at hXY
  obtain ⟨l, hl⟩ : ∃ l, x0 :: t = l := ⟨_, rfl⟩
  rw [hl] at hO hXY
  have hsum : (9223372036854775807 < X.size + Y.size) = False := by simp only [eq_iff_iff, iff_false]; omega
  have hsz : B.size = l.length := by rw [hXY]; rfl
  have h9 : B.size ≤ 9 := by rw [hsz]; exact hO.le
  have h1 : 1 ≤ B.size := by rw [hsz]; exact hO.ne
  have HA := Lib.hid (str_at l B hXY)
  have HO := Lib.hid hO
  have HZ := Lib.hid hsz
  have HBg := Lib.hid hBg
  have HHO := Lib.hid hHO
  clear hO hBg hHO hXY hX hY hl hsz hc hm
  go_enter Try.func6, Try.ntmps6
  go_wp2_with fail
  refine (alive_any _).mono ?_
  rintro e w1 ⟨rfl, b1⟩
  have B1 := Lib.hid b1
  clear b1
  obtain ⟨b, hb⟩ : ∃ b, b = w1.heap.size := ⟨_, rfl⟩
  have H0 : Hid (HMid w b l 0 (w1.alloc (.cells hdZero 28))) := Lib.hid (by
    rw [hb]
    exact ⟨hat_new w1, B1.out.alloc B1.out.size _, B1.out.size⟩)
  have HBn := Lib.hid hb
  clear hb B1
  unfold hdZero at H0
  go_wp2_with fail
  go_cut [10] (fun s wx => s = .string B ∧ Hid (HMid w b l 0 wx))
  case first =>
    generalize w1.alloc (.cells #[.int .i64 0, .int .i64 0, .int .i64 0, .bool false, .int .i64 0, .int .u64 0] 28) = E at H0 ⊢
    have hcw := hcv E
    have hcx := hcd E
    go_region_with ((go_at_call 16); (with_reducible refine (HBg.out _).mono ?_); (rintro e w3 ⟨rfl, b3⟩); (first | (have hcy := HHO.out E w3 b3) | skip))
    all_goals
      go_wp2_with fail
      go_meet
      refine ⟨rfl, Lib.hid (H0.out.keep ?_)⟩
      first
        | exact ends1 b3
        | exact ends2 _ b3
  case rest =>
    obtain ⟨rfl, HE0⟩ := hcut
    clear H0 hcv hcd HHO HBg hsum s1 s2
    rw [← HBn.out]
    go_wp2_with fail
    go_loopw [11] (fun i wr => ∃ k : Nat, k ≤ B.size ∧ i = .int .i64 k ∧ Hid (HMid w b l k wr)) (fun i _ => B.size - (RowKit.intOf i).toNat)
    case atStart => exact ⟨0, Nat.zero_le _, rfl, HE0⟩
    case round =>
      obtain ⟨k, hk, rfl, HE⟩ := hrel
      by_cases hlt : k < B.size
      · obtain ⟨x, hx⟩ : ∃ x, B[k]'hlt = x := ⟨_, rfl⟩
        have hlk := HA.out k hlt
        rw [hx] at hlk
        obtain ⟨o1, o2, _⟩ := HO.out.ok k x hlk
        have hS := hstep_at (byte_lt x) HE.out.at_
        have hdec : ((k : Int) == (B.size : Int) - 1) = decide (k + 1 = l.length) := by
          have := HZ.out
          rw [Bool.eq_iff_iff]
          simp only [beq_iff_eq, decide_eq_true_eq]
          omega
        rw [← hdec] at o2
        rw [o1, o2] at hS
        have HS := Lib.hid hS
        have HL := Lib.hid hlk
        clear hlk o1 o2 hS hdec
        obtain ⟨dd, hd⟩ : ∃ dd, ((k : Int) == (B.size : Int) - 1) = dd := ⟨_, rfl⟩
        rw [hd] at HS
        go_wp2_with fail
        refine HS.out.mono ?_
        rintro e w3 ⟨rfl, hP⟩
        have HE2 := Lib.hid (HE.out.go x HL.out hP)
        clear hP HE HS HL
        have hdn : (dd != dd) = false := by cases dd <;> rfl
        go_wp2
        go_roundw
        case rel => exact ⟨k + 1, by omega, by go_num, HE2⟩
        case measure => simp [RowKit.intOf]; omega
      · have hfin := HE.out.at_
        rw [List.take_of_length_le (by have := HZ.out; omega), HO.out.fin] at hfin
        have HV := Lib.hid (value_at hfin)
        have HM := Lib.hid (major_at hfin)
        clear hfin
        go_wp2_with fail
        refine HV.out.mono ?_
        rintro e w3 ⟨rfl, rfl⟩
        go_wp2_with fail
        refine HM.out.mono ?_
        rintro e w3 ⟨rfl, rfl⟩
        have hsh : ((m : Int) * 32) / 32 = (m : Int) := by omega
        simp only [majH]
        go_wp2
        go_ret
        exact ⟨rfl, HE.out.bl⟩
set_option maxRecDepth 100000 in
set_option maxHeartbeats 4000000 in
theorem long_3 (n j : Int) (v : Nat) (hj : (wrap64 (j.tmod 4 + 4)).tmod 4 = 3) (hv : v < 18446744073709551616) (w : World) :
    Calls Try.prog 6 #[.int .i64 n, .int .u64 v, .int .i64 j] w fun e w' => e = .returned (.bool true) ∧ Below w.heap.size w w' := by
  have ha := mod8_ref n
  obtain ⟨m, hm⟩ : ∃ m, (n % 8).toNat = m := ⟨_, rfl⟩
  have hm8 : m < 8 := by omega
  rw [hm] at ha
  have hO := hok_long m 3 v hm8 (by omega) (by simp; omega)
  have hwa : IntKind.u8.wrap ((m : Int) * 32 + 24) = (m : Int) * 32 + 24 := wrapI_u8 _ (by omega) (by omega)
  have hwb : IntKind.u8.wrap 3 = 3 := by decide
  have hwk : IntKind.i64.wrap 8 = 8 := by decide
  have hwc : IntKind.u8.wrap ((m : Int) * 32 + 24 + 3) = (m : Int) * 32 + 24 + 3 := wrapI_u8 _ (by omega) (by omega)
  have hBg := fun W => big_lit v 8 8 v rfl rfl (by omega) (by omega) _ rfl W
  have hc : (m : Int) * 32 + 24 + 3 = (((UInt8.ofNat (m * 32 + (24 + 3))).toNat : Nat) : Int) := by simp; omega
  have s2 : (⟨(bigB 8 v).toArray⟩ : ByteArray).size = 8 := by rw [ba_size, bigB_length]
  have hXY : (⟨#[UInt8.ofNat (m * 32 + (24 + 3))]⟩ : ByteArray) ++ ⟨(bigB 8 v).toArray⟩ = ⟨(UInt8.ofNat (m * 32 + (24 + 3)) :: bigB 8 v).toArray⟩ := by
    rw [show (⟨#[UInt8.ofNat (m * 32 + (24 + 3))]⟩ : ByteArray) = ⟨[UInt8.ofNat (m * 32 + (24 + 3))].toArray⟩ from rfl, ba_append]
    rfl
  rw [show 2 ^ 3 = 8 from rfl] at hO
  generalize (UInt8.ofNat (m * 32 + (24 + 3))) = x0 at *
  have s1 : (⟨#[x0]⟩ : ByteArray).size = 1 := rfl
  generalize bigB 8 v = t at *
  have hHO : ∀ (W W2 : World), Below (W.alloc (.cells #[.int .u8 ((m : Int) * 32 + 24 + 3)] 5)).drew.heap.size (W.alloc (.cells #[.int .u8 ((m : Int) * 32 + 24 + 3)] 5)).drew W2 → _ := fun W W2 hb => ho_old (w := W) (w2 := W2) x0 ((m : Int) * 32 + 24 + 3) hc hb
  have hcv := fun W => ho_new W x0 ((m : Int) * 32 + 24 + 3) hc
  have hcd := fun W => ho_drew W x0 ((m : Int) * 32 + 24 + 3) hc
  obtain ⟨X, hX⟩ : ∃ X, (⟨#[x0]⟩ : ByteArray) = X := ⟨_, rfl⟩
  obtain ⟨Y, hY⟩ : ∃ Y, (⟨t.toArray⟩ : ByteArray) = Y := ⟨_, rfl⟩
  obtain ⟨B, hB⟩ : ∃ B, X ++ Y = B := ⟨_, rfl⟩
  rw [hX] at s1 hHO hcv hcd
  rw [hY] at s2 hBg
  rw [hX, hY, hB] at hXY
  obtain ⟨l, hl⟩ : ∃ l, x0 :: t = l := ⟨_, rfl⟩
  rw [hl] at hO hXY
  have hsum : (9223372036854775807 < X.size + Y.size) = False := by simp only [eq_iff_iff, iff_false]; omega
  have hsz : B.size = l.length := by rw [hXY]; rfl
  have h9 : B.size ≤ 9 := by rw [hsz]; exact hO.le
  have h1 : 1 ≤ B.size := by rw [hsz]; exact hO.ne
  have HA := Lib.hid (str_at l B hXY)
  have HO := Lib.hid hO
  have HZ := Lib.hid hsz
  have HBg := Lib.hid hBg
  have HHO := Lib.hid hHO
  clear hO hBg hHO hXY hX hY hl hsz hc hm
  go_enter Try.func6, Try.ntmps6
  go_wp2_with fail
  refine (alive_any _).mono ?_
  rintro e w1 ⟨rfl, b1⟩
  have B1 := Lib.hid b1
  clear b1
  obtain ⟨b, hb⟩ : ∃ b, b = w1.heap.size := ⟨_, rfl⟩
  have H0 : Hid (HMid w b l 0 (w1.alloc (.cells hdZero 28))) := Lib.hid (by
    rw [hb]
    exact ⟨hat_new w1, B1.out.alloc B1.out.size _, B1.out.size⟩)
  have HBn := Lib.hid hb
  clear hb B1
  unfold hdZero at H0
  go_wp2_with fail
  go_cut [10] (fun s wx => s = .string B ∧ Hid (HMid w b l 0 wx))
  case first =>
    generalize w1.alloc (.cells #[.int .i64 0, .int .i64 0, .int .i64 0, .bool false, .int .i64 0, .int .u64 0] 28) = E at H0 ⊢
    have hcw := hcv E
    have hcx := hcd E
    go_region_with ((go_at_call 16); (with_reducible refine (HBg.out _).mono ?_); (rintro e w3 ⟨rfl, b3⟩); (first | (have hcy := HHO.out E w3 b3) | skip))
    all_goals
      go_wp2_with fail
      go_meet
      refine ⟨rfl, Lib.hid (H0.out.keep ?_)⟩
      first
        | exact ends1 b3
        | exact ends2 _ b3
  case rest =>
    obtain ⟨rfl, HE0⟩ := hcut
    clear H0 hcv hcd HHO HBg hsum s1 s2
    rw [← HBn.out]
    go_wp2_with fail
    go_loopw [11] (fun i wr => ∃ k : Nat, k ≤ B.size ∧ i = .int .i64 k ∧ Hid (HMid w b l k wr)) (fun i _ => B.size - (RowKit.intOf i).toNat)
    case atStart => exact ⟨0, Nat.zero_le _, rfl, HE0⟩
    case round =>
      obtain ⟨k, hk, rfl, HE⟩ := hrel
      by_cases hlt : k < B.size
      · obtain ⟨x, hx⟩ : ∃ x, B[k]'hlt = x := ⟨_, rfl⟩
        have hlk := HA.out k hlt
        rw [hx] at hlk
        obtain ⟨o1, o2, _⟩ := HO.out.ok k x hlk
        have hS := hstep_at (byte_lt x) HE.out.at_
        have hdec : ((k : Int) == (B.size : Int) - 1) = decide (k + 1 = l.length) := by
          have := HZ.out
          rw [Bool.eq_iff_iff]
          simp only [beq_iff_eq, decide_eq_true_eq]
          omega
        rw [← hdec] at o2
        rw [o1, o2] at hS
        have HS := Lib.hid hS
        have HL := Lib.hid hlk
        clear hlk o1 o2 hS hdec
        obtain ⟨dd, hd⟩ : ∃ dd, ((k : Int) == (B.size : Int) - 1) = dd := ⟨_, rfl⟩
        rw [hd] at HS
        go_wp2_with fail
        refine HS.out.mono ?_
        rintro e w3 ⟨rfl, hP⟩
        have HE2 := Lib.hid (HE.out.go x HL.out hP)
        clear hP HE HS HL
        have hdn : (dd != dd) = false := by cases dd <;> rfl
        go_wp2
        go_roundw
        case rel => exact ⟨k + 1, by omega, by go_num, HE2⟩
        case measure => simp [RowKit.intOf]; omega
      · have hfin := HE.out.at_
        rw [List.take_of_length_le (by have := HZ.out; omega), HO.out.fin] at hfin
        have HV := Lib.hid (value_at hfin)
        have HM := Lib.hid (major_at hfin)
        clear hfin
        go_wp2_with fail
        refine HV.out.mono ?_
        rintro e w3 ⟨rfl, rfl⟩
        go_wp2_with fail
        refine HM.out.mono ?_
        rintro e w3 ⟨rfl, rfl⟩
        have hsh : ((m : Int) * 32) / 32 = (m : Int) := by omega
        simp only [majH]
        go_wp2
        go_ret
        exact ⟨rfl, HE.out.bl⟩
theorem long_any (n j : Int) (v : Nat) (hv : v < 18446744073709551616) (w : World) :
    Calls Try.prog 6 #[.int .i64 n, .int .u64 v, .int .i64 j] w fun e w' => e = .returned (.bool true) ∧ Below w.heap.size w w' := by
  have hj := mod4_ref j
  have hd : (j % 4).toNat = 0 ∨ (j % 4).toNat = 1 ∨ (j % 4).toNat = 2 ∨ (j % 4).toNat = 3 := by omega
  rcases hd with h | h | h | h <;> rw [h] at hj
  · by_cases h1 : v < 256
    · exact long_0 n j v hj h1 w
    · exact long_out0 n j v hj (by omega) w
  · by_cases h1 : v < 65536
    · exact long_1 n j v hj h1 w
    · exact long_out1 n j v hj (by omega) w
  · by_cases h1 : v < 4294967296
    · exact long_2 n j v hj h1 w
    · exact long_out2 n j v hj (by omega) w
  · exact long_3 n j v hj hv w
end Go.Proofs.Ytkclpolgadlbhaa
