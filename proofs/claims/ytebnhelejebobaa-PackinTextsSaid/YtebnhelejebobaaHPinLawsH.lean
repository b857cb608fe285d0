/-
  LAWS of chapter 15, over PinAll: PackinKeys.
-/
import Derived.Test.YtebnhelejebobaaG0c
import Derived.Test.YtebnhelejebobaaHHeadRh
import Derived.Test.YtebnhelejebobaaHUtfRef
import Derived.Test.YtebnhelejebobaaG0b
/-
  LAWS of chapter 15, over PinAll: PackinKeys.
-/
namespace Go.Proofs.Ytebnhelejebobaa
open Go.RowKit
open Go.Lib
theorem ba_list (s : ByteArray) : (⟨s.data.toList.toArray⟩ : ByteArray) = s := by simp
theorem keyP_of (s : ByteArray) (v : Nat) (f : Nat) (hs : s.size ≤ 31) (hv : validD s.data.toList = true) (hb : v < 128) (hf : f < 3) :
    allPm 1 (129 :: ((UInt8.ofNat (217 + f) :: bigB (2 ^ f) s.size) ++ s.data.toList ++ [UInt8.ofNat v])) = ([evBegC true 1, evTxC true s.data.toList, evIntC false v, evEnd], 0) := by
  have hl : s.data.toList.length = s.size := Array.length_toList
  have hp : s.size < 256 ^ 2 ^ f := by
    have h1 : 256 ^ 1 ≤ 256 ^ 2 ^ f := Nat.pow_le_pow_right (by decide) (Nat.pow_pos (by decide))
    omega
  have := wideP_tx (D := 1) (s := [⟨true, 1, 0⟩]) true f s.size hf (fun _ => rfl) hp
  simp only [if_true] at this
  exact keyP_all _ _ v (by rw [hl]; exact this) (by omega) hv hb
theorem keyP_of0 (s : ByteArray) (v : Nat) (hs : s.size ≤ 31) (hv : validD s.data.toList = true) (hb : v < 128) :
    allPm 1 (129 :: ([UInt8.ofNat (160 + s.size)] ++ s.data.toList ++ [UInt8.ofNat v])) = ([evBegC true 1, evTxC true s.data.toList, evIntC false v, evEnd], 0) := by
  have hl : s.data.toList.length = s.size := Array.length_toList
  have := keyP_short s.data.toList (by omega)
  rw [hl] at this
  exact keyP_all _ _ v (by rw [hl]; exact this) (by omega) hv hb
/-- The bytes, as the law joins them. -/
theorem key_join (s : ByteArray) (h : List UInt8) (v : UInt8) (K : ByteArray) (hK : K = ⟨h.toArray⟩ ++ s) : (⟨(129 :: (h ++ s.data.toList ++ [v])).toArray⟩ : ByteArray) = (⟨#[129]⟩ : ByteArray) ++ K ++ ⟨#[v]⟩ := by
  subst hK
  apply ByteArray.ext
  simp
set_option maxRecDepth 100000 in
set_option maxHeartbeats 8000000 in
theorem pkeys_0 (H : PinAll) (s : ByteArray) (F : Int) (b : UInt8) (w : World) (hs : s.size ≤ 31) (hv : validD s.data.toList = true) (hb : b.toNat < 128) (hF : bits .and .i64 F 3 = 0) :
    Calls Try.prog 12 #[.string s, .int .i64 F, .int .u8 (b.toNat : Int)] w fun r w' => r = .returned (.bool true) ∧ Below w.heap.size w w' := by
  have t1 : ((31 : Int) < (s.size : Int)) = False := by simp; omega
  have t2 : ((128 : Int) ≤ (b.toNat : Int)) = False := by simp; omega
  have HA := Lib.hid (fun W => palive_any H W)
  have hVV := refvalid_any s w (by omega)
  rw [hv] at hVV
  have HV := Lib.hid hVV
  have hall := keyP_of0 s b.toNat hs hv hb
  have hj := key_join s [UInt8.ofNat (160 + s.size)] (UInt8.ofNat b.toNat) _ rfl
  have hJ := fun W => H (129 :: ([UInt8.ofNat (160 + s.size)] ++ s.data.toList ++ [UInt8.ofNat b.toNat])) 1 (by omega) (by simp; omega) W
  have hall : allPm 1 (129 :: ([UInt8.ofNat (160 + s.size)] ++ s.data.toList ++ [UInt8.ofNat b.toNat])) = ([evBegC true 1, evTxC true s.data.toList, evIntC false b.toNat, evEnd], 0) := hall
  rw [hall, hj] at hJ
  simp only [evTxC, ba_list, if_true] at hJ
  have hc0 : (((160 + s.size : Nat) : Int)) = (((UInt8.ofNat (160 + s.size)).toNat : Nat) : Int) := by simp; omega
  have hcv0 := fun W => ho_new W (UInt8.ofNat (160 + s.size)) _ hc0
  have hc1 : (b.toNat : Int) = (((UInt8.ofNat b.toNat).toNat : Nat) : Int) := by simp
  have hcv1 := fun W => ho_new W (UInt8.ofNat b.toNat) _ hc1
  have hw8 : IntKind.u8.wrap (160 + (s.size : Int)) = ((160 + s.size : Nat) : Int) := by rw [wrapI_u8 _ (by omega) (by omega)]; omega
  have hw6 : IntKind.u64.wrap (s.size : Int) = (s.size : Int) := wrapI_u64 _ (by omega) (by omega)
  have hwb : IntKind.u64.wrap (b.toNat : Int) = (b.toNat : Int) := wrapI_u64 _ (by omega) (by omega)
  have x0 : (⟨#[UInt8.ofNat (160 + s.size)]⟩ : ByteArray).size = 1 := rfl
  have x1 : (⟨#[UInt8.ofNat b.toNat]⟩ : ByteArray).size = 1 := rfl
  have HJ := Lib.hid hJ
  have q0 := fun W => ev_eql ⟨6, false, 0, ⟨#[]⟩, 1⟩ ⟨6, false, 0, ⟨#[]⟩, 1⟩ W
  have q1 := fun W => ev_eql ⟨3, false, 0, s, 0⟩ ⟨3, false, 0, s, 0⟩ W
  have q2 := fun W => ev_eql ⟨2, false, b.toNat, ⟨#[]⟩, 0⟩ ⟨2, false, b.toNat, ⟨#[]⟩, 0⟩ W
  rw [sameE_refl] at q0 q1 q2
  simp only [evV] at q0 q1 q2
  obtain ⟨X0, hX0⟩ : ∃ X : ByteArray, (⟨#[UInt8.ofNat (160 + s.size)]⟩ : ByteArray) = X := ⟨_, rfl⟩
  obtain ⟨X1, hX1⟩ : ∃ X : ByteArray, (⟨#[UInt8.ofNat b.toNat]⟩ : ByteArray) = X := ⟨_, rfl⟩
  rw [hX0] at hcv0 x0 HJ
  rw [hX1] at hcv1 x1 HJ
  have z0 : ¬ 9223372036854775807 < X0.size + s.size := by omega
  have z1 : ¬ 9223372036854775807 < 1 + (X0 ++ s).size := by rw [ByteArray.size_append]; omega
  have z2 : ¬ 9223372036854775807 < (⟨#[129]⟩ ++ (X0 ++ s) : ByteArray).size + X1.size := by rw [ByteArray.size_append, ByteArray.size_append, show (⟨#[129]⟩ : ByteArray).size = 1 from rfl]; omega
  have z5 : ¬ 9223372036854775807 < 1 + (X0.size + s.size) := by omega
  have z6 : ¬ 9223372036854775807 < 1 + (X0.size + s.size) + X1.size := by omega
  obtain ⟨Y0, hY0⟩ : ∃ Y : Int, ((160 + s.size : Nat) : Int) = Y := ⟨_, rfl⟩
  rw [hY0] at hcv0 hw8
  generalize b.toNat = y at *
  clear hJ hall hj hv hb hc0 hc1 hX0 hX1 hY0 hVV x0 x1
  go_enter Try.func12, Try.ntmps12
  go_wp2_with fail
  refine HV.out.mono ?_
  rintro r w0 ⟨rfl, rfl⟩
  go_wp2_with fail
  refine (HA.out _).mono ?_
  rintro r w1 ⟨rfl, b1⟩
  have B1 := Lib.hid b1
  clear b1
  have B2 : Hid (Below w.heap.size w (w1.alloc (.cells #[.int .u8 Y0] 5))) := Lib.hid (up_alloc B1.out _)
  have hcv2 : (convert 42 9 (.slice (some ⟨w1.heap.size + 1, 0, none⟩) 1 1)).run Try.prog ((w1.alloc (.cells #[.int .u8 Y0] 5)).alloc (.cells #[.int .u8 (y : Nat)] 5)) = .ok (.string X1) ((w1.alloc (.cells #[.int .u8 Y0] 5)).alloc (.cells #[.int .u8 (y : Nat)] 5)) := by
    have := hcv1 (w1.alloc (.cells #[.int .u8 Y0] 5))
    rwa [World.size_alloc] at this
  go_wp2_with fail
  refine (HJ.out _).mono ?_
  rintro r w3 ⟨u, rfl, hM⟩
  have B3 := Lib.hid (up_trans (up_alloc B2.out _) hM.1)
  have hW := hM.2.1
  clear hM
  obtain ⟨g, off, cap, rfl, _, _, _, _, hc⟩ := hW.form (by simp)
  have c0 := (hc 0 (.int .i64 6) rfl).1
  have c1 := (hc 1 (.bool false) rfl).1
  have c2 := (hc 2 (.int .u64 0) rfl).1
  have c3 := (hc 3 (.string ⟨#[]⟩) rfl).1
  have c4 := (hc 4 (.int .i64 1) rfl).1
  have c5 := (hc 5 (.int .i64 3) rfl).1
  have c6 := (hc 6 (.bool false) rfl).1
  have c7 := (hc 7 (.int .u64 0) rfl).1
  have c8 := (hc 8 (.string s) rfl).1
  have c9 := (hc 9 (.int .i64 0) rfl).1
  have c10 := (hc 10 (.int .i64 2) rfl).1
  have c11 := (hc 11 (.bool false) rfl).1
  have c12 := (hc 12 (.int .u64 y) rfl).1
  have c13 := (hc 13 (.string ⟨#[]⟩) rfl).1
  have c14 := (hc 14 (.int .i64 0) rfl).1
  have c15 := (hc 15 (.int .i64 7) rfl).1
  simp only [Nat.add_zero] at c0
  clear hc hW
  go_wp2
  go_ret
  exact ⟨rfl, B3.out⟩
set_option maxRecDepth 100000 in
set_option maxHeartbeats 8000000 in
theorem pkeys_1 (H : PinAll) (s : ByteArray) (F : Int) (b : UInt8) (w : World) (hs : s.size ≤ 31) (hv : validD s.data.toList = true) (hb : b.toNat < 128) (hF : bits .and .i64 F 3 = 1) :
    Calls Try.prog 12 #[.string s, .int .i64 F, .int .u8 (b.toNat : Int)] w fun r w' => r = .returned (.bool true) ∧ Below w.heap.size w w' := by
  have t1 : ((31 : Int) < (s.size : Int)) = False := by simp; omega
  have t2 : ((128 : Int) ≤ (b.toNat : Int)) = False := by simp; omega
  have HA := Lib.hid (fun W => palive_any H W)
  have hVV := refvalid_any s w (by omega)
  rw [hv] at hVV
  have HV := Lib.hid hVV
  have hall := keyP_of s b.toNat 0 hs hv hb (by omega)
  have hj := key_join s (UInt8.ofNat 217 :: bigB 1 s.size) (UInt8.ofNat b.toNat) _ rfl
  have hJ := fun W => H (129 :: ((UInt8.ofNat 217 :: bigB 1 s.size) ++ s.data.toList ++ [UInt8.ofNat b.toNat])) 1 (by omega) (by simp [bigB_length]; omega) W
  have hall : allPm 1 (129 :: ((UInt8.ofNat 217 :: bigB 1 s.size) ++ s.data.toList ++ [UInt8.ofNat b.toNat])) = ([evBegC true 1, evTxC true s.data.toList, evIntC false b.toNat, evEnd], 0) := hall
  rw [hall, hj] at hJ
  simp only [evTxC, ba_list, if_true] at hJ
  have e : (⟨(UInt8.ofNat 217 :: bigB 1 s.size).toArray⟩ : ByteArray) = (⟨#[UInt8.ofNat 217]⟩ : ByteArray) ++ ⟨(bigB 1 s.size).toArray⟩ := by
    rw [show (⟨#[UInt8.ofNat 217]⟩ : ByteArray) = ⟨[UInt8.ofNat 217].toArray⟩ from rfl, ba_append]
    rfl
  rw [e, show UInt8.ofNat 217 = 217 from rfl] at hJ
  have HBg := Lib.hid (fun W => rbig_n s.size 1 1 rfl (by omega) (by omega) (by omega) _ rfl W)
  have s2 : (⟨(bigB 1 s.size).toArray⟩ : ByteArray).size = 1 := by rw [ba_size, bigB_length]
  have hc0 : (((160 + s.size : Nat) : Int)) = (((UInt8.ofNat (160 + s.size)).toNat : Nat) : Int) := by simp; omega
  have hcv0 := fun W => ho_new W (UInt8.ofNat (160 + s.size)) _ hc0
  have hc1 : (b.toNat : Int) = (((UInt8.ofNat b.toNat).toNat : Nat) : Int) := by simp
  have hcv1 := fun W => ho_new W (UInt8.ofNat b.toNat) _ hc1
  have hw8 : IntKind.u8.wrap (160 + (s.size : Int)) = ((160 + s.size : Nat) : Int) := by rw [wrapI_u8 _ (by omega) (by omega)]; omega
  have hw6 : IntKind.u64.wrap (s.size : Int) = (s.size : Int) := wrapI_u64 _ (by omega) (by omega)
  have hwb : IntKind.u64.wrap (b.toNat : Int) = (b.toNat : Int) := wrapI_u64 _ (by omega) (by omega)
  have x0 : (⟨#[UInt8.ofNat (160 + s.size)]⟩ : ByteArray).size = 1 := rfl
  have x1 : (⟨#[UInt8.ofNat b.toNat]⟩ : ByteArray).size = 1 := rfl
  have HJ := Lib.hid hJ
  have q0 := fun W => ev_eql ⟨6, false, 0, ⟨#[]⟩, 1⟩ ⟨6, false, 0, ⟨#[]⟩, 1⟩ W
  have q1 := fun W => ev_eql ⟨3, false, 0, s, 0⟩ ⟨3, false, 0, s, 0⟩ W
  have q2 := fun W => ev_eql ⟨2, false, b.toNat, ⟨#[]⟩, 0⟩ ⟨2, false, b.toNat, ⟨#[]⟩, 0⟩ W
  rw [sameE_refl] at q0 q1 q2
  simp only [evV] at q0 q1 q2
  obtain ⟨X0, hX0⟩ : ∃ X : ByteArray, (⟨#[UInt8.ofNat (160 + s.size)]⟩ : ByteArray) = X := ⟨_, rfl⟩
  obtain ⟨X1, hX1⟩ : ∃ X : ByteArray, (⟨#[UInt8.ofNat b.toNat]⟩ : ByteArray) = X := ⟨_, rfl⟩
  rw [hX0] at hcv0 x0
  rw [hX1] at hcv1 x1 HJ
  obtain ⟨X2, hX2⟩ : ∃ X : ByteArray, (⟨(bigB 1 s.size).toArray⟩ : ByteArray) = X := ⟨_, rfl⟩
  rw [hX2] at HBg s2 HJ
  have z0 : ¬ 9223372036854775807 < X0.size + s.size := by omega
  have z3 : ¬ 9223372036854775807 < 1 + X2.size := by omega
  have z4 : ¬ 9223372036854775807 < (⟨#[217]⟩ ++ X2 : ByteArray).size + s.size := by rw [ByteArray.size_append, show (⟨#[217]⟩ : ByteArray).size = 1 from rfl]; omega
  have z1 : ¬ 9223372036854775807 < 1 + ((⟨#[217]⟩ ++ X2 : ByteArray) ++ s).size := by rw [ByteArray.size_append, ByteArray.size_append, show (⟨#[217]⟩ : ByteArray).size = 1 from rfl]; omega
  have z2 : ¬ 9223372036854775807 < (⟨#[129]⟩ ++ ((⟨#[217]⟩ ++ X2 : ByteArray) ++ s) : ByteArray).size + X1.size := by rw [ByteArray.size_append, ByteArray.size_append, ByteArray.size_append, show (⟨#[129]⟩ : ByteArray).size = 1 from rfl, show (⟨#[217]⟩ : ByteArray).size = 1 from rfl]; omega
  have z7 : ¬ 9223372036854775807 < 1 + X2.size + s.size := by omega
  have z5 : ¬ 9223372036854775807 < 1 + (1 + X2.size + s.size) := by omega
  have z6 : ¬ 9223372036854775807 < 1 + (1 + X2.size + s.size) + X1.size := by omega
  obtain ⟨Y0, hY0⟩ : ∃ Y : Int, ((160 + s.size : Nat) : Int) = Y := ⟨_, rfl⟩
  rw [hY0] at hcv0 hw8
  generalize b.toNat = y at *
  clear hJ hall hj hv hb hc0 hc1 hX0 hX1 hY0 hVV x0 x1 hX2 e s2
  go_enter Try.func12, Try.ntmps12
  go_wp2_with fail
  refine HV.out.mono ?_
  rintro r w0 ⟨rfl, rfl⟩
  go_wp2_with fail
  refine (HA.out _).mono ?_
  rintro r w1 ⟨rfl, b1⟩
  have B1 := Lib.hid b1
  clear b1
  go_wp2_with fail
  refine (HBg.out _).mono ?_
  rintro r w2 ⟨rfl, b2⟩
  have B2 := Lib.hid (up_trans (up_alloc B1.out _) b2)
  clear b2
  go_wp2_with fail
  refine (HJ.out _).mono ?_
  rintro r w3 ⟨u, rfl, hM⟩
  have B3 := Lib.hid (up_trans (up_alloc B2.out _) hM.1)
  have hW := hM.2.1
  clear hM
  obtain ⟨g, off, cap, rfl, _, _, _, _, hc⟩ := hW.form (by simp)
  have c0 := (hc 0 (.int .i64 6) rfl).1
  have c1 := (hc 1 (.bool false) rfl).1
  have c2 := (hc 2 (.int .u64 0) rfl).1
  have c3 := (hc 3 (.string ⟨#[]⟩) rfl).1
  have c4 := (hc 4 (.int .i64 1) rfl).1
  have c5 := (hc 5 (.int .i64 3) rfl).1
  have c6 := (hc 6 (.bool false) rfl).1
  have c7 := (hc 7 (.int .u64 0) rfl).1
  have c8 := (hc 8 (.string s) rfl).1
  have c9 := (hc 9 (.int .i64 0) rfl).1
  have c10 := (hc 10 (.int .i64 2) rfl).1
  have c11 := (hc 11 (.bool false) rfl).1
  have c12 := (hc 12 (.int .u64 y) rfl).1
  have c13 := (hc 13 (.string ⟨#[]⟩) rfl).1
  have c14 := (hc 14 (.int .i64 0) rfl).1
  have c15 := (hc 15 (.int .i64 7) rfl).1
  simp only [Nat.add_zero] at c0
  clear hc hW
  go_wp2
  go_ret
  exact ⟨rfl, B3.out⟩
set_option maxRecDepth 100000 in
set_option maxHeartbeats 8000000 in
theorem pkeys_2 (H : PinAll) (s : ByteArray) (F : Int) (b : UInt8) (w : World) (hs : s.size ≤ 31) (hv : validD s.data.toList = true) (hb : b.toNat < 128) (hF : bits .and .i64 F 3 = 2) :
    Calls Try.prog 12 #[.string s, .int .i64 F, .int .u8 (b.toNat : Int)] w fun r w' => r = .returned (.bool true) ∧ Below w.heap.size w w' := by
  have t1 : ((31 : Int) < (s.size : Int)) = False := by simp; omega
  have t2 : ((128 : Int) ≤ (b.toNat : Int)) = False := by simp; omega
  have HA := Lib.hid (fun W => palive_any H W)
  have hVV := refvalid_any s w (by omega)
  rw [hv] at hVV
  have HV := Lib.hid hVV
  have hall := keyP_of s b.toNat 1 hs hv hb (by omega)
  have hj := key_join s (UInt8.ofNat 218 :: bigB 2 s.size) (UInt8.ofNat b.toNat) _ rfl
  have hJ := fun W => H (129 :: ((UInt8.ofNat 218 :: bigB 2 s.size) ++ s.data.toList ++ [UInt8.ofNat b.toNat])) 1 (by omega) (by simp [bigB_length]; omega) W
  have hall : allPm 1 (129 :: ((UInt8.ofNat 218 :: bigB 2 s.size) ++ s.data.toList ++ [UInt8.ofNat b.toNat])) = ([evBegC true 1, evTxC true s.data.toList, evIntC false b.toNat, evEnd], 0) := hall
  rw [hall, hj] at hJ
  simp only [evTxC, ba_list, if_true] at hJ
  have e : (⟨(UInt8.ofNat 218 :: bigB 2 s.size).toArray⟩ : ByteArray) = (⟨#[UInt8.ofNat 218]⟩ : ByteArray) ++ ⟨(bigB 2 s.size).toArray⟩ := by
    rw [show (⟨#[UInt8.ofNat 218]⟩ : ByteArray) = ⟨[UInt8.ofNat 218].toArray⟩ from rfl, ba_append]
    rfl
  rw [e, show UInt8.ofNat 218 = 218 from rfl] at hJ
  have HBg := Lib.hid (fun W => rbig_n s.size 2 2 rfl (by omega) (by omega) (by omega) _ rfl W)
  have s2 : (⟨(bigB 2 s.size).toArray⟩ : ByteArray).size = 2 := by rw [ba_size, bigB_length]
  have hc0 : (((160 + s.size : Nat) : Int)) = (((UInt8.ofNat (160 + s.size)).toNat : Nat) : Int) := by simp; omega
  have hcv0 := fun W => ho_new W (UInt8.ofNat (160 + s.size)) _ hc0
  have hc1 : (b.toNat : Int) = (((UInt8.ofNat b.toNat).toNat : Nat) : Int) := by simp
  have hcv1 := fun W => ho_new W (UInt8.ofNat b.toNat) _ hc1
  have hw8 : IntKind.u8.wrap (160 + (s.size : Int)) = ((160 + s.size : Nat) : Int) := by rw [wrapI_u8 _ (by omega) (by omega)]; omega
  have hw6 : IntKind.u64.wrap (s.size : Int) = (s.size : Int) := wrapI_u64 _ (by omega) (by omega)
  have hwb : IntKind.u64.wrap (b.toNat : Int) = (b.toNat : Int) := wrapI_u64 _ (by omega) (by omega)
  have x0 : (⟨#[UInt8.ofNat (160 + s.size)]⟩ : ByteArray).size = 1 := rfl
  have x1 : (⟨#[UInt8.ofNat b.toNat]⟩ : ByteArray).size = 1 := rfl
  have HJ := Lib.hid hJ
  have q0 := fun W => ev_eql ⟨6, false, 0, ⟨#[]⟩, 1⟩ ⟨6, false, 0, ⟨#[]⟩, 1⟩ W
  have q1 := fun W => ev_eql ⟨3, false, 0, s, 0⟩ ⟨3, false, 0, s, 0⟩ W
  have q2 := fun W => ev_eql ⟨2, false, b.toNat, ⟨#[]⟩, 0⟩ ⟨2, false, b.toNat, ⟨#[]⟩, 0⟩ W
  rw [sameE_refl] at q0 q1 q2
  simp only [evV] at q0 q1 q2
  obtain ⟨X0, hX0⟩ : ∃ X : ByteArray, (⟨#[UInt8.ofNat (160 + s.size)]⟩ : ByteArray) = X := ⟨_, rfl⟩
  obtain ⟨X1, hX1⟩ : ∃ X : ByteArray, (⟨#[UInt8.ofNat b.toNat]⟩ : ByteArray) = X := ⟨_, rfl⟩
  rw [hX0] at hcv0 x0
  rw [hX1] at hcv1 x1 HJ
  obtain ⟨X2, hX2⟩ : ∃ X : ByteArray, (⟨(bigB 2 s.size).toArray⟩ : ByteArray) = X := ⟨_, rfl⟩
  rw [hX2] at HBg s2 HJ
  have z0 : ¬ 9223372036854775807 < X0.size + s.size := by omega
  have z3 : ¬ 9223372036854775807 < 1 + X2.size := by omega
  have z4 : ¬ 9223372036854775807 < (⟨#[218]⟩ ++ X2 : ByteArray).size + s.size := by rw [ByteArray.size_append, show (⟨#[218]⟩ : ByteArray).size = 1 from rfl]; omega
  have z1 : ¬ 9223372036854775807 < 1 + ((⟨#[218]⟩ ++ X2 : ByteArray) ++ s).size := by rw [ByteArray.size_append, ByteArray.size_append, show (⟨#[218]⟩ : ByteArray).size = 1 from rfl]; omega
  have z2 : ¬ 9223372036854775807 < (⟨#[129]⟩ ++ ((⟨#[218]⟩ ++ X2 : ByteArray) ++ s) : ByteArray).size + X1.size := by rw [ByteArray.size_append, ByteArray.size_append, ByteArray.size_append, show (⟨#[129]⟩ : ByteArray).size = 1 from rfl, show (⟨#[218]⟩ : ByteArray).size = 1 from rfl]; omega
  have z7 : ¬ 9223372036854775807 < 1 + X2.size + s.size := by omega
  have z5 : ¬ 9223372036854775807 < 1 + (1 + X2.size + s.size) := by omega
  have z6 : ¬ 9223372036854775807 < 1 + (1 + X2.size + s.size) + X1.size := by omega
  obtain ⟨Y0, hY0⟩ : ∃ Y : Int, ((160 + s.size : Nat) : Int) = Y := ⟨_, rfl⟩
  rw [hY0] at hcv0 hw8
  generalize b.toNat = y at *
  clear hJ hall hj hv hb hc0 hc1 hX0 hX1 hY0 hVV x0 x1 hX2 e s2
  go_enter Try.func12, Try.ntmps12
  go_wp2_with fail
  refine HV.out.mono ?_
  rintro r w0 ⟨rfl, rfl⟩
  go_wp2_with fail
  refine (HA.out _).mono ?_
  rintro r w1 ⟨rfl, b1⟩
  have B1 := Lib.hid b1
  clear b1
  go_wp2_with fail
  refine (HBg.out _).mono ?_
  rintro r w2 ⟨rfl, b2⟩
  have B2 := Lib.hid (up_trans (up_alloc B1.out _) b2)
  clear b2
  go_wp2_with fail
  refine (HJ.out _).mono ?_
  rintro r w3 ⟨u, rfl, hM⟩
  have B3 := Lib.hid (up_trans (up_alloc B2.out _) hM.1)
  have hW := hM.2.1
  clear hM
  obtain ⟨g, off, cap, rfl, _, _, _, _, hc⟩ := hW.form (by simp)
  have c0 := (hc 0 (.int .i64 6) rfl).1
  have c1 := (hc 1 (.bool false) rfl).1
  have c2 := (hc 2 (.int .u64 0) rfl).1
  have c3 := (hc 3 (.string ⟨#[]⟩) rfl).1
  have c4 := (hc 4 (.int .i64 1) rfl).1
  have c5 := (hc 5 (.int .i64 3) rfl).1
  have c6 := (hc 6 (.bool false) rfl).1
  have c7 := (hc 7 (.int .u64 0) rfl).1
  have c8 := (hc 8 (.string s) rfl).1
  have c9 := (hc 9 (.int .i64 0) rfl).1
  have c10 := (hc 10 (.int .i64 2) rfl).1
  have c11 := (hc 11 (.bool false) rfl).1
  have c12 := (hc 12 (.int .u64 y) rfl).1
  have c13 := (hc 13 (.string ⟨#[]⟩) rfl).1
  have c14 := (hc 14 (.int .i64 0) rfl).1
  have c15 := (hc 15 (.int .i64 7) rfl).1
  simp only [Nat.add_zero] at c0
  clear hc hW
  go_wp2
  go_ret
  exact ⟨rfl, B3.out⟩
set_option maxRecDepth 100000 in
set_option maxHeartbeats 8000000 in
theorem pkeys_3 (H : PinAll) (s : ByteArray) (F : Int) (b : UInt8) (w : World) (hs : s.size ≤ 31) (hv : validD s.data.toList = true) (hb : b.toNat < 128) (hF : bits .and .i64 F 3 = 3) :
    Calls Try.prog 12 #[.string s, .int .i64 F, .int .u8 (b.toNat : Int)] w fun r w' => r = .returned (.bool true) ∧ Below w.heap.size w w' := by
  have t1 : ((31 : Int) < (s.size : Int)) = False := by simp; omega
  have t2 : ((128 : Int) ≤ (b.toNat : Int)) = False := by simp; omega
  have HA := Lib.hid (fun W => palive_any H W)
  have hVV := refvalid_any s w (by omega)
  rw [hv] at hVV
  have HV := Lib.hid hVV
  have hall := keyP_of s b.toNat 2 hs hv hb (by omega)
  have hj := key_join s (UInt8.ofNat 219 :: bigB 4 s.size) (UInt8.ofNat b.toNat) _ rfl
  have hJ := fun W => H (129 :: ((UInt8.ofNat 219 :: bigB 4 s.size) ++ s.data.toList ++ [UInt8.ofNat b.toNat])) 1 (by omega) (by simp [bigB_length]; omega) W
  have hall : allPm 1 (129 :: ((UInt8.ofNat 219 :: bigB 4 s.size) ++ s.data.toList ++ [UInt8.ofNat b.toNat])) = ([evBegC true 1, evTxC true s.data.toList, evIntC false b.toNat, evEnd], 0) := hall
  rw [hall, hj] at hJ
  simp only [evTxC, ba_list, if_true] at hJ
  have e : (⟨(UInt8.ofNat 219 :: bigB 4 s.size).toArray⟩ : ByteArray) = (⟨#[UInt8.ofNat 219]⟩ : ByteArray) ++ ⟨(bigB 4 s.size).toArray⟩ := by
    rw [show (⟨#[UInt8.ofNat 219]⟩ : ByteArray) = ⟨[UInt8.ofNat 219].toArray⟩ from rfl, ba_append]
    rfl
  rw [e, show UInt8.ofNat 219 = 219 from rfl] at hJ
  have HBg := Lib.hid (fun W => rbig_n s.size 4 4 rfl (by omega) (by omega) (by omega) _ rfl W)
  have s2 : (⟨(bigB 4 s.size).toArray⟩ : ByteArray).size = 4 := by rw [ba_size, bigB_length]
  have hc0 : (((160 + s.size : Nat) : Int)) = (((UInt8.ofNat (160 + s.size)).toNat : Nat) : Int) := by simp; omega
  have hcv0 := fun W => ho_new W (UInt8.ofNat (160 + s.size)) _ hc0
  have hc1 : (b.toNat : Int) = (((UInt8.ofNat b.toNat).toNat : Nat) : Int) := by simp
  have hcv1 := fun W => ho_new W (UInt8.ofNat b.toNat) _ hc1
  have hw8 : IntKind.u8.wrap (160 + (s.size : Int)) = ((160 + s.size : Nat) : Int) := by rw [wrapI_u8 _ (by omega) (by omega)]; omega
  have hw6 : IntKind.u64.wrap (s.size : Int) = (s.size : Int) := wrapI_u64 _ (by omega) (by omega)
  have hwb : IntKind.u64.wrap (b.toNat : Int) = (b.toNat : Int) := wrapI_u64 _ (by omega) (by omega)
  have x0 : (⟨#[UInt8.ofNat (160 + s.size)]⟩ : ByteArray).size = 1 := rfl
  have x1 : (⟨#[UInt8.ofNat b.toNat]⟩ : ByteArray).size = 1 := rfl
  have HJ := Lib.hid hJ
  have q0 := fun W => ev_eql ⟨6, false, 0, ⟨#[]⟩, 1⟩ ⟨6, false, 0, ⟨#[]⟩, 1⟩ W
  have q1 := fun W => ev_eql ⟨3, false, 0, s, 0⟩ ⟨3, false, 0, s, 0⟩ W
  have q2 := fun W => ev_eql ⟨2, false, b.toNat, ⟨#[]⟩, 0⟩ ⟨2, false, b.toNat, ⟨#[]⟩, 0⟩ W
  rw [sameE_refl] at q0 q1 q2
  simp only [evV] at q0 q1 q2
  obtain ⟨X0, hX0⟩ : ∃ X : ByteArray, (⟨#[UInt8.ofNat (160 + s.size)]⟩ : ByteArray) = X := ⟨_, rfl⟩
  obtain ⟨X1, hX1⟩ : ∃ X : ByteArray, (⟨#[UInt8.ofNat b.toNat]⟩ : ByteArray) = X := ⟨_, rfl⟩
  rw [hX0] at hcv0 x0
  rw [hX1] at hcv1 x1 HJ
  obtain ⟨X2, hX2⟩ : ∃ X : ByteArray, (⟨(bigB 4 s.size).toArray⟩ : ByteArray) = X := ⟨_, rfl⟩
  rw [hX2] at HBg s2 HJ
  have z0 : ¬ 9223372036854775807 < X0.size + s.size := by omega
  have z3 : ¬ 9223372036854775807 < 1 + X2.size := by omega
  have z4 : ¬ 9223372036854775807 < (⟨#[219]⟩ ++ X2 : ByteArray).size + s.size := by rw [ByteArray.size_append, show (⟨#[219]⟩ : ByteArray).size = 1 from rfl]; omega
  have z1 : ¬ 9223372036854775807 < 1 + ((⟨#[219]⟩ ++ X2 : ByteArray) ++ s).size := by rw [ByteArray.size_append, ByteArray.size_append, show (⟨#[219]⟩ : ByteArray).size = 1 from rfl]; omega
  have z2 : ¬ 9223372036854775807 < (⟨#[129]⟩ ++ ((⟨#[219]⟩ ++ X2 : ByteArray) ++ s) : ByteArray).size + X1.size := by rw [ByteArray.size_append, ByteArray.size_append, ByteArray.size_append, show (⟨#[129]⟩ : ByteArray).size = 1 from rfl, show (⟨#[219]⟩ : ByteArray).size = 1 from rfl]; omega
  have z7 : ¬ 9223372036854775807 < 1 + X2.size + s.size := by omega
  have z5 : ¬ 9223372036854775807 < 1 + (1 + X2.size + s.size) := by omega
  have z6 : ¬ 9223372036854775807 < 1 + (1 + X2.size + s.size) + X1.size := by omega
  obtain ⟨Y0, hY0⟩ : ∃ Y : Int, ((160 + s.size : Nat) : Int) = Y := ⟨_, rfl⟩
  rw [hY0] at hcv0 hw8
  generalize b.toNat = y at *
  clear hJ hall hj hv hb hc0 hc1 hX0 hX1 hY0 hVV x0 x1 hX2 e s2
  go_enter Try.func12, Try.ntmps12
  go_wp2_with fail
  refine HV.out.mono ?_
  rintro r w0 ⟨rfl, rfl⟩
  go_wp2_with fail
  refine (HA.out _).mono ?_
  rintro r w1 ⟨rfl, b1⟩
  have B1 := Lib.hid b1
  clear b1
  go_wp2_with fail
  refine (HBg.out _).mono ?_
  rintro r w2 ⟨rfl, b2⟩
  have B2 := Lib.hid (up_trans (up_alloc B1.out _) b2)
  clear b2
  go_wp2_with fail
  refine (HJ.out _).mono ?_
  rintro r w3 ⟨u, rfl, hM⟩
  have B3 := Lib.hid (up_trans (up_alloc B2.out _) hM.1)
  have hW := hM.2.1
  clear hM
  obtain ⟨g, off, cap, rfl, _, _, _, _, hc⟩ := hW.form (by simp)
  have c0 := (hc 0 (.int .i64 6) rfl).1
  have c1 := (hc 1 (.bool false) rfl).1
  have c2 := (hc 2 (.int .u64 0) rfl).1
  have c3 := (hc 3 (.string ⟨#[]⟩) rfl).1
  have c4 := (hc 4 (.int .i64 1) rfl).1
  have c5 := (hc 5 (.int .i64 3) rfl).1
  have c6 := (hc 6 (.bool false) rfl).1
  have c7 := (hc 7 (.int .u64 0) rfl).1
  have c8 := (hc 8 (.string s) rfl).1
  have c9 := (hc 9 (.int .i64 0) rfl).1
  have c10 := (hc 10 (.int .i64 2) rfl).1
  have c11 := (hc 11 (.bool false) rfl).1
  have c12 := (hc 12 (.int .u64 y) rfl).1
  have c13 := (hc 13 (.string ⟨#[]⟩) rfl).1
  have c14 := (hc 14 (.int .i64 0) rfl).1
  have c15 := (hc 15 (.int .i64 7) rfl).1
  simp only [Nat.add_zero] at c0
  clear hc hW
  go_wp2
  go_ret
  exact ⟨rfl, B3.out⟩
set_option maxRecDepth 100000 in
set_option maxHeartbeats 4000000 in
theorem pkeys_out (H : PinAll) (s : ByteArray) (F : Int) (y : Nat) (w : World) (h : (31 < s.size) ∨ (s.size ≤ 31 ∧ validD s.data.toList = false) ∨ (s.size ≤ 31 ∧ validD s.data.toList = true ∧ 128 ≤ y)) :
    Calls Try.prog 12 #[.string s, .int .i64 F, .int .u8 (y : Nat)] w fun r w' => r = .returned (.bool true) ∧ Below w.heap.size w w' := by
  have HA := Lib.hid (palive_any H w)
  rcases h with h | ⟨h, h2⟩ | ⟨h, h2, h3⟩
  · have t1 : ((31 : Int) < (s.size : Int)) = True := by simp; omega
    clear h
    go_enter Try.func12, Try.ntmps12
    go_wp2_with fail
    refine HA.out.mono ?_
    rintro r w1 ⟨rfl, b1⟩
    have B1 := Lib.hid b1
    clear b1
    go_wp2
    go_ret
    exact ⟨rfl, B1.out⟩
  · have t1 : ((31 : Int) < (s.size : Int)) = False := by simp; omega
    have hVV := refvalid_any s w (by omega)
    rw [h2] at hVV
    have HV := Lib.hid hVV
    clear h h2 hVV
    go_enter Try.func12, Try.ntmps12
    go_wp2_with fail
    refine HV.out.mono ?_
    rintro r w0 ⟨rfl, rfl⟩
    go_wp2_with fail
    refine HA.out.mono ?_
    rintro r w1 ⟨rfl, b1⟩
    have B1 := Lib.hid b1
    clear b1
    go_wp2
    go_ret
    exact ⟨rfl, B1.out⟩
  · have t1 : ((31 : Int) < (s.size : Int)) = False := by simp; omega
    have t2 : ((128 : Int) ≤ (y : Int)) = True := by simp; omega
    have hVV := refvalid_any s w (by omega)
    rw [h2] at hVV
    have HV := Lib.hid hVV
    clear h h2 h3 hVV
    go_enter Try.func12, Try.ntmps12
    go_wp2_with fail
    refine HV.out.mono ?_
    rintro r w0 ⟨rfl, rfl⟩
    go_wp2_with fail
    refine HA.out.mono ?_
    rintro r w1 ⟨rfl, b1⟩
    have B1 := Lib.hid b1
    clear b1
    go_wp2
    go_ret
    exact ⟨rfl, B1.out⟩
theorem pkeys_row (H : PinAll) (s : ByteArray) (F : Int) (b : UInt8) (w : World) :
    Calls Try.prog 12 #[.string s, .int .i64 F, .int .u8 (b.toNat : Int)] w fun r w' => r = .returned (.bool true) ∧ Below w.heap.size w w' := by
  by_cases h1 : s.size ≤ 31
  · cases h2 : validD s.data.toList with
    | false => exact pkeys_out H s F b.toNat w (.inr (.inl ⟨h1, h2⟩))
    | true =>
      by_cases h3 : b.toNat < 128
      · obtain ⟨a, ha, hF⟩ := bits_range F 3 3 (by decide) rfl
        have hc : a = 0 ∨ a = 1 ∨ a = 2 ∨ a = 3 := by omega
        rcases hc with rfl | rfl | rfl | rfl
        · exact pkeys_0 H s F b w h1 h2 h3 hF
        · exact pkeys_1 H s F b w h1 h2 h3 hF
        · exact pkeys_2 H s F b w h1 h2 h3 hF
        · exact pkeys_3 H s F b w h1 h2 h3 hF
      · exact pkeys_out H s F b.toNat w (.inr (.inr ⟨h1, h2, by omega⟩))
  · exact pkeys_out H s F b.toNat w (.inl (by omega))
end Go.Proofs.Ytebnhelejebobaa
