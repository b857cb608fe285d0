/-
  LAWS of chapter 15, over PinAll and PinP: PackinOthers.
-/
import Derived.Test.YtebnhelejebobaaG0c
import Derived.Test.YtebnhelejebobaaG0b
/-
  LAWS of chapter 15, over PinAll and PinP: PackinOthers.
-/
namespace Go.Proofs.Ytebnhelejebobaa
open Go.RowKit
open Go.Lib
/-- What the law asks of a byte, one by one. -/
def OthPF (Y : Int) (e : Nat) : Prop :=
  ((160 ≤ Y) = False ∧ (Y ≤ 191) = True ∧ (217 ≤ Y) = False ∧ (Y ≤ 219) = True ∧ (199 ≤ Y) = False ∧ (Y ≤ 201) = True ∧ (212 ≤ Y) = False ∧ (Y ≤ 216) = True ∧ (Y == 193) = false ∧ (Y == 202) = false ∧ (Y == 203) = false ∧ e = 0) ∨
  ((160 ≤ Y) = True ∧ (Y ≤ 191) = True ∧ (217 ≤ Y) = False ∧ (Y ≤ 219) = True ∧ (199 ≤ Y) = False ∧ (Y ≤ 201) = True ∧ (212 ≤ Y) = False ∧ (Y ≤ 216) = True ∧ (Y == 193) = false ∧ (Y == 202) = false ∧ (Y == 203) = false ∧ e = 0) ∨
  ((160 ≤ Y) = True ∧ (Y ≤ 191) = False ∧ (217 ≤ Y) = False ∧ (Y ≤ 219) = True ∧ (199 ≤ Y) = False ∧ (Y ≤ 201) = True ∧ (212 ≤ Y) = False ∧ (Y ≤ 216) = True ∧ (Y == 193) = false ∧ (Y == 202) = false ∧ (Y == 203) = false ∧ e = 0) ∨
  ((160 ≤ Y) = True ∧ (Y ≤ 191) = False ∧ (217 ≤ Y) = False ∧ (Y ≤ 219) = True ∧ (199 ≤ Y) = False ∧ (Y ≤ 201) = True ∧ (212 ≤ Y) = False ∧ (Y ≤ 216) = True ∧ (Y == 193) = true ∧ (Y == 202) = false ∧ (Y == 203) = false ∧ e = 2) ∨
  ((160 ≤ Y) = True ∧ (Y ≤ 191) = False ∧ (217 ≤ Y) = False ∧ (Y ≤ 219) = True ∧ (199 ≤ Y) = False ∧ (Y ≤ 201) = True ∧ (212 ≤ Y) = False ∧ (Y ≤ 216) = True ∧ (Y == 193) = false ∧ (Y == 202) = false ∧ (Y == 203) = false ∧ e = 0) ∨
  ((160 ≤ Y) = True ∧ (Y ≤ 191) = False ∧ (217 ≤ Y) = False ∧ (Y ≤ 219) = True ∧ (199 ≤ Y) = True ∧ (Y ≤ 201) = True ∧ (212 ≤ Y) = False ∧ (Y ≤ 216) = True ∧ (Y == 193) = false ∧ (Y == 202) = false ∧ (Y == 203) = false ∧ e = 8) ∨
  ((160 ≤ Y) = True ∧ (Y ≤ 191) = False ∧ (217 ≤ Y) = False ∧ (Y ≤ 219) = True ∧ (199 ≤ Y) = True ∧ (Y ≤ 201) = False ∧ (212 ≤ Y) = False ∧ (Y ≤ 216) = True ∧ (Y == 193) = false ∧ (Y == 202) = true ∧ (Y == 203) = false ∧ e = 6) ∨
  ((160 ≤ Y) = True ∧ (Y ≤ 191) = False ∧ (217 ≤ Y) = False ∧ (Y ≤ 219) = True ∧ (199 ≤ Y) = True ∧ (Y ≤ 201) = False ∧ (212 ≤ Y) = False ∧ (Y ≤ 216) = True ∧ (Y == 193) = false ∧ (Y == 202) = false ∧ (Y == 203) = true ∧ e = 6) ∨
  ((160 ≤ Y) = True ∧ (Y ≤ 191) = False ∧ (217 ≤ Y) = False ∧ (Y ≤ 219) = True ∧ (199 ≤ Y) = True ∧ (Y ≤ 201) = False ∧ (212 ≤ Y) = False ∧ (Y ≤ 216) = True ∧ (Y == 193) = false ∧ (Y == 202) = false ∧ (Y == 203) = false ∧ e = 0) ∨
  ((160 ≤ Y) = True ∧ (Y ≤ 191) = False ∧ (217 ≤ Y) = False ∧ (Y ≤ 219) = True ∧ (199 ≤ Y) = True ∧ (Y ≤ 201) = False ∧ (212 ≤ Y) = True ∧ (Y ≤ 216) = True ∧ (Y == 193) = false ∧ (Y == 202) = false ∧ (Y == 203) = false ∧ e = 8) ∨
  ((160 ≤ Y) = True ∧ (Y ≤ 191) = False ∧ (217 ≤ Y) = True ∧ (Y ≤ 219) = True ∧ (199 ≤ Y) = True ∧ (Y ≤ 201) = False ∧ (212 ≤ Y) = True ∧ (Y ≤ 216) = False ∧ (Y == 193) = false ∧ (Y == 202) = false ∧ (Y == 203) = false ∧ e = 0) ∨
  ((160 ≤ Y) = True ∧ (Y ≤ 191) = False ∧ (217 ≤ Y) = True ∧ (Y ≤ 219) = False ∧ (199 ≤ Y) = True ∧ (Y ≤ 201) = False ∧ (212 ≤ Y) = True ∧ (Y ≤ 216) = False ∧ (Y == 193) = false ∧ (Y == 202) = false ∧ (Y == 203) = false ∧ e = 0)
def OthPT (Y : Int) (e : Nat) : Prop :=
  ((160 ≤ Y) = False ∧ (Y ≤ 191) = True ∧ (217 ≤ Y) = False ∧ (Y ≤ 219) = True ∧ (199 ≤ Y) = False ∧ (Y ≤ 201) = True ∧ (212 ≤ Y) = False ∧ (Y ≤ 216) = True ∧ (Y == 193) = false ∧ (Y == 202) = false ∧ (Y == 203) = false ∧ e = 8) ∨
  ((160 ≤ Y) = True ∧ (Y ≤ 191) = True ∧ (217 ≤ Y) = False ∧ (Y ≤ 219) = True ∧ (199 ≤ Y) = False ∧ (Y ≤ 201) = True ∧ (212 ≤ Y) = False ∧ (Y ≤ 216) = True ∧ (Y == 193) = false ∧ (Y == 202) = false ∧ (Y == 203) = false ∧ e = 0) ∨
  ((160 ≤ Y) = True ∧ (Y ≤ 191) = False ∧ (217 ≤ Y) = False ∧ (Y ≤ 219) = True ∧ (199 ≤ Y) = False ∧ (Y ≤ 201) = True ∧ (212 ≤ Y) = False ∧ (Y ≤ 216) = True ∧ (Y == 193) = false ∧ (Y == 202) = false ∧ (Y == 203) = false ∧ e = 8) ∨
  ((160 ≤ Y) = True ∧ (Y ≤ 191) = False ∧ (217 ≤ Y) = False ∧ (Y ≤ 219) = True ∧ (199 ≤ Y) = False ∧ (Y ≤ 201) = True ∧ (212 ≤ Y) = False ∧ (Y ≤ 216) = True ∧ (Y == 193) = true ∧ (Y == 202) = false ∧ (Y == 203) = false ∧ e = 2) ∨
  ((160 ≤ Y) = True ∧ (Y ≤ 191) = False ∧ (217 ≤ Y) = False ∧ (Y ≤ 219) = True ∧ (199 ≤ Y) = False ∧ (Y ≤ 201) = True ∧ (212 ≤ Y) = False ∧ (Y ≤ 216) = True ∧ (Y == 193) = false ∧ (Y == 202) = false ∧ (Y == 203) = false ∧ e = 8) ∨
  ((160 ≤ Y) = True ∧ (Y ≤ 191) = False ∧ (217 ≤ Y) = False ∧ (Y ≤ 219) = True ∧ (199 ≤ Y) = True ∧ (Y ≤ 201) = True ∧ (212 ≤ Y) = False ∧ (Y ≤ 216) = True ∧ (Y == 193) = false ∧ (Y == 202) = false ∧ (Y == 203) = false ∧ e = 8) ∨
  ((160 ≤ Y) = True ∧ (Y ≤ 191) = False ∧ (217 ≤ Y) = False ∧ (Y ≤ 219) = True ∧ (199 ≤ Y) = True ∧ (Y ≤ 201) = False ∧ (212 ≤ Y) = False ∧ (Y ≤ 216) = True ∧ (Y == 193) = false ∧ (Y == 202) = true ∧ (Y == 203) = false ∧ e = 8) ∨
  ((160 ≤ Y) = True ∧ (Y ≤ 191) = False ∧ (217 ≤ Y) = False ∧ (Y ≤ 219) = True ∧ (199 ≤ Y) = True ∧ (Y ≤ 201) = False ∧ (212 ≤ Y) = False ∧ (Y ≤ 216) = True ∧ (Y == 193) = false ∧ (Y == 202) = false ∧ (Y == 203) = true ∧ e = 8) ∨
  ((160 ≤ Y) = True ∧ (Y ≤ 191) = False ∧ (217 ≤ Y) = False ∧ (Y ≤ 219) = True ∧ (199 ≤ Y) = True ∧ (Y ≤ 201) = False ∧ (212 ≤ Y) = False ∧ (Y ≤ 216) = True ∧ (Y == 193) = false ∧ (Y == 202) = false ∧ (Y == 203) = false ∧ e = 8) ∨
  ((160 ≤ Y) = True ∧ (Y ≤ 191) = False ∧ (217 ≤ Y) = False ∧ (Y ≤ 219) = True ∧ (199 ≤ Y) = True ∧ (Y ≤ 201) = False ∧ (212 ≤ Y) = True ∧ (Y ≤ 216) = True ∧ (Y == 193) = false ∧ (Y == 202) = false ∧ (Y == 203) = false ∧ e = 8) ∨
  ((160 ≤ Y) = True ∧ (Y ≤ 191) = False ∧ (217 ≤ Y) = True ∧ (Y ≤ 219) = True ∧ (199 ≤ Y) = True ∧ (Y ≤ 201) = False ∧ (212 ≤ Y) = True ∧ (Y ≤ 216) = False ∧ (Y == 193) = false ∧ (Y == 202) = false ∧ (Y == 203) = false ∧ e = 0) ∨
  ((160 ≤ Y) = True ∧ (Y ≤ 191) = False ∧ (217 ≤ Y) = True ∧ (Y ≤ 219) = False ∧ (199 ≤ Y) = True ∧ (Y ≤ 201) = False ∧ (212 ≤ Y) = True ∧ (Y ≤ 216) = False ∧ (Y == 193) = false ∧ (Y == 202) = false ∧ (Y == 203) = false ∧ e = 8)
theorem otherP_cases (b : Nat) (hb : b < 256) : OthPF (b : Int) (wantOP b false) ∧ OthPT (b : Int) (wantOP b true) := by
  have h : ∀ b : Fin 256, (0 ≤ b.val ∧ b.val ≤ 159 ∧ wantOP b.val false = 0 ∧ wantOP b.val true = 8) ∨ (160 ≤ b.val ∧ b.val ≤ 191 ∧ wantOP b.val false = 0 ∧ wantOP b.val true = 0) ∨ (192 ≤ b.val ∧ b.val ≤ 192 ∧ wantOP b.val false = 0 ∧ wantOP b.val true = 8) ∨ (193 ≤ b.val ∧ b.val ≤ 193 ∧ wantOP b.val false = 2 ∧ wantOP b.val true = 2) ∨ (194 ≤ b.val ∧ b.val ≤ 198 ∧ wantOP b.val false = 0 ∧ wantOP b.val true = 8) ∨ (199 ≤ b.val ∧ b.val ≤ 201 ∧ wantOP b.val false = 8 ∧ wantOP b.val true = 8) ∨ (202 ≤ b.val ∧ b.val ≤ 202 ∧ wantOP b.val false = 6 ∧ wantOP b.val true = 8) ∨ (203 ≤ b.val ∧ b.val ≤ 203 ∧ wantOP b.val false = 6 ∧ wantOP b.val true = 8) ∨ (204 ≤ b.val ∧ b.val ≤ 211 ∧ wantOP b.val false = 0 ∧ wantOP b.val true = 8) ∨ (212 ≤ b.val ∧ b.val ≤ 216 ∧ wantOP b.val false = 8 ∧ wantOP b.val true = 8) ∨ (217 ≤ b.val ∧ b.val ≤ 219 ∧ wantOP b.val false = 0 ∧ wantOP b.val true = 0) ∨ (220 ≤ b.val ∧ b.val ≤ 255 ∧ wantOP b.val false = 0 ∧ wantOP b.val true = 8) := by decide +kernel
  have h := h ⟨b, hb⟩
  simp only at h
  generalize wantOP b false = e at h ⊢
  generalize wantOP b true = e2 at h ⊢
  unfold OthPF OthPT
  simp only [eq_iff_iff, iff_true, iff_false, beq_iff_eq, beq_eq_false_iff_ne]
  rcases h with h | h | h | h | h | h | h | h | h | h | h | h
  · exact ⟨.inl (by omega), .inl (by omega)⟩
  · exact ⟨.inr (.inl (by omega)), .inr (.inl (by omega))⟩
  · exact ⟨.inr (.inr (.inl (by omega))), .inr (.inr (.inl (by omega)))⟩
  · exact ⟨.inr (.inr (.inr (.inl (by omega)))), .inr (.inr (.inr (.inl (by omega))))⟩
  · exact ⟨.inr (.inr (.inr (.inr (.inl (by omega))))), .inr (.inr (.inr (.inr (.inl (by omega)))))⟩
  · exact ⟨.inr (.inr (.inr (.inr (.inr (.inl (by omega)))))), .inr (.inr (.inr (.inr (.inr (.inl (by omega))))))⟩
  · exact ⟨.inr (.inr (.inr (.inr (.inr (.inr (.inl (by omega))))))), .inr (.inr (.inr (.inr (.inr (.inr (.inl (by omega)))))))⟩
  · exact ⟨.inr (.inr (.inr (.inr (.inr (.inr (.inr (.inl (by omega)))))))), .inr (.inr (.inr (.inr (.inr (.inr (.inr (.inl (by omega))))))))⟩
  · exact ⟨.inr (.inr (.inr (.inr (.inr (.inr (.inr (.inr (.inl (by omega))))))))), .inr (.inr (.inr (.inr (.inr (.inr (.inr (.inr (.inl (by omega)))))))))⟩
  · exact ⟨.inr (.inr (.inr (.inr (.inr (.inr (.inr (.inr (.inr (.inl (by omega)))))))))), .inr (.inr (.inr (.inr (.inr (.inr (.inr (.inr (.inr (.inl (by omega))))))))))⟩
  · exact ⟨.inr (.inr (.inr (.inr (.inr (.inr (.inr (.inr (.inr (.inr (.inl (by omega))))))))))), .inr (.inr (.inr (.inr (.inr (.inr (.inr (.inr (.inr (.inr (.inl (by omega)))))))))))⟩
  · exact ⟨.inr (.inr (.inr (.inr (.inr (.inr (.inr (.inr (.inr (.inr (.inr (by omega))))))))))), .inr (.inr (.inr (.inr (.inr (.inr (.inr (.inr (.inr (.inr (.inr (by omega)))))))))))⟩
set_option maxRecDepth 100000 in
set_option maxHeartbeats 16000000 in
theorem pothers_F (H : PinAll) {PK : World → World → Nat → Nat → Pm → Prop} (P : PinP PK) (b : UInt8) (w : World) :
    Calls Try.prog 8 #[.int .u8 b.toNat, .bool false] w fun r w' => r = .returned (.bool true) ∧ Below w.heap.size w w' := by
  have HA := Lib.hid (palive_any H w)
  have HN : Hid (∀ W, Calls Try.prog 19 #[.int .i64 4] W fun r w' => ∃ b, r = .returned (.pointer (some ⟨b, 0, none⟩)) ∧ PK W w' b 4 pm0) := Lib.hid (fun W => P.new_ 4 (by omega) W)
  have E0 : errPm (stepPm 4 pm0 145).1 = 0 := by decide +kernel
  have hSA : ∀ (w0 W : World) (c : Nat), PK w0 W c 4 pm0 → Calls Try.prog 20 #[.pointer (some ⟨c, 0, none⟩), .int .u8 145] W fun r w' =>
    (∃ v, r = .returned (.tuple #[v, .int .i64 (errPm (stepPm 4 pm0 145).1 : Nat)]) ∧ Vls w0 w' v (stepPm 4 pm0 145).2) ∧ PK w0 w' c 4 (stepPm 4 pm0 145).1 := fun w0 W c h => P.step w0 W c 4 pm0 145 h
  rw [E0] at hSA
  have HSA := Lib.hid hSA
  clear hSA E0
  have hS2 : ∀ (w0 W : World) (c : Nat), PK w0 W c 4 (stepPm 4 pm0 145).1 → Calls Try.prog 20 #[.pointer (some ⟨c, 0, none⟩), .int .u8 b.toNat] W fun r w' =>
    (∃ v, r = .returned (.tuple #[v, .int .i64 (errPm (stepPm 4 (stepPm 4 pm0 145).1 b).1 : Nat)]) ∧ Vls w0 w' v (stepPm 4 (stepPm 4 pm0 145).1 b).2) ∧ PK w0 w' c 4 (stepPm 4 (stepPm 4 pm0 145).1 b).1 := fun w0 W c h => P.step w0 W c 4 _ b h
  have hE := othersP_all ⟨b.toNat, b.toNat_lt⟩ false
  simp only [UInt8.ofNat_toNat] at hE
  have hE : errPm (stepPm 4 (stepPm 4 pm0 145).1 b).1 = wantOP b.toNat false := hE
  rw [hE] at hS2
  have hk := (otherP_cases b.toNat b.toNat_lt).1
  have hB := Lib.hid (fun (w0 W : World) (c : Nat) (s : Pm) (h : PK w0 W c 4 s) => P.bel w0 W c 4 s h)
  clear hE
  generalize wantOP b.toNat false = e at *
  have HS2 := Lib.hid hS2
  clear hS2
  obtain ⟨Y, hY⟩ : ∃ Y, (b.toNat : Int) = Y := ⟨_, rfl⟩
  rw [hY] at HS2 hk ⊢
  clear hY
  unfold OthPF at hk
  rcases hk with ⟨k1, k2, k3, k4, k5, k6, k7, k8, k9, k10, k11, rfl⟩ | ⟨k1, k2, k3, k4, k5, k6, k7, k8, k9, k10, k11, rfl⟩ | ⟨k1, k2, k3, k4, k5, k6, k7, k8, k9, k10, k11, rfl⟩ | ⟨k1, k2, k3, k4, k5, k6, k7, k8, k9, k10, k11, rfl⟩ | ⟨k1, k2, k3, k4, k5, k6, k7, k8, k9, k10, k11, rfl⟩ | ⟨k1, k2, k3, k4, k5, k6, k7, k8, k9, k10, k11, rfl⟩ | ⟨k1, k2, k3, k4, k5, k6, k7, k8, k9, k10, k11, rfl⟩ | ⟨k1, k2, k3, k4, k5, k6, k7, k8, k9, k10, k11, rfl⟩ | ⟨k1, k2, k3, k4, k5, k6, k7, k8, k9, k10, k11, rfl⟩ | ⟨k1, k2, k3, k4, k5, k6, k7, k8, k9, k10, k11, rfl⟩ | ⟨k1, k2, k3, k4, k5, k6, k7, k8, k9, k10, k11, rfl⟩ | ⟨k1, k2, k3, k4, k5, k6, k7, k8, k9, k10, k11, rfl⟩
  all_goals
    go_enter Try.func8, Try.ntmps8
    go_wp2_with fail
    refine HA.out.mono ?_
    rintro r w1 ⟨rfl, b1⟩
    have B1 := Lib.hid b1
    clear b1
    go_wp2_with fail
    refine (HN.out _).mono ?_
    rintro r w2 ⟨p, rfl, hP2⟩
    have HP2 := Lib.hid hP2
    clear hP2
    go_wp2_with fail
    refine (HSA.out _ _ _ HP2.out).mono ?_
    rintro r w3 ⟨⟨v3, rfl, _⟩, hP3⟩
    have HP3 := Lib.hid hP3
    clear hP3
    go_wp2_with fail
    refine (HS2.out _ _ _ HP3.out).mono ?_
    rintro r w4 ⟨⟨v4, rfl, _⟩, hP4⟩
    have B4 := Lib.hid (up_trans B1.out (hB.out _ _ _ _ hP4))
    clear hP4
    go_wp2
    go_ret
    exact ⟨rfl, B4.out⟩
set_option maxRecDepth 100000 in
set_option maxHeartbeats 16000000 in
theorem pothers_T (H : PinAll) {PK : World → World → Nat → Nat → Pm → Prop} (P : PinP PK) (b : UInt8) (w : World) :
    Calls Try.prog 8 #[.int .u8 b.toNat, .bool true] w fun r w' => r = .returned (.bool true) ∧ Below w.heap.size w w' := by
  have HA := Lib.hid (palive_any H w)
  have HN : Hid (∀ W, Calls Try.prog 19 #[.int .i64 4] W fun r w' => ∃ b, r = .returned (.pointer (some ⟨b, 0, none⟩)) ∧ PK W w' b 4 pm0) := Lib.hid (fun W => P.new_ 4 (by omega) W)
  have E0 : errPm (stepPm 4 pm0 129).1 = 0 := by decide +kernel
  have hSA : ∀ (w0 W : World) (c : Nat), PK w0 W c 4 pm0 → Calls Try.prog 20 #[.pointer (some ⟨c, 0, none⟩), .int .u8 129] W fun r w' =>
    (∃ v, r = .returned (.tuple #[v, .int .i64 (errPm (stepPm 4 pm0 129).1 : Nat)]) ∧ Vls w0 w' v (stepPm 4 pm0 129).2) ∧ PK w0 w' c 4 (stepPm 4 pm0 129).1 := fun w0 W c h => P.step w0 W c 4 pm0 129 h
  rw [E0] at hSA
  have HSA := Lib.hid hSA
  clear hSA E0
  have hS2 : ∀ (w0 W : World) (c : Nat), PK w0 W c 4 (stepPm 4 pm0 129).1 → Calls Try.prog 20 #[.pointer (some ⟨c, 0, none⟩), .int .u8 b.toNat] W fun r w' =>
    (∃ v, r = .returned (.tuple #[v, .int .i64 (errPm (stepPm 4 (stepPm 4 pm0 129).1 b).1 : Nat)]) ∧ Vls w0 w' v (stepPm 4 (stepPm 4 pm0 129).1 b).2) ∧ PK w0 w' c 4 (stepPm 4 (stepPm 4 pm0 129).1 b).1 := fun w0 W c h => P.step w0 W c 4 _ b h
  have hE := othersP_all ⟨b.toNat, b.toNat_lt⟩ true
  simp only [UInt8.ofNat_toNat] at hE
  have hE : errPm (stepPm 4 (stepPm 4 pm0 129).1 b).1 = wantOP b.toNat true := hE
  rw [hE] at hS2
  have hk := (otherP_cases b.toNat b.toNat_lt).2
  have hB := Lib.hid (fun (w0 W : World) (c : Nat) (s : Pm) (h : PK w0 W c 4 s) => P.bel w0 W c 4 s h)
  clear hE
  generalize wantOP b.toNat true = e at *
  have HS2 := Lib.hid hS2
  clear hS2
  obtain ⟨Y, hY⟩ : ∃ Y, (b.toNat : Int) = Y := ⟨_, rfl⟩
  rw [hY] at HS2 hk ⊢
  clear hY
  unfold OthPT at hk
  rcases hk with ⟨k1, k2, k3, k4, k5, k6, k7, k8, k9, k10, k11, rfl⟩ | ⟨k1, k2, k3, k4, k5, k6, k7, k8, k9, k10, k11, rfl⟩ | ⟨k1, k2, k3, k4, k5, k6, k7, k8, k9, k10, k11, rfl⟩ | ⟨k1, k2, k3, k4, k5, k6, k7, k8, k9, k10, k11, rfl⟩ | ⟨k1, k2, k3, k4, k5, k6, k7, k8, k9, k10, k11, rfl⟩ | ⟨k1, k2, k3, k4, k5, k6, k7, k8, k9, k10, k11, rfl⟩ | ⟨k1, k2, k3, k4, k5, k6, k7, k8, k9, k10, k11, rfl⟩ | ⟨k1, k2, k3, k4, k5, k6, k7, k8, k9, k10, k11, rfl⟩ | ⟨k1, k2, k3, k4, k5, k6, k7, k8, k9, k10, k11, rfl⟩ | ⟨k1, k2, k3, k4, k5, k6, k7, k8, k9, k10, k11, rfl⟩ | ⟨k1, k2, k3, k4, k5, k6, k7, k8, k9, k10, k11, rfl⟩ | ⟨k1, k2, k3, k4, k5, k6, k7, k8, k9, k10, k11, rfl⟩
  all_goals
    go_enter Try.func8, Try.ntmps8
    go_wp2_with fail
    refine HA.out.mono ?_
    rintro r w1 ⟨rfl, b1⟩
    have B1 := Lib.hid b1
    clear b1
    go_wp2_with fail
    refine (HN.out _).mono ?_
    rintro r w2 ⟨p, rfl, hP2⟩
    have HP2 := Lib.hid hP2
    clear hP2
    go_wp2_with fail
    refine (HSA.out _ _ _ HP2.out).mono ?_
    rintro r w3 ⟨⟨v3, rfl, _⟩, hP3⟩
    have HP3 := Lib.hid hP3
    clear hP3
    go_wp2_with fail
    refine (HS2.out _ _ _ HP3.out).mono ?_
    rintro r w4 ⟨⟨v4, rfl, _⟩, hP4⟩
    have B4 := Lib.hid (up_trans B1.out (hB.out _ _ _ _ hP4))
    clear hP4
    go_wp2
    go_ret
    exact ⟨rfl, B4.out⟩
theorem pothers_row (H : PinAll) {PK : World → World → Nat → Nat → Pm → Prop} (P : PinP PK) (b : UInt8) (o : Bool) (w : World) :
    Calls Try.prog 8 #[.int .u8 b.toNat, .bool o] w fun r w' => r = .returned (.bool true) ∧ Below w.heap.size w w' := by
  cases o
  · exact pothers_F H P b w
  · exact pothers_T H P b w
end Go.Proofs.Ytebnhelejebobaa
