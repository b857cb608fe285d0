/-
  LAW of chapter 13: CborinOthers.
-/
import Derived.Test.YtgknpheefbfnlaaGj
import Derived.Test.YtgknpheefbfnlaaGi
import Derived.Test.YtgknpheefbfnlaaGb
import Derived.Test.YtgknpheefbfnlaaGa
/-
  LAWS of chapter 13, over CinAll and CinP: CborinOthers.
-/
namespace Go.Proofs.Ytgknpheefbfnlaa
open Go.RowKit
open Go.Lib
/-- What the law asks of a byte, one by one. -/
def OthC (o : Bool) (L M Y : Int) (e : Nat) : Prop :=
  ((28 ≤ L) = True ∧ (L ≤ 30) = True ∧ e = 2) ∨
  ((28 ≤ L) = True ∧ (L ≤ 30) = False ∧ (L == 31) = true ∧ (M < 2) = True ∧ e = 2) ∨
  ((28 ≤ L) = True ∧ (L ≤ 30) = False ∧ (L == 31) = true ∧ (M < 2) = False ∧ (M == 6) = true ∧ e = 2) ∨
  ((28 ≤ L) = True ∧ (L ≤ 30) = False ∧ (L == 31) = true ∧ (M < 2) = False ∧ (M == 6) = false ∧ (Y == 255) = true ∧ e = if o = true then 0 else 2) ∨
  ((28 ≤ L) = True ∧ (L ≤ 30) = False ∧ (L == 31) = true ∧ (M < 2) = False ∧ (M == 6) = false ∧ (Y == 255) = false ∧ (M == 7) = false ∧ e = 0) ∨
  ((28 ≤ L) = False ∧ (L == 31) = false ∧ (M == 6) = true ∧ (Y == 255) = false ∧ e = 8) ∨
  ((28 ≤ L) = False ∧ (L == 31) = false ∧ (M == 6) = false ∧ (Y == 255) = false ∧ (M == 7) = true ∧ ((25 ≤ L) = True ∧ (L ≤ 27) = True ∧ e = 6 ∨ (25 ≤ L) = False ∧ (L < 20) = True ∧ e = 8 ∨ (25 ≤ L) = False ∧ (L < 20) = False ∧ (22 < L) = True ∧ e = 8 ∨ (25 ≤ L) = False ∧ (L < 20) = False ∧ (22 < L) = False ∧ e = 0)) ∨
  ((28 ≤ L) = False ∧ (L == 31) = false ∧ (M == 6) = false ∧ (Y == 255) = false ∧ (M == 7) = false ∧ e = 0)
theorem other_cases (b : Nat) (hb : b < 256) (o : Bool) : OthC o ((b % 32 : Nat) : Int) ((b / 32 : Nat) : Int) (b : Int) (wantO b o) := by
  have h : ∀ (b : Fin 256) (o : Bool), (28 ≤ b.val % 32 ∧ b.val % 32 ≤ 30 ∧ wantO b.val o = 2) ∨ (b.val % 32 = 31 ∧ b.val / 32 < 2 ∧ wantO b.val o = 2) ∨ (b.val % 32 = 31 ∧ b.val / 32 = 6 ∧ wantO b.val o = 2) ∨
      (b.val = 255 ∧ wantO b.val o = if o = true then 0 else 2) ∨ (b.val % 32 = 31 ∧ 2 ≤ b.val / 32 ∧ b.val / 32 < 6 ∧ wantO b.val o = 0) ∨
      (b.val % 32 < 28 ∧ b.val / 32 = 6 ∧ wantO b.val o = 8) ∨
      (b.val % 32 < 28 ∧ b.val / 32 = 7 ∧ (25 ≤ b.val % 32 ∧ wantO b.val o = 6 ∨ b.val % 32 < 20 ∧ wantO b.val o = 8 ∨ 22 < b.val % 32 ∧ b.val % 32 < 25 ∧ wantO b.val o = 8 ∨ 20 ≤ b.val % 32 ∧ b.val % 32 ≤ 22 ∧ wantO b.val o = 0)) ∨
      (b.val % 32 < 28 ∧ b.val / 32 < 6 ∧ wantO b.val o = 0) := by decide +kernel
  have h := h ⟨b, hb⟩ o
  simp only at h
  generalize wantO b o = e at h
  unfold OthC
  simp only [eq_iff_iff, iff_true, iff_false, beq_iff_eq, beq_eq_false_iff_ne]
  rcases h with h | h | h | h | h | h | h | h
  · exact .inl (by omega)
  · exact .inr (.inl (by omega))
  · exact .inr (.inr (.inl (by omega)))
  · exact .inr (.inr (.inr (.inl ⟨by omega, by omega, by omega, by omega, by omega, by omega, h.2⟩)))
  · exact .inr (.inr (.inr (.inr (.inl (by omega)))))
  · exact .inr (.inr (.inr (.inr (.inr (.inl (by omega))))))
  · exact .inr (.inr (.inr (.inr (.inr (.inr (.inl (by omega)))))))
  · exact .inr (.inr (.inr (.inr (.inr (.inr (.inr (by omega)))))))
set_option maxRecDepth 100000 in
set_option maxHeartbeats 16000000 in
theorem cothers_f (H : CinAll) {PK : World → World → Nat → Nat → Ci → Prop} (P : CinP PK) (b : UInt8) (w : World) :
    Calls Try.prog 9 #[.int .u8 b.toNat, .bool false] w fun r w' => r = .returned (.bool true) ∧ Below w.heap.size w w' := by
  have HA := Lib.hid (calive_any H w)
  have HN : Hid (∀ W, Calls Try.prog 20 #[.int .i64 4] W fun r w' => ∃ b, r = .returned (.pointer (some ⟨b, 0, none⟩)) ∧ PK W w' b 4 ci0) := Lib.hid (fun W => P.new_ 4 (by omega) W)
  have hS2 : ∀ (w0 W : World) (c : Nat), PK w0 W c 4 ci0 → Calls Try.prog 21 #[.pointer (some ⟨c, 0, none⟩), .int .u8 b.toNat] W fun r w' =>
    (∃ v, r = .returned (.tuple #[v, .int .i64 (errCi (stepCi 4 ci0 b).1 : Nat)]) ∧ Vls w0 w' v (stepCi 4 ci0 b).2) ∧ PK w0 w' c 4 (stepCi 4 ci0 b).1 := fun w0 W c h => P.step w0 W c 4 _ b h sm_0
  have hE := others_all ⟨b.toNat, b.toNat_lt⟩ false
  simp only [UInt8.ofNat_toNat] at hE
  have hE : errCi (stepCi 4 ci0 b).1 = wantO b.toNat false := hE
  rw [hE] at hS2
  have hk := other_cases b.toNat b.toNat_lt false
  have h31 := and31 b.toNat b.toNat_lt
  have hB := Lib.hid (fun (w0 W : World) (c : Nat) (s : Ci) (h : PK w0 W c 4 s) => P.bel w0 W c 4 s h)
  have hsh : (b.toNat : Int) / 32 = ((b.toNat / 32 : Nat) : Int) := by omega
  clear hE
  generalize wantO b.toNat false = e at *
  have HS2 := Lib.hid hS2
  clear hS2
  generalize ((b.toNat % 32 : Nat) : Int) = L at *
  generalize ((b.toNat / 32 : Nat) : Int) = M at *
  unfold OthC at hk
  rcases hk with ⟨k1, k2, rfl⟩ | ⟨k1, k2, k3, k4, rfl⟩ | ⟨k1, k2, k3, k4, k5, rfl⟩ | ⟨k1, k2, k3, k4, k5, k6, rfl⟩ | ⟨k1, k2, k3, k4, k5, k6, k7, rfl⟩ | ⟨k1, k3, k5, k6, rfl⟩ | ⟨k1, k3, k5, k6, k7, ⟨k8, k9, rfl⟩ | ⟨k8, k9, rfl⟩ | ⟨k8, k9, k10, rfl⟩ | ⟨k8, k9, k10, rfl⟩⟩ | ⟨k1, k3, k5, k6, k7, rfl⟩
  all_goals
    go_enter Try.func9, Try.ntmps9
    go_wp2_with fail
    refine HA.out.mono ?_
    rintro r w1 ⟨rfl, b1⟩
    have B1 := Lib.hid b1
    clear b1
    go_wp2_with fail
    refine (HN.out _).mono ?_
    rintro r w2 ⟨p, rfl, hP2⟩
    have HP2 := Lib.hid hP2
    clear hP2
    go_wp2
    go_loopw [11, 12, 13] (fun i _ _ wr => (i = .int .i64 0 ∧ Hid (PK w1 wr p 4 ci0))) (fun i _ _ _ => 2 - (RowKit.intOf i).toNat)
    case atStart => exact ⟨rfl, HP2⟩
    case round =>
      obtain ⟨rfl, HP⟩ := hrel
      go_wp2_with fail
      refine (HS2.out _ _ _ HP.out).mono ?_
      rintro r w4 ⟨⟨v4, rfl, _⟩, hP4⟩
      have B4 := Lib.hid (up_trans B1.out (hB.out _ _ _ _ hP4))
      clear hP4
      go_wp2
      go_ret
      exact ⟨rfl, B4.out⟩
set_option maxRecDepth 100000 in
set_option maxHeartbeats 16000000 in
theorem cothers_t (H : CinAll) {PK : World → World → Nat → Nat → Ci → Prop} (P : CinP PK) (b : UInt8) (w : World) :
    Calls Try.prog 9 #[.int .u8 b.toNat, .bool true] w fun r w' => r = .returned (.bool true) ∧ Below w.heap.size w w' := by
  have HA := Lib.hid (calive_any H w)
  have HN : Hid (∀ W, Calls Try.prog 20 #[.int .i64 4] W fun r w' => ∃ b, r = .returned (.pointer (some ⟨b, 0, none⟩)) ∧ PK W w' b 4 ci0) := Lib.hid (fun W => P.new_ 4 (by omega) W)
  have E0 : errCi (stepCi 4 ci0 159).1 = 0 := by decide +kernel
  have E1 : errCi (stepCi 4 (stepCi 4 ci0 159).1 1).1 = 0 := by decide +kernel
  have hSA : ∀ (w0 W : World) (c : Nat), PK w0 W c 4 ci0 → Calls Try.prog 21 #[.pointer (some ⟨c, 0, none⟩), .int .u8 159] W fun r w' =>
    (∃ v, r = .returned (.tuple #[v, .int .i64 (errCi (stepCi 4 ci0 159).1 : Nat)]) ∧ Vls w0 w' v (stepCi 4 ci0 159).2) ∧ PK w0 w' c 4 (stepCi 4 ci0 159).1 := fun w0 W c h => P.step w0 W c 4 ci0 159 h sm_0
  have hSB : ∀ (w0 W : World) (c : Nat), PK w0 W c 4 (stepCi 4 ci0 159).1 → Calls Try.prog 21 #[.pointer (some ⟨c, 0, none⟩), .int .u8 1] W fun r w' =>
    (∃ v, r = .returned (.tuple #[v, .int .i64 (errCi (stepCi 4 (stepCi 4 ci0 159).1 1).1 : Nat)]) ∧ Vls w0 w' v (stepCi 4 (stepCi 4 ci0 159).1 1).2) ∧ PK w0 w' c 4 (stepCi 4 (stepCi 4 ci0 159).1 1).1 := fun w0 W c h => P.step w0 W c 4 _ 1 h (sm_1 4 (by omega) 159)
  rw [E0] at hSA
  rw [E1] at hSB
  have HSA := Lib.hid hSA
  have HSB := Lib.hid hSB
  clear hSA hSB E0 E1
  have hS2 : ∀ (w0 W : World) (c : Nat), PK w0 W c 4 (stepCi 4 (stepCi 4 ci0 159).1 1).1 → Calls Try.prog 21 #[.pointer (some ⟨c, 0, none⟩), .int .u8 b.toNat] W fun r w' =>
    (∃ v, r = .returned (.tuple #[v, .int .i64 (errCi (stepCi 4 (stepCi 4 (stepCi 4 ci0 159).1 1).1 b).1 : Nat)]) ∧ Vls w0 w' v (stepCi 4 (stepCi 4 (stepCi 4 ci0 159).1 1).1 b).2) ∧ PK w0 w' c 4 (stepCi 4 (stepCi 4 (stepCi 4 ci0 159).1 1).1 b).1 := fun w0 W c h => P.step w0 W c 4 _ b h (sm_2 4 (by omega) 159 1)
  have hE := others_all ⟨b.toNat, b.toNat_lt⟩ true
  simp only [UInt8.ofNat_toNat] at hE
  have hE : errCi (stepCi 4 (stepCi 4 (stepCi 4 ci0 159).1 1).1 b).1 = wantO b.toNat true := hE
  rw [hE] at hS2
  have hk := other_cases b.toNat b.toNat_lt true
  have h31 := and31 b.toNat b.toNat_lt
  have hB := Lib.hid (fun (w0 W : World) (c : Nat) (s : Ci) (h : PK w0 W c 4 s) => P.bel w0 W c 4 s h)
  have hsh : (b.toNat : Int) / 32 = ((b.toNat / 32 : Nat) : Int) := by omega
  clear hE
  generalize wantO b.toNat true = e at *
  have HS2 := Lib.hid hS2
  clear hS2
  generalize ((b.toNat % 32 : Nat) : Int) = L at *
  generalize ((b.toNat / 32 : Nat) : Int) = M at *
  unfold OthC at hk
  rcases hk with ⟨k1, k2, rfl⟩ | ⟨k1, k2, k3, k4, rfl⟩ | ⟨k1, k2, k3, k4, k5, rfl⟩ | ⟨k1, k2, k3, k4, k5, k6, rfl⟩ | ⟨k1, k2, k3, k4, k5, k6, k7, rfl⟩ | ⟨k1, k3, k5, k6, rfl⟩ | ⟨k1, k3, k5, k6, k7, ⟨k8, k9, rfl⟩ | ⟨k8, k9, rfl⟩ | ⟨k8, k9, k10, rfl⟩ | ⟨k8, k9, k10, rfl⟩⟩ | ⟨k1, k3, k5, k6, k7, rfl⟩
  all_goals
    go_enter Try.func9, Try.ntmps9
    go_wp2_with fail
    refine HA.out.mono ?_
    rintro r w1 ⟨rfl, b1⟩
    have B1 := Lib.hid b1
    clear b1
    go_wp2_with fail
    refine (HN.out _).mono ?_
    rintro r w2 ⟨p, rfl, hP2⟩
    have HP2 := Lib.hid hP2
    clear hP2
    go_wp2
    go_loopw [11, 12, 13] (fun i _ _ wr => (i = .int .i64 0 ∧ Hid (PK w1 wr p 4 ci0) ∨ i = .int .i64 1 ∧ Hid (PK w1 wr p 4 (stepCi 4 ci0 159).1) ∨ i = .int .i64 2 ∧ Hid (PK w1 wr p 4 (stepCi 4 (stepCi 4 ci0 159).1 1).1))) (fun i _ _ _ => 2 - (RowKit.intOf i).toNat)
    case atStart => exact .inl ⟨rfl, HP2⟩
    case round =>
      rcases hrel with ⟨rfl, HP⟩ | ⟨rfl, HP⟩ | ⟨rfl, HP⟩
      · go_wp2_with fail
        refine (HSA.out _ _ _ HP.out).mono ?_
        rintro r w3 ⟨⟨v3, rfl, _⟩, hP3⟩
        have HP3 := Lib.hid hP3
        clear hP3
        go_wp2
        go_roundw
        case rel => exact .inr (.inl ⟨rfl, HP3⟩)
        case measure => simp [RowKit.intOf]
      · go_wp2_with fail
        refine (HSB.out _ _ _ HP.out).mono ?_
        rintro r w3 ⟨⟨v3, rfl, _⟩, hP3⟩
        have HP3 := Lib.hid hP3
        clear hP3
        go_wp2
        go_roundw
        case rel => exact .inr (.inr ⟨rfl, HP3⟩)
        case measure => simp [RowKit.intOf]
      · go_wp2_with fail
        refine (HS2.out _ _ _ HP.out).mono ?_
        rintro r w4 ⟨⟨v4, rfl, _⟩, hP4⟩
        have B4 := Lib.hid (up_trans B1.out (hB.out _ _ _ _ hP4))
        clear hP4
        go_wp2
        go_ret
        exact ⟨rfl, B4.out⟩
theorem cothers_row (H : CinAll) {PK : World → World → Nat → Nat → Ci → Prop} (P : CinP PK) (b : UInt8) (o : Bool) (w : World) :
    Calls Try.prog 9 #[.int .u8 b.toNat, .bool o] w fun r w' => r = .returned (.bool true) ∧ Below w.heap.size w w' := by
  cases o
  · exact cothers_f H P b w
  · exact cothers_t H P b w
end Go.Proofs.Ytgknpheefbfnlaa
