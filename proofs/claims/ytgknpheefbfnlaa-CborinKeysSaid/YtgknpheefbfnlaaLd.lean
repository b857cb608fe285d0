/-
  LAW of chapter 13: CborinKeys.
-/
import Derived.Test.YtgknpheefbfnlaaGj
import Derived.Test.YtgknpheefbfnlaaGi
import Derived.Test.YtgknpheefbfnlaaGb
import Derived.Test.YtgknpheefbfnlaaGa
/-
  LAWS of chapter 13, over CinAll and CinP: CborinKeys.
-/
namespace Go.Proofs.Ytgknpheefbfnlaa
open Go.RowKit
open Go.Lib
/-- What the law asks of a byte, one by one. -/
def KeyC (o : Bool) (L M Y : Int) (e : Nat) : Prop :=
  ((28 ≤ L) = True ∧ (L ≤ 30) = True ∧ e = 2) ∨
  ((28 ≤ L) = True ∧ (L ≤ 30) = False ∧ (L == 31) = true ∧ (M < 2) = True ∧ e = 2) ∨
  ((28 ≤ L) = True ∧ (L ≤ 30) = False ∧ (L == 31) = true ∧ (M < 2) = False ∧ (M == 6) = true ∧ e = 2) ∨
  ((28 ≤ L) = True ∧ (L ≤ 30) = False ∧ (L == 31) = true ∧ (M < 2) = False ∧ (M == 6) = false ∧ (Y == 255) = true ∧ e = if o = true then 0 else 2) ∨
  ((28 ≤ L) = True ∧ (L ≤ 30) = False ∧ (L == 31) = true ∧ (M < 2) = False ∧ (M == 6) = false ∧ (Y == 255) = false ∧ ((M == 3) = false ∧ e = 8 ∨ (M == 3) = true ∧ e = 0)) ∨
  ((28 ≤ L) = False ∧ (L == 31) = false ∧ (Y == 255) = false ∧ ((M == 3) = false ∧ e = 8 ∨ (M == 3) = true ∧ e = 0))
theorem key_cases (b : Nat) (hb : b < 256) (o : Bool) : KeyC o ((b % 32 : Nat) : Int) ((b / 32 : Nat) : Int) (b : Int) (wantK b o) := by
  have h : ∀ (b : Fin 256) (o : Bool), (28 ≤ b.val % 32 ∧ b.val % 32 ≤ 30 ∧ wantK b.val o = 2) ∨ (b.val % 32 = 31 ∧ b.val / 32 < 2 ∧ wantK b.val o = 2) ∨ (b.val % 32 = 31 ∧ b.val / 32 = 6 ∧ wantK b.val o = 2) ∨
      (b.val = 255 ∧ wantK b.val o = if o = true then 0 else 2) ∨ (b.val % 32 = 31 ∧ 2 ≤ b.val / 32 ∧ b.val / 32 < 6 ∧ (b.val / 32 ≠ 3 ∧ wantK b.val o = 8 ∨ b.val / 32 = 3 ∧ wantK b.val o = 0)) ∨
      (b.val % 32 < 28 ∧ (b.val / 32 ≠ 3 ∧ wantK b.val o = 8 ∨ b.val / 32 = 3 ∧ wantK b.val o = 0)) := by decide +kernel
  have h := h ⟨b, hb⟩ o
  simp only at h
  generalize wantK b o = e at h
  unfold KeyC
  simp only [eq_iff_iff, iff_true, iff_false, beq_iff_eq, beq_eq_false_iff_ne]
  rcases h with h | h | h | h | h | h
  · exact .inl (by omega)
  · exact .inr (.inl (by omega))
  · exact .inr (.inr (.inl (by omega)))
  · exact .inr (.inr (.inr (.inl ⟨by omega, by omega, by omega, by omega, by omega, by omega, h.2⟩)))
  · exact .inr (.inr (.inr (.inr (.inl (by omega)))))
  · exact .inr (.inr (.inr (.inr (.inr (by omega)))))
set_option maxRecDepth 100000 in
set_option maxHeartbeats 8000000 in
theorem ckeys_f (H : CinAll) {PK : World → World → Nat → Nat → Ci → Prop} (P : CinP PK) (b : UInt8) (w : World) :
    Calls Try.prog 11 #[.int .u8 b.toNat, .bool false] w fun r w' => r = .returned (.bool true) ∧ Below w.heap.size w w' := by
  have HA := Lib.hid (calive_any H w)
  have HN : Hid (∀ W, Calls Try.prog 20 #[.int .i64 4] W fun r w' => ∃ b, r = .returned (.pointer (some ⟨b, 0, none⟩)) ∧ PK W w' b 4 ci0) := Lib.hid (fun W => P.new_ 4 (by omega) W)
  have HS1 : Hid (∀ (w0 W : World) (c : Nat), PK w0 W c 4 ci0 → Calls Try.prog 21 #[.pointer (some ⟨c, 0, none⟩), .int .u8 161] W fun r w' =>
    (∃ v, r = .returned (.tuple #[v, .int .i64 (errCi (stepCi 4 ci0 161).1 : Nat)]) ∧ Vls w0 w' v (stepCi 4 ci0 161).2) ∧ PK w0 w' c 4 (stepCi 4 ci0 161).1) := Lib.hid (fun w0 W c h => P.step w0 W c 4 ci0 161 h sm_0)
  have HS2 : Hid (∀ (w0 W : World) (c : Nat) (s : Ci), PK w0 W c 4 s → SmC s → Calls Try.prog 21 #[.pointer (some ⟨c, 0, none⟩), .int .u8 b.toNat] W fun r w' =>
    (∃ v, r = .returned (.tuple #[v, .int .i64 (errCi (stepCi 4 s b).1 : Nat)]) ∧ Vls w0 w' v (stepCi 4 s b).2) ∧ PK w0 w' c 4 (stepCi 4 s b).1) := Lib.hid (fun w0 W c s h hs => P.step w0 W c 4 s b h hs)
  have HJ := Lib.hid (fun W => H [191, 97, 97, 255] 4 (by omega) (by simp) W)
  rw [keys_more] at HJ
  have hE := keys_all ⟨b.toNat, b.toNat_lt⟩ false
  simp only [UInt8.ofNat_toNat] at hE
  have hE : errCi (stepCi 4 (stepCi 4 ci0 161).1 b).1 = wantK b.toNat false := hE
  have HE := Lib.hid hE
  have HK := Lib.hid (key_cases b.toNat b.toNat_lt false)
  have h31 := and31 b.toNat b.toNat_lt
  have hB := Lib.hid (fun (w0 W : World) (c : Nat) (s : Ci) (h : PK w0 W c 4 s) => P.bel w0 W c 4 s h)
  clear hE
  have hsh : (b.toNat : Int) / 32 = ((b.toNat / 32 : Nat) : Int) := by omega
  go_enter Try.func11, Try.ntmps11
  go_wp2_with fail
  refine HA.out.mono ?_
  rintro r w1 ⟨rfl, b1⟩
  have B1 := Lib.hid b1
  clear b1
  go_wp2_with fail
  refine (HN.out _).mono ?_
  rintro r w2 ⟨p, rfl, hP2⟩
  have HP2 := Lib.hid hP2
  clear hP2
  go_wp2_with fail
  refine (HS1.out _ _ _ HP2.out).mono ?_
  rintro r w3 ⟨⟨v3, rfl, _⟩, hP3⟩
  have HP3 := Lib.hid hP3
  clear hP3
  go_wp2_with fail
  refine (HS2.out _ _ _ _ HP3.out (sm_1 4 (by omega) _)).mono ?_
  rintro r w4 ⟨⟨v4, rfl, _⟩, hP4⟩
  have B4 := Lib.hid (up_trans B1.out (hB.out _ _ _ _ hP4))
  clear hP4
  have hk := HK.out
  rw [HE.out]
  generalize wantK b.toNat false = e at *
  clear HE HK
  generalize ((b.toNat % 32 : Nat) : Int) = L at *
  generalize ((b.toNat / 32 : Nat) : Int) = M at *
  generalize (b.toNat : Int) = Y at *
  unfold KeyC at hk
  rcases hk with ⟨k1, k2, rfl⟩ | ⟨k1, k2, k3, k4, rfl⟩ | ⟨k1, k2, k3, k4, k5, rfl⟩ | ⟨k1, k2, k3, k4, k5, k6, rfl⟩ | ⟨k1, k2, k3, k4, k5, k6, ⟨k7, rfl⟩ | ⟨k7, rfl⟩⟩ | ⟨k1, k3, k6, ⟨k7, rfl⟩ | ⟨k7, rfl⟩⟩
  all_goals
    go_wp2_with fail
    refine (HJ.out _).mono ?_
    rintro r w5 ⟨u, rfl, hM⟩
    have B5 := Lib.hid (up_trans B4.out hM.1)
    clear hM
    go_wp2
    go_ret
    exact ⟨rfl, B5.out⟩
set_option maxRecDepth 100000 in
set_option maxHeartbeats 8000000 in
theorem ckeys_t (H : CinAll) {PK : World → World → Nat → Nat → Ci → Prop} (P : CinP PK) (b : UInt8) (w : World) :
    Calls Try.prog 11 #[.int .u8 b.toNat, .bool true] w fun r w' => r = .returned (.bool true) ∧ Below w.heap.size w w' := by
  have HA := Lib.hid (calive_any H w)
  have HN : Hid (∀ W, Calls Try.prog 20 #[.int .i64 4] W fun r w' => ∃ b, r = .returned (.pointer (some ⟨b, 0, none⟩)) ∧ PK W w' b 4 ci0) := Lib.hid (fun W => P.new_ 4 (by omega) W)
  have HS1 : Hid (∀ (w0 W : World) (c : Nat), PK w0 W c 4 ci0 → Calls Try.prog 21 #[.pointer (some ⟨c, 0, none⟩), .int .u8 191] W fun r w' =>
    (∃ v, r = .returned (.tuple #[v, .int .i64 (errCi (stepCi 4 ci0 191).1 : Nat)]) ∧ Vls w0 w' v (stepCi 4 ci0 191).2) ∧ PK w0 w' c 4 (stepCi 4 ci0 191).1) := Lib.hid (fun w0 W c h => P.step w0 W c 4 ci0 191 h sm_0)
  have HS2 : Hid (∀ (w0 W : World) (c : Nat) (s : Ci), PK w0 W c 4 s → SmC s → Calls Try.prog 21 #[.pointer (some ⟨c, 0, none⟩), .int .u8 b.toNat] W fun r w' =>
    (∃ v, r = .returned (.tuple #[v, .int .i64 (errCi (stepCi 4 s b).1 : Nat)]) ∧ Vls w0 w' v (stepCi 4 s b).2) ∧ PK w0 w' c 4 (stepCi 4 s b).1) := Lib.hid (fun w0 W c s h hs => P.step w0 W c 4 s b h hs)
  have HJ := Lib.hid (fun W => H [191, 97, 97, 255] 4 (by omega) (by simp) W)
  rw [keys_more] at HJ
  have hE := keys_all ⟨b.toNat, b.toNat_lt⟩ true
  simp only [UInt8.ofNat_toNat] at hE
  have hE : errCi (stepCi 4 (stepCi 4 ci0 191).1 b).1 = wantK b.toNat true := hE
  have HE := Lib.hid hE
  have HK := Lib.hid (key_cases b.toNat b.toNat_lt true)
  have h31 := and31 b.toNat b.toNat_lt
  have hB := Lib.hid (fun (w0 W : World) (c : Nat) (s : Ci) (h : PK w0 W c 4 s) => P.bel w0 W c 4 s h)
  clear hE
  have hsh : (b.toNat : Int) / 32 = ((b.toNat / 32 : Nat) : Int) := by omega
  go_enter Try.func11, Try.ntmps11
  go_wp2_with fail
  refine HA.out.mono ?_
  rintro r w1 ⟨rfl, b1⟩
  have B1 := Lib.hid b1
  clear b1
  go_wp2_with fail
  refine (HN.out _).mono ?_
  rintro r w2 ⟨p, rfl, hP2⟩
  have HP2 := Lib.hid hP2
  clear hP2
  go_wp2_with fail
  refine (HS1.out _ _ _ HP2.out).mono ?_
  rintro r w3 ⟨⟨v3, rfl, _⟩, hP3⟩
  have HP3 := Lib.hid hP3
  clear hP3
  go_wp2_with fail
  refine (HS2.out _ _ _ _ HP3.out (sm_1 4 (by omega) _)).mono ?_
  rintro r w4 ⟨⟨v4, rfl, _⟩, hP4⟩
  have B4 := Lib.hid (up_trans B1.out (hB.out _ _ _ _ hP4))
  clear hP4
  have hk := HK.out
  rw [HE.out]
  generalize wantK b.toNat true = e at *
  clear HE HK
  generalize ((b.toNat % 32 : Nat) : Int) = L at *
  generalize ((b.toNat / 32 : Nat) : Int) = M at *
  generalize (b.toNat : Int) = Y at *
  unfold KeyC at hk
  rcases hk with ⟨k1, k2, rfl⟩ | ⟨k1, k2, k3, k4, rfl⟩ | ⟨k1, k2, k3, k4, k5, rfl⟩ | ⟨k1, k2, k3, k4, k5, k6, rfl⟩ | ⟨k1, k2, k3, k4, k5, k6, ⟨k7, rfl⟩ | ⟨k7, rfl⟩⟩ | ⟨k1, k3, k6, ⟨k7, rfl⟩ | ⟨k7, rfl⟩⟩
  all_goals
    go_wp2_with fail
    refine (HJ.out _).mono ?_
    rintro r w5 ⟨u, rfl, hM⟩
    have B5 := Lib.hid (up_trans B4.out hM.1)
    clear hM
    go_wp2
    go_ret
    exact ⟨rfl, B5.out⟩
theorem ckeys_row (H : CinAll) {PK : World → World → Nat → Nat → Ci → Prop} (P : CinP PK) (b : UInt8) (o : Bool) (w : World) :
    Calls Try.prog 11 #[.int .u8 b.toNat, .bool o] w fun r w' => r = .returned (.bool true) ∧ Below w.heap.size w w' := by
  cases o
  · exact ckeys_f H P b w
  · exact ckeys_t H P b w
end Go.Proofs.Ytgknpheefbfnlaa
