/-
  LAWS of chapter 15, over PinAll and PinP: PackinCounts.
-/
import Derived.Test.YtebnhelejebobaaG0c
import Derived.Test.YtebnhelejebobaaHHeadRh
import Derived.Test.YtebnhelejebobaaG0b
/-
  LAWS of chapter 15, over PinAll and PinP: PackinCounts.
-/
namespace Go.Proofs.Ytebnhelejebobaa
open Go.RowKit
open Go.Lib
def itQ (m : Bool) (N : Nat) : Nat := if m = true then 2 * N else N
/-- Where a reader is behind i parts of a container of a count. -/
def stQ (m : Bool) (N i : Nat) : Pm := .c (if i = itQ m N then .item [] true else .item [⟨m, N, i⟩] false)
theorem stQ_err (m : Bool) (N i : Nat) : errPm (stQ m N i) = 0 := by unfold stQ; split <;> rfl
theorem stQ_done (m : Bool) (N i : Nat) : donePm (stQ m N i) = decide (i = itQ m N) := by
  unfold stQ
  by_cases h : i = itQ m N
  · rw [if_pos h, decide_eq_true h]; rfl
  · rw [if_neg h, decide_eq_false h]; rfl
theorem stQ_step (m : Bool) (N i : Nat) (hi : i < itQ m N) : (stepPm 2 (stQ m N i) 160).1 = stQ m N (i + 1) := by
  have := countP_item m N i hi
  unfold stQ
  rw [if_neg (by omega), this]
  unfold itQ
  split <;> (split <;> rfl)
theorem ends0p {w w1 : World} (b : Below w.drew.heap.size w.drew w1) : Below w.heap.size w w1 :=
  (below_drewN (Below.refl w.heap.size w) 1 : Below w.heap.size w w.drew).trans b
set_option maxRecDepth 100000 in
set_option maxHeartbeats 16000000 in
theorem pcounts_f (H : PinAll) {PK : World → World → Nat → Nat → Pm → Prop} (P : PinP PK) (N g : Nat) (w : World) (hN : N ≤ 15) (hg : g < 4294967296) :
    Calls Try.prog 11 #[.int .i64 N, .bool false, .int .u32 g] w fun r w' => r = .returned (.bool true) ∧ Below w.heap.size w w' := by
  have t1 : ((N : Int) < 0) = False := by simp
  have t2 : ((15 : Int) < (N : Int)) = False := by simp; omega
  have HA := Lib.hid (palive_any H w)
  have HN : Hid (∀ W, Calls Try.prog 19 #[.int .i64 2] W fun r w' => ∃ b, r = .returned (.pointer (some ⟨b, 0, none⟩)) ∧ PK W w' b 2 pm0) := Lib.hid (fun W => P.new_ 2 (by omega) W)
  have hst : (stepPm 2 pm0 (UInt8.ofNat (144 + N))).1 = stQ false N 0 := by
    have := countP_head 2 (by omega) false N (by omega)
    simp only [Bool.false_eq_true, if_false] at this
    rw [this]
    unfold stQ itQ
    by_cases h0 : N = 0
    · subst h0; rfl
    · rw [if_neg h0, if_neg (by simp; omega)]
      rfl
  have hS1 : ∀ (w0 W : World) (c : Nat), PK w0 W c 2 pm0 → Calls Try.prog 20 #[.pointer (some ⟨c, 0, none⟩), .int .u8 ((144 + N : Nat) : Int)] W fun r w' =>
    (∃ v, r = .returned (.tuple #[v, .int .i64 0])) ∧ PK w0 w' c 2 (stQ false N 0) := fun w0 W c h => by
      have hb : (UInt8.ofNat (144 + N)).toNat = 144 + N := by simp; omega
      have := P.step w0 W c 2 pm0 (UInt8.ofNat (144 + N)) h
      rw [hst, stQ_err, hb] at this
      refine this.mono ?_
      rintro r w' ⟨⟨v, rfl, _⟩, hP⟩
      exact ⟨⟨v, rfl⟩, hP⟩
  have hS2 : ∀ (w0 W : World) (c i : Nat), i < N → PK w0 W c 2 (stQ false N i) → Calls Try.prog 20 #[.pointer (some ⟨c, 0, none⟩), .int .u8 160] W fun r w' =>
    (∃ v, r = .returned (.tuple #[v, .int .i64 0])) ∧ PK w0 w' c 2 (stQ false N (i + 1)) := fun w0 W c i hi h => by
      have hx := stQ_step false N i (by simpa [itQ] using hi)
      have := P.step w0 W c 2 _ 160 h
      rw [hx, stQ_err] at this
      refine this.mono ?_
      rintro r w' ⟨⟨v, rfl, _⟩, hP⟩
      exact ⟨⟨v, rfl⟩, hP⟩
  have hD2 : ∀ (w0 W : World) (c i : Nat), PK w0 W c 2 (stQ false N i) → Calls Try.prog 22 #[.pointer (some ⟨c, 0, none⟩)] W fun r w' => r = .returned (.bool (decide (i = N))) ∧ W = w' := fun w0 W c i h => by
      have := P.done w0 W c 2 _ h
      rwa [stQ_done, show itQ false N = N from rfl] at this
  have hB := Lib.hid (fun (w0 W : World) (c : Nat) (s : Pm) (h : PK w0 W c 2 s) => P.bel w0 W c 2 s h)
  have HS1 := Lib.hid hS1
  have HS2 := Lib.hid hS2
  have HD2 := Lib.hid hD2
  have hJ : ∀ W, Calls Try.prog 14 #[.string ⟨(UInt8.ofNat 221 :: bigB 4 g).toArray⟩, .int .i64 2] W fun r w' => ∃ u, r = .returned (.tuple #[u, .int .i64 (allPm 2 (UInt8.ofNat 221 :: bigB 4 g)).2]) ∧ Made W w' u (allPm 2 (UInt8.ofNat 221 :: bigB 4 g)).1.length (allPm 2 (UInt8.ofNat 221 :: bigB 4 g)).1 := fun W => H _ 2 (by omega) (by simp [bigB_length]) W
  have hcg : (allPm 2 (UInt8.ofNat 221 :: bigB 4 g)).2 = if g = 0 then 0 else if 1000000 < g then 7 else 3 := countP_great false g hg
  have e : (⟨(UInt8.ofNat 221 :: bigB 4 g).toArray⟩ : ByteArray) = (⟨#[UInt8.ofNat 221]⟩ : ByteArray) ++ ⟨(bigB 4 g).toArray⟩ := by
    rw [show (⟨#[UInt8.ofNat 221]⟩ : ByteArray) = ⟨[UInt8.ofNat 221].toArray⟩ from rfl, ba_append]
    rfl
  rw [hcg, e] at hJ
  have HJ := Lib.hid hJ
  have s2 : (⟨(bigB 4 g).toArray⟩ : ByteArray).size = 4 := by rw [ba_size, bigB_length]
  have s1 : (⟨#[UInt8.ofNat 221]⟩ : ByteArray).size = 1 := rfl
  have hc : (221 : Int) = (((UInt8.ofNat 221).toNat : Nat) : Int) := by decide
  have HCV := Lib.hid (fun W => ho_new W (UInt8.ofNat 221) 221 hc)
  have HCD := Lib.hid (fun W => ho_drew W (UInt8.ofNat 221) 221 hc)
  have HO := Lib.hid (fun (W W2 : World) hb => ho_old (w := W) (w2 := W2) (UInt8.ofNat 221) 221 hc hb)
  have HBg := Lib.hid (fun W => rbig_n g 4 4 rfl (by omega) (by omega) (by omega) _ rfl W)
  obtain ⟨E, hE⟩ : ∃ E : Nat, (if g = 0 then 0 else if 1000000 < g then 7 else 3) = E := ⟨_, rfl⟩
  rw [hE] at HJ
  have hg3 : (((g : Int) == 0) = true ∧ E = 0) ∨ (((g : Int) == 0) = false ∧ ((1000000 : Int) < (g : Int)) = True ∧ E = 7) ∨ (((g : Int) == 0) = false ∧ ((1000000 : Int) < (g : Int)) = False ∧ E = 3) := by
    subst hE
    by_cases h0 : g = 0
    · exact .inl ⟨by simp; omega, by rw [if_pos h0]⟩
    by_cases h1 : 1000000 < g
    · exact .inr (.inl ⟨by simp; omega, by simp; omega, by rw [if_neg h0, if_pos h1]⟩)
    · exact .inr (.inr ⟨by simp; omega, by simp; omega, by rw [if_neg h0, if_neg h1]⟩)
  have HG3 := Lib.hid hg3
  have hwg : IntKind.u64.wrap (g : Int) = (g : Int) := wrapI_u64 _ (by omega) (by omega)
  have hw8 : IntKind.u8.wrap (144 + (N : Int)) = ((144 + N : Nat) : Int) := by rw [wrapI_u8 _ (by omega) (by omega)]; omega
  clear hS1 hS2 hD2 hst hJ hcg hE hg3 e hc hg
  generalize (⟨#[UInt8.ofNat 221]⟩ : ByteArray) = X at *
  generalize (⟨(bigB 4 g).toArray⟩ : ByteArray) = Y at *
  have hsum : (9223372036854775807 < X.size + Y.size) = False := by simp only [eq_iff_iff, iff_false]; omega
  clear s1 s2
  have hd0 : decide (0 = N) = ((N : Int) == 0) := by
    by_cases h : N = 0
    · rw [decide_eq_true (by omega)]; symm; simp; omega
    · rw [decide_eq_false (by omega)]; symm; simp; omega
  have HD0' := Lib.hid (fun (w0 W : World) (c : Nat) (h : PK w0 W c 2 (stQ false N 0)) => HD2.out w0 W c 0 h)
  rw [hd0] at HD0'
  obtain ⟨B0, hB0⟩ : ∃ B0 : Int, ((144 + N : Nat) : Int) = B0 := ⟨_, rfl⟩
  rw [hB0] at hw8 HS1
  clear hd0 hB0
  go_enter Try.func11, Try.ntmps11
  go_wp2_with fail
  refine HA.out.mono ?_
  rintro r w1 ⟨rfl, b1⟩
  have B1 := Lib.hid b1
  clear b1
  go_wp2_with fail
  refine (HN.out _).mono ?_
  rintro r w3 ⟨p, rfl, hP3⟩
  have HS := Lib.hid (HS1.out _ _ _ hP3)
  clear hP3
  go_wp2_with fail
  refine HS.out.mono ?_
  rintro r w4 ⟨⟨v, rfl⟩, hP4⟩
  have HP4 := Lib.hid hP4
  have HD0 := Lib.hid (HD0'.out _ _ _ hP4)
  clear hP4
  go_wp2_with fail
  refine HD0.out.mono ?_
  rintro r w5 ⟨rfl, rfl⟩
  clear HD0 HS
  go_wp2
  go_loopw [13, 14, 15] (fun i _ _ wq => ∃ q : Nat, i = .int .i64 q ∧ q ≤ N ∧ Hid (PK w1 wq p 2 (stQ false N q))) (fun i _ _ _ => N - (RowKit.intOf i).toNat)
  case atStart => exact ⟨0, rfl, by omega, HP4⟩
  case round =>
    obtain ⟨q, rfl, hq, HQ⟩ := hrel
    clear HP4
    by_cases hlq : q < N
    · have HS := Lib.hid (HS2.out w1 wr p q hlq HQ.out)
      have hdq : decide (q + 1 = N) = ((q : Int) == (N : Int) - 1) := by
        by_cases h : q + 1 = N
        · rw [decide_eq_true h]; symm; simp; omega
        · rw [decide_eq_false h]; symm; simp; omega
      have HDQ : Hid (∀ W, PK w1 W p 2 (stQ false N (q + 1)) → Calls Try.prog 22 #[.pointer (some ⟨p, 0, none⟩)] W fun r w' => r = .returned (.bool ((q : Int) == (N : Int) - 1)) ∧ W = w') := Lib.hid (fun W h => by
        have := HD2.out w1 W p (q + 1) h
        rwa [hdq] at this)
      have hwr : wrap64 ((N : Int) - 1) = (N : Int) - 1 := by unfold wrap64; omega
      clear hdq
      go_wp2_with fail
      refine HS.out.mono ?_
      rintro r w4 ⟨⟨v, rfl⟩, hP⟩
      have HP4 := Lib.hid hP
      clear hP
      go_wp2_with fail
      refine (HDQ.out _ HP4.out).mono ?_
      rintro r w5 ⟨rfl, rfl⟩
      go_wp2
      go_roundw
      case rel => exact ⟨q + 1, rfl, hlq, HP4⟩
      case measure => simp [RowKit.intOf]; omega
    · obtain rfl : q = N := by omega
      have B4 := Lib.hid (up_trans B1.out (hB.out _ _ _ _ HQ.out))
      clear HQ
      have hcv := fun W => HCV.out W
      have hcd := HCD.out wr
      go_wp2_with fail
      go_region_with
        (first
        | ((go_at_call 23); (with_reducible refine (HBg.out _).mono ?_); (rintro e w5 ⟨rfl, b5⟩)
           (first | (have hcx := HO.out wr w5 b5) | skip)
           (have B5 : Hid (Below w.heap.size w w5) := Lib.hid (by first | exact up_trans B4.out (ends0p b5) | exact up_trans B4.out (ends1 b5))))
        | ((go_at_call 14); (with_reducible refine (HJ.out _).mono ?_); (rintro r w6 ⟨u, rfl, hM⟩)
           (have B6 : Hid (Below w.heap.size w w6) := Lib.hid (by first | exact up_trans B5.out hM.1 | exact up_trans (up_alloc B5.out _) hM.1))
           (clear hM)))
      all_goals
        rcases HG3.out with ⟨g1, rfl⟩ | ⟨g1, g2, rfl⟩ | ⟨g1, g2, rfl⟩
        all_goals
          go_wp2
          go_ret
          exact ⟨rfl, B6.out⟩
set_option maxRecDepth 100000 in
set_option maxHeartbeats 16000000 in
theorem pcounts_t (H : PinAll) {PK : World → World → Nat → Nat → Pm → Prop} (P : PinP PK) (N g : Nat) (w : World) (hN : N ≤ 15) (hg : g < 4294967296) :
    Calls Try.prog 11 #[.int .i64 N, .bool true, .int .u32 g] w fun r w' => r = .returned (.bool true) ∧ Below w.heap.size w w' := by
  have t1 : ((N : Int) < 0) = False := by simp
  have t2 : ((15 : Int) < (N : Int)) = False := by simp; omega
  have HA := Lib.hid (palive_any H w)
  have HN : Hid (∀ W, Calls Try.prog 19 #[.int .i64 2] W fun r w' => ∃ b, r = .returned (.pointer (some ⟨b, 0, none⟩)) ∧ PK W w' b 2 pm0) := Lib.hid (fun W => P.new_ 2 (by omega) W)
  have hst : (stepPm 2 pm0 (UInt8.ofNat (128 + N))).1 = stQ true N 0 := by
    have := countP_head 2 (by omega) true N (by omega)
    simp only [if_true] at this
    rw [this]
    unfold stQ itQ
    by_cases h0 : N = 0
    · subst h0; rfl
    · rw [if_neg h0, if_neg (by simp; omega)]
      rfl
  have hS1 : ∀ (w0 W : World) (c : Nat), PK w0 W c 2 pm0 → Calls Try.prog 20 #[.pointer (some ⟨c, 0, none⟩), .int .u8 ((128 + N : Nat) : Int)] W fun r w' =>
    (∃ v, r = .returned (.tuple #[v, .int .i64 0])) ∧ PK w0 w' c 2 (stQ true N 0) := fun w0 W c h => by
      have hb : (UInt8.ofNat (128 + N)).toNat = 128 + N := by simp; omega
      have := P.step w0 W c 2 pm0 (UInt8.ofNat (128 + N)) h
      rw [hst, stQ_err, hb] at this
      refine this.mono ?_
      rintro r w' ⟨⟨v, rfl, _⟩, hP⟩
      exact ⟨⟨v, rfl⟩, hP⟩
  have hS2 : ∀ (w0 W : World) (c i : Nat), i < 2 * N → PK w0 W c 2 (stQ true N i) → Calls Try.prog 20 #[.pointer (some ⟨c, 0, none⟩), .int .u8 160] W fun r w' =>
    (∃ v, r = .returned (.tuple #[v, .int .i64 0])) ∧ PK w0 w' c 2 (stQ true N (i + 1)) := fun w0 W c i hi h => by
      have hx := stQ_step true N i (by simpa [itQ] using hi)
      have := P.step w0 W c 2 _ 160 h
      rw [hx, stQ_err] at this
      refine this.mono ?_
      rintro r w' ⟨⟨v, rfl, _⟩, hP⟩
      exact ⟨⟨v, rfl⟩, hP⟩
  have hD2 : ∀ (w0 W : World) (c i : Nat), PK w0 W c 2 (stQ true N i) → Calls Try.prog 22 #[.pointer (some ⟨c, 0, none⟩)] W fun r w' => r = .returned (.bool (decide (i = 2 * N))) ∧ W = w' := fun w0 W c i h => by
      have := P.done w0 W c 2 _ h
      rwa [stQ_done, show itQ true N = 2 * N from rfl] at this
  have hB := Lib.hid (fun (w0 W : World) (c : Nat) (s : Pm) (h : PK w0 W c 2 s) => P.bel w0 W c 2 s h)
  have HS1 := Lib.hid hS1
  have HS2 := Lib.hid hS2
  have HD2 := Lib.hid hD2
  have hJ : ∀ W, Calls Try.prog 14 #[.string ⟨(UInt8.ofNat 223 :: bigB 4 g).toArray⟩, .int .i64 2] W fun r w' => ∃ u, r = .returned (.tuple #[u, .int .i64 (allPm 2 (UInt8.ofNat 223 :: bigB 4 g)).2]) ∧ Made W w' u (allPm 2 (UInt8.ofNat 223 :: bigB 4 g)).1.length (allPm 2 (UInt8.ofNat 223 :: bigB 4 g)).1 := fun W => H _ 2 (by omega) (by simp [bigB_length]) W
  have hcg : (allPm 2 (UInt8.ofNat 223 :: bigB 4 g)).2 = if g = 0 then 0 else if 1000000 < g then 7 else 3 := countP_great true g hg
  have e : (⟨(UInt8.ofNat 223 :: bigB 4 g).toArray⟩ : ByteArray) = (⟨#[UInt8.ofNat 223]⟩ : ByteArray) ++ ⟨(bigB 4 g).toArray⟩ := by
    rw [show (⟨#[UInt8.ofNat 223]⟩ : ByteArray) = ⟨[UInt8.ofNat 223].toArray⟩ from rfl, ba_append]
    rfl
  rw [hcg, e] at hJ
  have HJ := Lib.hid hJ
  have s2 : (⟨(bigB 4 g).toArray⟩ : ByteArray).size = 4 := by rw [ba_size, bigB_length]
  have s1 : (⟨#[UInt8.ofNat 223]⟩ : ByteArray).size = 1 := rfl
  have hc : (223 : Int) = (((UInt8.ofNat 223).toNat : Nat) : Int) := by decide
  have HCV := Lib.hid (fun W => ho_new W (UInt8.ofNat 223) 223 hc)
  have HCD := Lib.hid (fun W => ho_drew W (UInt8.ofNat 223) 223 hc)
  have HO := Lib.hid (fun (W W2 : World) hb => ho_old (w := W) (w2 := W2) (UInt8.ofNat 223) 223 hc hb)
  have HBg := Lib.hid (fun W => rbig_n g 4 4 rfl (by omega) (by omega) (by omega) _ rfl W)
  obtain ⟨E, hE⟩ : ∃ E : Nat, (if g = 0 then 0 else if 1000000 < g then 7 else 3) = E := ⟨_, rfl⟩
  rw [hE] at HJ
  have hg3 : (((g : Int) == 0) = true ∧ E = 0) ∨ (((g : Int) == 0) = false ∧ ((1000000 : Int) < (g : Int)) = True ∧ E = 7) ∨ (((g : Int) == 0) = false ∧ ((1000000 : Int) < (g : Int)) = False ∧ E = 3) := by
    subst hE
    by_cases h0 : g = 0
    · exact .inl ⟨by simp; omega, by rw [if_pos h0]⟩
    by_cases h1 : 1000000 < g
    · exact .inr (.inl ⟨by simp; omega, by simp; omega, by rw [if_neg h0, if_pos h1]⟩)
    · exact .inr (.inr ⟨by simp; omega, by simp; omega, by rw [if_neg h0, if_neg h1]⟩)
  have HG3 := Lib.hid hg3
  have hwg : IntKind.u64.wrap (g : Int) = (g : Int) := wrapI_u64 _ (by omega) (by omega)
  have hw8 : IntKind.u8.wrap (128 + (N : Int)) = ((128 + N : Nat) : Int) := by rw [wrapI_u8 _ (by omega) (by omega)]; omega
  clear hS1 hS2 hD2 hst hJ hcg hE hg3 e hc hg
  generalize (⟨#[UInt8.ofNat 223]⟩ : ByteArray) = X at *
  generalize (⟨(bigB 4 g).toArray⟩ : ByteArray) = Y at *
  have hsum : (9223372036854775807 < X.size + Y.size) = False := by simp only [eq_iff_iff, iff_false]; omega
  clear s1 s2
  obtain ⟨I, hI0⟩ : ∃ I : Nat, 2 * N = I := ⟨_, rfl⟩
  have hI1 : (I = 0) = (N = 0) := by rw [eq_iff_iff]; omega
  have hit : 2 * (N : Int) = (I : Int) := by omega
  have hI30 : I ≤ 30 := by omega
  rw [hI0] at HS2 HD2
  have hd0 : decide (0 = I) = ((N : Int) == 0) := by
    by_cases h : N = 0
    · rw [decide_eq_true (by omega)]; symm; simp; omega
    · rw [decide_eq_false (by omega)]; symm; simp; omega
  have HD0' := Lib.hid (fun (w0 W : World) (c : Nat) (h : PK w0 W c 2 (stQ true N 0)) => HD2.out w0 W c 0 h)
  rw [hd0] at HD0'
  have HIT := Lib.hid hit
  obtain ⟨B0, hB0⟩ : ∃ B0 : Int, ((128 + N : Nat) : Int) = B0 := ⟨_, rfl⟩
  rw [hB0] at hw8 HS1
  clear hI0 hI1 hd0 hB0
  go_enter Try.func11, Try.ntmps11
  go_wp2_with fail
  refine HA.out.mono ?_
  rintro r w1 ⟨rfl, b1⟩
  have B1 := Lib.hid b1
  clear b1
  go_wp2_with fail
  refine (HN.out _).mono ?_
  rintro r w3 ⟨p, rfl, hP3⟩
  have HS := Lib.hid (HS1.out _ _ _ hP3)
  clear hP3
  go_wp2_with fail
  refine HS.out.mono ?_
  rintro r w4 ⟨⟨v, rfl⟩, hP4⟩
  have HP4 := Lib.hid hP4
  have HD0 := Lib.hid (HD0'.out _ _ _ hP4)
  clear hP4
  go_wp2_with fail
  refine HD0.out.mono ?_
  rintro r w5 ⟨rfl, rfl⟩
  clear HD0 HS
  go_wp2
  go_loopw [13, 14, 15] (fun i _ _ wq => ∃ q : Nat, i = .int .i64 q ∧ q ≤ I ∧ Hid (PK w1 wq p 2 (stQ true N q))) (fun i _ _ _ => I - (RowKit.intOf i).toNat)
  case atStart => exact ⟨0, rfl, by omega, HP4⟩
  case round =>
    obtain ⟨q, rfl, hq, HQ⟩ := hrel
    clear HP4
    by_cases hlq : q < I
    · have HS := Lib.hid (HS2.out w1 wr p q hlq HQ.out)
      have hdq : decide (q + 1 = I) = ((q : Int) == (I : Int) - 1) := by
        by_cases h : q + 1 = I
        · rw [decide_eq_true h]; symm; simp; omega
        · rw [decide_eq_false h]; symm; simp; omega
      have HDQ : Hid (∀ W, PK w1 W p 2 (stQ true N (q + 1)) → Calls Try.prog 22 #[.pointer (some ⟨p, 0, none⟩)] W fun r w' => r = .returned (.bool ((q : Int) == (I : Int) - 1)) ∧ W = w') := Lib.hid (fun W h => by
        have := HD2.out w1 W p (q + 1) h
        rwa [hdq] at this)
      have hwr : wrap64 ((I : Int) - 1) = (I : Int) - 1 := by unfold wrap64; omega
      clear hdq
      go_wp2_with fail
      refine HS.out.mono ?_
      rintro r w4 ⟨⟨v, rfl⟩, hP⟩
      have HP4 := Lib.hid hP
      clear hP
      go_wp2_with fail
      refine (HDQ.out _ HP4.out).mono ?_
      rintro r w5 ⟨rfl, rfl⟩
      go_wp2
      go_roundw
      case rel => exact ⟨q + 1, rfl, hlq, HP4⟩
      case measure => simp [RowKit.intOf]; omega
    · obtain rfl : q = I := by omega
      have B4 := Lib.hid (up_trans B1.out (hB.out _ _ _ _ HQ.out))
      clear HQ
      have hcv := fun W => HCV.out W
      have hcd := HCD.out wr
      go_wp2_with fail
      go_region_with
        (first
        | ((go_at_call 23); (with_reducible refine (HBg.out _).mono ?_); (rintro e w5 ⟨rfl, b5⟩)
           (first | (have hcx := HO.out wr w5 b5) | skip)
           (have B5 : Hid (Below w.heap.size w w5) := Lib.hid (by first | exact up_trans B4.out (ends0p b5) | exact up_trans B4.out (ends1 b5))))
        | ((go_at_call 14); (with_reducible refine (HJ.out _).mono ?_); (rintro r w6 ⟨u, rfl, hM⟩)
           (have B6 : Hid (Below w.heap.size w w6) := Lib.hid (by first | exact up_trans B5.out hM.1 | exact up_trans (up_alloc B5.out _) hM.1))
           (clear hM)))
      all_goals
        rcases HG3.out with ⟨g1, rfl⟩ | ⟨g1, g2, rfl⟩ | ⟨g1, g2, rfl⟩
        all_goals
          go_wp2
          go_ret
          exact ⟨rfl, B6.out⟩
set_option maxRecDepth 100000 in
set_option maxHeartbeats 4000000 in
theorem pcounts_out (H : PinAll) (n : Int) (m : Bool) (g : Nat) (w : World) (h : ¬ (0 ≤ n ∧ n ≤ 15)) :
    Calls Try.prog 11 #[.int .i64 n, .bool m, .int .u32 g] w fun r w' => r = .returned (.bool true) ∧ Below w.heap.size w w' := by
  have hc : (n < 0) = True ∨ (n < 0) = False ∧ ((15 : Int) < n) = True := by
    by_cases h0 : n < 0
    · exact .inl (eq_true h0)
    · exact .inr ⟨eq_false h0, eq_true (by omega)⟩
  have HA := Lib.hid (palive_any H w)
  clear h
  rcases hc with t1 | ⟨t1, t2⟩
  all_goals
    go_enter Try.func11, Try.ntmps11
    go_wp2_with fail
    refine HA.out.mono ?_
    rintro r w1 ⟨rfl, b1⟩
    have B1 := Lib.hid b1
    clear b1
    go_wp2
    go_ret
    exact ⟨rfl, B1.out⟩
theorem pcounts_row (H : PinAll) {PK : World → World → Nat → Nat → Pm → Prop} (P : PinP PK) (n : Int) (m : Bool) (g : Nat) (hg : g < 4294967296) (w : World) :
    Calls Try.prog 11 #[.int .i64 n, .bool m, .int .u32 g] w fun r w' => r = .returned (.bool true) ∧ Below w.heap.size w w' := by
  by_cases h : 0 ≤ n ∧ n ≤ 15
  · obtain ⟨N, rfl⟩ : ∃ N : Nat, n = N := ⟨n.toNat, by omega⟩
    cases m
    · exact pcounts_f H P N g w (by omega) hg
    · exact pcounts_t H P N g w (by omega) hg
  · exact pcounts_out H n m g w h
end Go.Proofs.Ytebnhelejebobaa
