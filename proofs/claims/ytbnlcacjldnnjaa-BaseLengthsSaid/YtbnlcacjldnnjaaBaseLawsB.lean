/-
  LAWS of chapter 8: BaseSigns, BaseLengths.
-/
import Derived.Test.YtbnlcacjldnnjaaBaseLawsA
namespace Go.Proofs.Ytbnlcacjldnnjaa
open Go.RowKit
open Go.Lib
/-- The kinds of signs. -/
theorem sgn_kind (d : Nat) (h : d < 64) : (65 ≤ sgnN d ∧ sgnN d ≤ 90) ∨ (97 ≤ sgnN d ∧ sgnN d ≤ 122) ∨ (48 ≤ sgnN d ∧ sgnN d ≤ 57) ∨ sgnN d = 45 ∨ sgnN d = 95 := by
  unfold sgnN
  split
  · omega
  · split
    · omega
    · split
      · omega
      · split <;> omega
theorem sign_kind (l : List UInt8) (c : UInt8) (h : c ∈ putS l) : (65 ≤ c.toNat ∧ c.toNat ≤ 90) ∨ (97 ≤ c.toNat ∧ c.toNat ≤ 122) ∨ (48 ≤ c.toNat ∧ c.toNat ≤ 57) ∨ c.toNat = 45 ∨ c.toNat = 95 := by
  obtain ⟨d, hd, rfl⟩ := putS_signs l c h
  rw [sgn_toNat d hd]
  exact sgn_kind d hd
set_option maxRecDepth 100000 in
set_option maxHeartbeats 4000000 in
theorem signs_any (x : ByteArray) (w : World) :
    Calls Try.prog 5 #[.string x] w fun e w' => e = .returned (.bool true) ∧ Below w.heap.size w w' := by
  have HA := Lib.hid alive_any
  by_cases hx : 300 < x.size
  · have h1 : ((300 : Int) < (x.size : Int)) = True := by apply eq_true; omega
    clear hx
    go_enter Try.func5, Try.ntmps5
    go_wp2_with fail
    refine (HA.out _).mono ?_
    rintro e w1 ⟨rfl, b1⟩
    go_wp2
    go_ret
    exact ⟨rfl, b1⟩
  have h0 : ((300 : Int) < (x.size : Int)) = False := by apply eq_false; omega
  have HP := Lib.hid (fun W => put_any x W (by omega))
  have hpl : ((⟨(putS x.data.toList).toArray⟩ : ByteArray).size) = (4 * x.size + 2) / 3 := by rw [size_of, putS_length, size_list]
  have HL := Lib.hid (fun W => len_nat x.size (by omega) W)
  rw [← hpl] at HL
  have hps : ((⟨(putS x.data.toList).toArray⟩ : ByteArray).size : Int) ≤ 100000 := by omega
  have HK : Hid (∀ (i : Nat) (hi : i < (⟨(putS x.data.toList).toArray⟩ : ByteArray).size), (fun c : UInt8 => (65 ≤ c.toNat ∧ c.toNat ≤ 90) ∨ (97 ≤ c.toNat ∧ c.toNat ≤ 122) ∨ (48 ≤ c.toNat ∧ c.toNat ≤ 57) ∨ c.toNat = 45 ∨ c.toNat = 95) ((⟨(putS x.data.toList).toArray⟩ : ByteArray)[i]'hi)) := Lib.hid (fun i hi => sign_kind x.data.toList _ (by
    rw [size_of] at hi
    show ((putS x.data.toList).toArray[i]'(by simpa using hi)) ∈ _
    simp))
  clear hpl hx
  generalize (⟨(putS x.data.toList).toArray⟩ : ByteArray) = p at *
  have h6 : ((p.size : Int) == (p.size : Int)) = true := by simp
  go_enter Try.func5, Try.ntmps5
  go_wp2_with fail
  refine (HA.out _).mono ?_
  rintro e w1 ⟨rfl, b1⟩
  have B1 := Lib.hid b1
  clear b1
  go_wp2_with fail
  refine (HP.out _).mono ?_
  rintro e w2 ⟨rfl, b2⟩
  have B2 := Lib.hid (B1.out.trans (b2.mono B1.out.size))
  clear b2
  go_wp2_with fail
  go_loopw [4, 5] (fun i _ wr => ∃ k : Nat, i = .int .i64 k ∧ k ≤ p.size ∧ w2 = wr) (fun i _ _ => p.size - (RowKit.intOf i).toNat)
  case atStart => exact ⟨0, rfl, Nat.zero_le _, rfl⟩
  case round =>
    obtain ⟨k, rfl, hk, rfl⟩ := hrel
    by_cases hp : k < p.size
    · have hkd := HK.out k hp
      have hix := index_str p k hp
      generalize p[k]'hp = c at hkd hix
      have hc : c.toNat < 256 := c.toNat_lt
      generalize c.toNat = m at *
      have hlt : ((k : Int) < (p.size : Int)) = True := by apply eq_true; omega
      rcases hkd with hkd | hkd | hkd | hkd | hkd
      · have t0 : ((65 : Int) ≤ (m : Int)) = True := by apply eq_true; omega
        have t1 : ((m : Int) ≤ (90 : Int)) = True := by apply eq_true; omega
        clear hkd hc
        go_wp2_with fail
        go_roundw
        case rel => exact ⟨k + 1, by go_num, hp, by first | rfl | trivial⟩
        case measure =>
          simp only [RowKit.intOf]
          omega
      · have t0 : ((65 : Int) ≤ (m : Int)) = True := by apply eq_true; omega
        have t1 : ((m : Int) ≤ (90 : Int)) = False := by apply eq_false; omega
        have t2 : ((97 : Int) ≤ (m : Int)) = True := by apply eq_true; omega
        have t3 : ((m : Int) ≤ (122 : Int)) = True := by apply eq_true; omega
        clear hkd hc
        go_wp2_with fail
        go_roundw
        case rel => exact ⟨k + 1, by go_num, hp, by first | rfl | trivial⟩
        case measure =>
          simp only [RowKit.intOf]
          omega
      · have t0 : ((65 : Int) ≤ (m : Int)) = False := by apply eq_false; omega
        have t2 : ((97 : Int) ≤ (m : Int)) = False := by apply eq_false; omega
        have t4 : ((48 : Int) ≤ (m : Int)) = True := by apply eq_true; omega
        have t5 : ((m : Int) ≤ (57 : Int)) = True := by apply eq_true; omega
        clear hkd hc
        go_wp2_with fail
        go_roundw
        case rel => exact ⟨k + 1, by go_num, hp, by first | rfl | trivial⟩
        case measure =>
          simp only [RowKit.intOf]
          omega
      · have t0 : ((65 : Int) ≤ (m : Int)) = False := by apply eq_false; omega
        have t2 : ((97 : Int) ≤ (m : Int)) = False := by apply eq_false; omega
        have t4 : ((48 : Int) ≤ (m : Int)) = False := by apply eq_false; omega
        have t6 : ((m : Int) == 45) = true := by rw [beq_iff_eq]; omega
        clear hkd hc
        go_wp2_with fail
        go_roundw
        case rel => exact ⟨k + 1, by go_num, hp, by first | rfl | trivial⟩
        case measure =>
          simp only [RowKit.intOf]
          omega
      · have t0 : ((65 : Int) ≤ (m : Int)) = True := by apply eq_true; omega
        have t1 : ((m : Int) ≤ (90 : Int)) = False := by apply eq_false; omega
        have t2 : ((97 : Int) ≤ (m : Int)) = False := by apply eq_false; omega
        have t4 : ((48 : Int) ≤ (m : Int)) = True := by apply eq_true; omega
        have t5 : ((m : Int) ≤ (57 : Int)) = False := by apply eq_false; omega
        have t6 : ((m : Int) == 45) = false := by apply beq_false_of_ne; omega
        have t7 : ((m : Int) == 95) = true := by rw [beq_iff_eq]; omega
        clear hkd hc
        go_wp2_with fail
        go_roundw
        case rel => exact ⟨k + 1, by go_num, hp, by first | rfl | trivial⟩
        case measure =>
          simp only [RowKit.intOf]
          omega
    · have hlt : ((k : Int) < (p.size : Int)) = False := by apply eq_false; omega
      go_wp2_with fail
      refine (HL.out _).mono ?_
      rintro e w3 ⟨rfl, rfl⟩
      go_wp2
      go_ret
      exact ⟨rfl, B2.out⟩
set_option maxRecDepth 100000 in
set_option maxHeartbeats 4000000 in
theorem lengths_any (x : ByteArray) (w : World) :
    Calls Try.prog 7 #[.string x] w fun e w' => e = .returned (.bool true) ∧ Below w.heap.size w w' := by
  have HA := Lib.hid alive_any
  by_cases hx : 200 < x.size
  · have h1 : ((200 : Int) < (x.size : Int)) = True := by apply eq_true; omega
    clear hx
    go_enter Try.func7, Try.ntmps7
    go_wp2_with fail
    refine (HA.out _).mono ?_
    rintro e w1 ⟨rfl, b1⟩
    go_wp2
    go_ret
    exact ⟨rfl, b1⟩
  have h0 : ((200 : Int) < (x.size : Int)) = False := by apply eq_false; omega
  have HG := Lib.hid (fun W => get_lit x W (by omega) _ _ _ rfl rfl rfl)
  by_cases hm : x.size % 4 = 1
  · have hn := getS_one x.data.toList (by rw [size_list]; exact hm)
    rw [hn] at HG
    have h2 : ((x.size : Int) % 4 = 1) = True := by apply eq_true; omega
    have h2b : (((x.size : Int) % 4) == 1) = true := by rw [beq_iff_eq]; omega
    clear hx hm hn
    go_enter Try.func7, Try.ntmps7
    go_wp2_with fail
    refine (HA.out _).mono ?_
    rintro e w1 ⟨rfl, b1⟩
    have B1 := Lib.hid b1
    clear b1
    go_wp2_with fail
    refine (HG.out _).mono ?_
    rintro e w2 ⟨rfl, b2⟩
    have B2 := Lib.hid (B1.out.trans (b2.mono B1.out.size))
    clear b2
    go_wp2
    go_ret
    exact ⟨rfl, B2.out⟩
  have h2 : ((x.size : Int) % 4 = 1) = False := by apply eq_false; omega
  have h2b : (((x.size : Int) % 4) == 1) = false := by apply beq_false_of_ne; omega
  cases hg : getS x.data.toList with
  | none =>
    rw [hg] at HG
    clear hx hm hg
    go_enter Try.func7, Try.ntmps7
    go_wp2_with fail
    refine (HA.out _).mono ?_
    rintro e w1 ⟨rfl, b1⟩
    have B1 := Lib.hid b1
    clear b1
    go_wp2_with fail
    refine (HG.out _).mono ?_
    rintro e w2 ⟨rfl, b2⟩
    have B2 := Lib.hid (B1.out.trans (b2.mono B1.out.size))
    clear b2
    go_wp2
    go_ret
    exact ⟨rfl, B2.out⟩
  | some b =>
    rw [hg] at HG
    have hp := (getS_some _ _).1 hg
    have hl : (⟨b.toArray⟩ : ByteArray).size ≤ 200 ∧ (4 * (⟨b.toArray⟩ : ByteArray).size + 2) / 3 = x.size := by
      have h3 := putS_length b
      rw [hp, size_list] at h3
      rw [size_of]
      omega
    have HP := Lib.hid (fun W => put_lit ⟨b.toArray⟩ W (by omega) x (by show x = ⟨(putS b).toArray⟩; rw [hp, list_bytes]))
    have HL := Lib.hid (fun W => len_nat (⟨b.toArray⟩ : ByteArray).size (by omega) W)
    rw [hl.2] at HL
    have hb : (⟨((some b).getD []).toArray⟩ : ByteArray) = ⟨b.toArray⟩ := rfl
    rw [hb, show (some b).isSome = true from rfl] at HG
    clear hx hm hg hp hb hl
    generalize (⟨b.toArray⟩ : ByteArray) = y at *
    have h3 : (x.toList == x.toList) = true := by simp
    have h6 : ((x.size : Int) == (x.size : Int)) = true := by simp
    go_enter Try.func7, Try.ntmps7
    go_wp2_with fail
    refine (HA.out _).mono ?_
    rintro e w1 ⟨rfl, b1⟩
    have B1 := Lib.hid b1
    clear b1
    go_wp2_with fail
    refine (HG.out _).mono ?_
    rintro e w2 ⟨rfl, b2⟩
    have B2 := Lib.hid (B1.out.trans (b2.mono B1.out.size))
    clear b2
    go_wp2_with fail
    refine (HL.out _).mono ?_
    rintro e w3 ⟨rfl, rfl⟩
    go_wp2_with fail
    refine (HP.out _).mono ?_
    rintro e w3 ⟨rfl, b3⟩
    have B3 := Lib.hid (B2.out.trans (b3.mono B2.out.size))
    clear b3
    go_wp2
    go_ret
    exact ⟨rfl, B3.out⟩
end Go.Proofs.Ytbnlcacjldnnjaa
