/-
  CONTRACTS of the document's own Base and Unbase.
-/
import Derived.Test.YtbnlcacjldnnjaaBase
import Derived.BigQuiet
namespace Go.Proofs.Ytbnlcacjldnnjaa
open Go.RowKit
open Go.Lib
def vvB (t : List UInt8) : Nat → Nat
  | 0 => 0
  | k + 1 => vvB t k * 256 + (t.getD k 0).toNat
def sigs (v k : Nat) : List UInt8 := (List.range k).map fun j => sgn (v / 2 ^ (18 - 6 * j) % 64)
theorem vvB_lt (t : List UInt8) (k : Nat) : vvB t k < 256 ^ k := by
  induction k with
  | zero => exact Nat.one_pos
  | succ k ih =>
    have := u8_lt (t.getD k 0)
    show vvB t k * 256 + _ < 256 ^ (k + 1)
    rw [Nat.pow_succ]
    omega
theorem sigs_succ (v k : Nat) : sigs v (k + 1) = sigs v k ++ [sgn (v / 2 ^ (18 - 6 * k) % 64)] := by
  unfold sigs
  rw [List.range_succ, List.map_append]
  rfl
theorem sigs_put (t : List UInt8) (h1 : 1 ≤ t.length) (h2 : t.length ≤ 3) : sigs (vvB t 3) (t.length + 1) = putS t := by
  match t, h1, h2 with
  | [a], _, _ =>
    have ha := u8_lt a
    show [sgn ((((0 * 256 + a.toNat) * 256 + 0) * 256 + 0) / 2 ^ 18 % 64), sgn ((((0 * 256 + a.toNat) * 256 + 0) * 256 + 0) / 2 ^ 12 % 64)] = [_, _]
    congr 2
    · omega
    · congr 1
      omega
  | [a, b], _, _ =>
    have ha := u8_lt a
    have hb := u8_lt b
    show [sgn ((((0 * 256 + a.toNat) * 256 + b.toNat) * 256 + 0) / 2 ^ 18 % 64), sgn ((((0 * 256 + a.toNat) * 256 + b.toNat) * 256 + 0) / 2 ^ 12 % 64), sgn ((((0 * 256 + a.toNat) * 256 + b.toNat) * 256 + 0) / 2 ^ 6 % 64)] = _
    rw [putS, show (((0 * 256 + a.toNat) * 256 + b.toNat) * 256 + 0) / 2 ^ 18 % 64 = a.toNat / 4 by omega, show (((0 * 256 + a.toNat) * 256 + b.toNat) * 256 + 0) / 2 ^ 12 % 64 = a.toNat % 4 * 16 + b.toNat / 16 by omega, show (((0 * 256 + a.toNat) * 256 + b.toNat) * 256 + 0) / 2 ^ 6 % 64 = b.toNat % 16 * 4 by omega]
  | [a, b, c], _, _ =>
    have ha := u8_lt a
    have hb := u8_lt b
    have hc := u8_lt c
    show [sgn ((((0 * 256 + a.toNat) * 256 + b.toNat) * 256 + c.toNat) / 2 ^ 18 % 64), sgn ((((0 * 256 + a.toNat) * 256 + b.toNat) * 256 + c.toNat) / 2 ^ 12 % 64), sgn ((((0 * 256 + a.toNat) * 256 + b.toNat) * 256 + c.toNat) / 2 ^ 6 % 64), sgn ((((0 * 256 + a.toNat) * 256 + b.toNat) * 256 + c.toNat) / 2 ^ 0 % 64)] = _
    rw [putS, putS, show (((0 * 256 + a.toNat) * 256 + b.toNat) * 256 + c.toNat) / 2 ^ 18 % 64 = a.toNat / 4 by omega, show (((0 * 256 + a.toNat) * 256 + b.toNat) * 256 + c.toNat) / 2 ^ 12 % 64 = a.toNat % 4 * 16 + b.toNat / 16 by omega, show (((0 * 256 + a.toNat) * 256 + b.toNat) * 256 + c.toNat) / 2 ^ 6 % 64 = b.toNat % 16 * 4 + c.toNat / 64 by omega, show (((0 * 256 + a.toNat) * 256 + b.toNat) * 256 + c.toNat) / 2 ^ 0 % 64 = c.toNat % 64 by omega]
theorem size_of (l : List UInt8) : (⟨l.toArray⟩ : ByteArray).size = l.length := by simp [ByteArray.size]
theorem cat_of (l k : List UInt8) : (⟨l.toArray⟩ : ByteArray) ++ ⟨k.toArray⟩ = ⟨(l ++ k).toArray⟩ := by
  apply ByteArray.ext
  simp
/-- One sign, as a text. -/
theorem sign_slice (d : Nat) (h : d < 64) (W : World) : (Instr.slice 9 (.string ⟨#[65, 66, 67, 68, 69, 70, 71, 72, 73, 74, 75, 76, 77, 78, 79, 80, 81, 82, 83, 84, 85, 86, 87, 88, 89, 90, 97, 98, 99, 100, 101, 102, 103, 104, 105, 106, 107, 108, 109, 110, 111, 112, 113, 114, 115, 116, 117, 118, 119, 120, 121, 122, 48, 49, 50, 51, 52, 53, 54, 55, 56, 57, 45, 95]⟩) (some (.int .i64 (d : Int))) (some (.int .i64 ((d : Int) + 1))) none).run Try.prog W = .ok (.string ⟨[sgn d].toArray⟩) W := by
  have h2 := signs64_at ⟨d, h⟩
  obtain ⟨h3, h4⟩ := List.getElem?_eq_some_iff.1 h2
  have := slice_str_lh signs64 d (d + 1) (by omega) (by show d + 1 ≤ 64; omega) W
  show (Instr.slice 9 (.string signs64) (some (.int .i64 (d : Int))) (some (.int .i64 ((d : Int) + 1))) none).run Try.prog W = _
  rw [show ((d + 1 : Nat) : Int) = (d : Int) + 1 by omega] at this
  rw [this]
  congr 2
  apply ByteArray.ext
  apply Array.toList_inj.1
  rw [show (signs64.extract d (d + 1)).data.toList = (signs64.data.toList.take (d + 1)).drop d from ext_list signs64 d (d + 1), List.take_add_one, h2, List.drop_append_of_le_length (by rw [List.length_take]; have : signs64.data.toList.length = 64 := rfl; omega), List.drop_eq_nil_of_le (by rw [List.length_take]; omega)]
  rfl
theorem and63i (x : Nat) (h : x < 9223372036854775808) : bits .and .i64 (x : Int) 63 = ((x % 64 : Nat) : Int) := by
  have h1 : (BitVec.ofInt 64 (x : Int)).toNat = x := by
    rw [BitVec.ofInt_natCast, BitVec.toNat_ofNat]; exact Nat.mod_eq_of_lt (by omega)
  have h2 : (BitVec.ofInt 64 (63 : Int)).toNat = 63 := by decide
  show IntKind.i64.wrap ((BitVec.ofInt 64 (x : Int) &&& BitVec.ofInt 64 (63 : Int)).toNat : Int) = _
  rw [BitVec.toNat_and, h1, h2, show 63 = 2 ^ 6 - 1 by decide, Nat.and_two_pow_sub_one_eq_mod, IntKind.wrap_i64]
  omega
theorem sh63 (V P : Nat) (h : V < 9223372036854775808) : bits .and .i64 ((V : Int) / (P : Int)) 63 = ((V / P % 64 : Nat) : Int) := by
  rw [show (V : Int) / (P : Int) = ((V / P : Nat) : Int) by simp]
  exact and63i _ (Nat.lt_of_le_of_lt (Nat.div_le_self _ _) h)
structure BaI (l : List UInt8) (i : Nat) (O : ByteArray) : Prop where
  three : i % 3 = 0
  out : O = ⟨(putS (l.take i)).toArray⟩
set_option maxRecDepth 100000 in
set_option maxHeartbeats 4000000 in
theorem rbase_any (s : ByteArray) (w : World) (hs : s.size ≤ 1000000) :
    Calls Try.prog 12 #[.string s] w fun e w' => e = .returned (.string ⟨(putS s.data.toList).toArray⟩) ∧ w = w' := by
  have hl : s.data.toList.length = s.size := size_list s
  obtain ⟨Z, hZ⟩ : ∃ Z : ByteArray, Z = ⟨(putS s.data.toList).toArray⟩ := ⟨_, rfl⟩
  rw [← hZ]
  have HZ := Lib.hid hZ
  clear hZ
  go_enter Try.func12, Try.ntmps12
  go_wp2_with fail
  go_loopw [3, 4] (fun o i wr => ∃ (k : Nat) (O : ByteArray), o = .string O ∧ i = .int .i64 k ∧ k ≤ s.size + 2 ∧ (O.size : Int) ≤ 2000000 ∧ Hid (BaI s.data.toList k O) ∧ w = wr) (fun _ i _ => s.size + 2 - (RowKit.intOf i).toNat)
  case atStart => exact ⟨0, _, rfl, rfl, by omega, by decide, Lib.hid ⟨rfl, rfl⟩, rfl⟩
  case round =>
    obtain ⟨i, O, rfl, rfl, hi, hO, HI, rfl⟩ := hrel
    by_cases hp : i < s.size
    · obtain ⟨t, ht⟩ : ∃ t, t = (s.data.toList.drop i).take 3 := ⟨_, rfl⟩
      obtain ⟨n, hn⟩ : ∃ n : Nat, n = t.length := ⟨_, rfl⟩
      have hn2 : n = min (s.size - i) 3 := by rw [hn, ht, List.length_take, List.length_drop, hl, Nat.min_comm]
      have hn1 : 1 ≤ n ∧ n ≤ 3 ∧ i + n ≤ s.size := by omega
      have hm : min ((s.size : Int) - i) 3 = (n : Int) := by omega
      have HT := Lib.hid (And.intro ht hn)
      clear ht hn2 hn
      go_wp2_with fail
      go_loopw [5, 7] (fun v k wr => ∃ j : Nat, j ≤ 3 ∧ k = .int .i64 j ∧ v = .int .i64 ((vvB t j : Nat) : Int) ∧ w = wr) (fun _ k _ => 3 - (RowKit.intOf k).toNat)
      case atStart => exact ⟨0, by omega, rfl, rfl, rfl⟩
      case round =>
        obtain ⟨j, hj, rfl, rfl, rfl⟩ := hrel
        by_cases h3 : j < 3
        · have hvl := vvB_lt t j
          have hv : ((vvB t j : Nat) : Int) < 65536 := by
            have : 256 ^ j ≤ 256 ^ 2 := Nat.pow_le_pow_right (by decide) (by omega)
            omega
          have hv0 : 0 ≤ ((vvB t j : Nat) : Int) := by omega
          by_cases hjn : j < n
          · have hq : i + j < s.size := by omega
            have HV : Hid (wrap64 (((vvB t j : Nat) : Int) * 256 + wrap64 (((s[i + j]'hq).toNat : Nat) : Int)) = ((vvB t (j + 1) : Nat) : Int)) := Lib.hid (by
              have hb := u8_lt (s[i + j]'hq)
              have : t.getD j 0 = s[i + j]'hq := by
                rw [List.getD_eq_getElem?_getD, HT.out.1, List.getElem?_take_of_lt h3, List.getElem?_drop, List.getElem?_eq_getElem (by omega)]
                rfl
              rw [IntWalk.wrap64_in (((s[i + j]'hq).toNat : Nat) : Int) ⟨by omega, by omega⟩, IntWalk.wrap64_in _ ⟨by omega, by omega⟩]
              show _ = ((vvB t j * 256 + (t.getD j 0).toNat : Nat) : Int)
              rw [this]
              omega)
            clear hvl
            generalize ((vvB t j : Nat) : Int) = V at *
            go_wp2_with fail
            refine ⟨⟨j + 1, by omega, by go_num, by rw [HV.out], by first | rfl | trivial⟩, ?_⟩
            simp only [RowKit.intOf]
            omega
          · have HV : Hid (((vvB t j : Nat) : Int) * 256 = ((vvB t (j + 1) : Nat) : Int)) := Lib.hid (by
              have : t.getD j 0 = 0 := by
                rw [List.getD_eq_getElem?_getD, List.getElem?_eq_none (by have := HT.out.2; omega)]
                rfl
              show _ = ((vvB t j * 256 + (t.getD j 0).toNat : Nat) : Int)
              rw [this]
              show _ = ((vvB t j * 256 + 0 : Nat) : Int)
              omega)
            clear hvl
            generalize ((vvB t j : Nat) : Int) = V at *
            go_wp2_with fail
            go_roundw
            case rel => exact ⟨j + 1, by omega, by go_num, by rw [HV.out], by first | rfl | trivial⟩
            case measure =>
              simp only [RowKit.intOf]
              omega
        · obtain rfl : j = 3 := by omega
          have HVV : Hid (vvB t 3 = vvB t 3) := Lib.hid rfl
          have hvl := vvB_lt t 3
          have hv : ((vvB t 3 : Nat) : Int) < 16777216 := by omega
          have HS := Lib.hid (sigs_put t (by have := HT.out.2; omega) (by have := HT.out.2; omega))
          generalize vvB t 3 = V at *
          clear hvl HVV hm
          go_wp2_with fail
          have HIO : ∀ D : ByteArray, Hid ((⟨(putS (s.data.toList.take i)).toArray⟩ : ByteArray) = D) → True := fun _ _ => trivial
          clear HIO
          go_loopw [3, 8] (fun o k wr => ∃ (j : Nat) (Y : ByteArray), j ≤ n + 1 ∧ k = .int .i64 j ∧ o = .string Y ∧ Hid ((Y.size : Int) ≤ 2000000 + j) ∧ Hid (Y = ⟨(putS (s.data.toList.take i) ++ sigs V j).toArray⟩) ∧ w = wr) (fun _ k _ => 5 - (RowKit.intOf k).toNat)
          case atStart => exact ⟨0, O, by omega, rfl, rfl, Lib.hid (by omega), Lib.hid (by rw [HI.out.out]; simp [sigs]), rfl⟩
          case round =>
            obtain ⟨j, Y, hj, rfl, rfl, HYS, HY, rfl⟩ := hrel
            have hY : (Y.size : Int) ≤ 3000000 := by
              have := HYS.out
              omega
            by_cases hjn : j ≤ n
            · have h4 : j = 0 ∨ j = 1 ∨ j = 2 ∨ j = 3 := by omega
              rcases h4 with rfl | rfl | rfl | rfl
              · have hD : V / 262144 % 64 < 64 := Nat.mod_lt _ (by decide)
                have hsl := sign_slice _ hD
                have hle : ((0 : Int) ≤ (n : Int)) = True := by
                  apply eq_true
                  show (0 : Int) ≤ n
                  omega
                have HJN := Lib.hid hjn
                clear hjn
                have HN : Hid (Y ++ ⟨[sgn (V / 262144 % 64)].toArray⟩ = ⟨(putS (s.data.toList.take i) ++ sigs V (0 + 1)).toArray⟩) := Lib.hid (by
                  rw [HY.out, cat_of, sigs_succ V 0, List.append_assoc])
                have ha : bits .and .i64 ((V : Int) / 262144) 63 = ((V / 262144 % 64 : Nat) : Int) := sh63 V 262144 (by omega)
                generalize V / 262144 % 64 = D at hD hsl HN ha
                have hzz : (⟨[sgn D].toArray⟩ : ByteArray).size = 1 := size_of _
                generalize (⟨[sgn D].toArray⟩ : ByteArray) = z at hsl HN hzz
                have hzs : (z.size : Int) ≤ 1 := by omega
                have hY' := HYS.out
                have hsum : (((Y ++ z).size : Nat) : Int) ≤ 2000000 + ((0 + 1 : Nat) : Int) := by
                  rw [ByteArray.size_append]
                  omega
                have HSUM := Lib.hid hsum
                clear hsum hzz hY'
                have hDi : (D : Int) < 64 := by omega
                go_wp2_with fail
                have hjn := HJN.out
                refine ⟨⟨0 + 1, _, by omega, by first | rfl | go_num, rfl, HSUM, HN, by first | rfl | trivial⟩, ?_⟩
                simp only [RowKit.intOf]
                omega
              · have hD : V / 4096 % 64 < 64 := Nat.mod_lt _ (by decide)
                have hsl := sign_slice _ hD
                have hle : ((1 : Int) ≤ (n : Int)) = True := by
                  apply eq_true
                  show (1 : Int) ≤ n
                  omega
                have HJN := Lib.hid hjn
                clear hjn
                have HN : Hid (Y ++ ⟨[sgn (V / 4096 % 64)].toArray⟩ = ⟨(putS (s.data.toList.take i) ++ sigs V (1 + 1)).toArray⟩) := Lib.hid (by
                  rw [HY.out, cat_of, sigs_succ V 1, List.append_assoc])
                have ha : bits .and .i64 ((V : Int) / 4096) 63 = ((V / 4096 % 64 : Nat) : Int) := sh63 V 4096 (by omega)
                generalize V / 4096 % 64 = D at hD hsl HN ha
                have hzz : (⟨[sgn D].toArray⟩ : ByteArray).size = 1 := size_of _
                generalize (⟨[sgn D].toArray⟩ : ByteArray) = z at hsl HN hzz
                have hzs : (z.size : Int) ≤ 1 := by omega
                have hY' := HYS.out
                have hsum : (((Y ++ z).size : Nat) : Int) ≤ 2000000 + ((1 + 1 : Nat) : Int) := by
                  rw [ByteArray.size_append]
                  omega
                have HSUM := Lib.hid hsum
                clear hsum hzz hY'
                have hDi : (D : Int) < 64 := by omega
                go_wp2_with fail
                have hjn := HJN.out
                refine ⟨⟨1 + 1, _, by omega, by first | rfl | go_num, rfl, HSUM, HN, by first | rfl | trivial⟩, ?_⟩
                simp only [RowKit.intOf]
                omega
              · have hD : V / 64 % 64 < 64 := Nat.mod_lt _ (by decide)
                have hsl := sign_slice _ hD
                have hle : ((2 : Int) ≤ (n : Int)) = True := by
                  apply eq_true
                  show (2 : Int) ≤ n
                  omega
                have HJN := Lib.hid hjn
                clear hjn
                have HN : Hid (Y ++ ⟨[sgn (V / 64 % 64)].toArray⟩ = ⟨(putS (s.data.toList.take i) ++ sigs V (2 + 1)).toArray⟩) := Lib.hid (by
                  rw [HY.out, cat_of, sigs_succ V 2, List.append_assoc])
                have ha : bits .and .i64 ((V : Int) / 64) 63 = ((V / 64 % 64 : Nat) : Int) := sh63 V 64 (by omega)
                generalize V / 64 % 64 = D at hD hsl HN ha
                have hzz : (⟨[sgn D].toArray⟩ : ByteArray).size = 1 := size_of _
                generalize (⟨[sgn D].toArray⟩ : ByteArray) = z at hsl HN hzz
                have hzs : (z.size : Int) ≤ 1 := by omega
                have hY' := HYS.out
                have hsum : (((Y ++ z).size : Nat) : Int) ≤ 2000000 + ((2 + 1 : Nat) : Int) := by
                  rw [ByteArray.size_append]
                  omega
                have HSUM := Lib.hid hsum
                clear hsum hzz hY'
                have hDi : (D : Int) < 64 := by omega
                go_wp2_with fail
                have hjn := HJN.out
                refine ⟨⟨2 + 1, _, by omega, by first | rfl | go_num, rfl, HSUM, HN, by first | rfl | trivial⟩, ?_⟩
                simp only [RowKit.intOf]
                omega
              · have hD : V / 1 % 64 < 64 := Nat.mod_lt _ (by decide)
                have hsl := sign_slice _ hD
                have hle : ((3 : Int) ≤ (n : Int)) = True := by
                  apply eq_true
                  show (3 : Int) ≤ n
                  omega
                have HJN := Lib.hid hjn
                clear hjn
                have HN : Hid (Y ++ ⟨[sgn (V / 1 % 64)].toArray⟩ = ⟨(putS (s.data.toList.take i) ++ sigs V (3 + 1)).toArray⟩) := Lib.hid (by
                  rw [HY.out, cat_of, sigs_succ V 3, List.append_assoc])
                have ha : bits .and .i64 (V : Int) 63 = ((V / 1 % 64 : Nat) : Int) := by
                  rw [Nat.div_one]
                  exact and63i _ (by omega)
                generalize V / 1 % 64 = D at hD hsl HN ha
                have hzz : (⟨[sgn D].toArray⟩ : ByteArray).size = 1 := size_of _
                generalize (⟨[sgn D].toArray⟩ : ByteArray) = z at hsl HN hzz
                have hzs : (z.size : Int) ≤ 1 := by omega
                have hY' := HYS.out
                have hsum : (((Y ++ z).size : Nat) : Int) ≤ 2000000 + ((3 + 1 : Nat) : Int) := by
                  rw [ByteArray.size_append]
                  omega
                have HSUM := Lib.hid hsum
                clear hsum hzz hY'
                have hDi : (D : Int) < 64 := by omega
                go_wp2_with fail
                have hjn := HJN.out
                refine ⟨⟨3 + 1, _, by omega, by first | rfl | go_num, rfl, HSUM, HN, by first | rfl | trivial⟩, ?_⟩
                simp only [RowKit.intOf]
                omega
            · obtain rfl : j = n + 1 := by omega
              have HF : Hid (BaI s.data.toList (i + 3) Y) := Lib.hid (by
                have h3 := HI.out.three
                refine ⟨by omega, ?_⟩
                have hS := HS.out
                rw [← HT.out.2] at hS
                rw [HY.out, hS, HT.out.1, ← putS_append _ _ (by rw [List.length_take, Nat.min_eq_left (by omega)]; exact h3), ← List.take_add])
              have hYs : (Y.size : Int) ≤ 2000000 := by
                have h1 : Y.size = (putS (s.data.toList.take (i + 3))).length := by
                  rw [HF.out.out]
                  exact size_of _
                rw [putS_length, List.length_take] at h1
                omega
              clear HY HS HI hj hjn HYS
              have hle : ((n : Int) + 1 ≤ (n : Int)) = False := by
                apply eq_false
                omega
              have HYs := Lib.hid hYs
              clear hYs
              go_wp2_with fail
              refine ⟨⟨i + 3, Y, rfl, by go_num, by omega, HYs.out, HF, by first | rfl | trivial⟩, ?_⟩
              simp only [RowKit.intOf]
              omega
    · obtain ⟨hi1, hi2⟩ : s.size ≤ i ∧ True := ⟨by omega, trivial⟩
      have hO2 : O = Z := by
        rw [HI.out.out, HZ.out, List.take_of_length_le (by omega)]
      subst hO2
      go_wp2
      go_ret
      exact ⟨rfl, rfl⟩
end Go.Proofs.Ytbnlcacjldnnjaa
