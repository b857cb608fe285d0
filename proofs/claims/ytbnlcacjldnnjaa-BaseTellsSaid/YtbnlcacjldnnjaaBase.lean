import Derived.Test.YtbnlcacjldnnjaaBaseMach
import Derived.Test.YtbnlcacjldnnjaaSb
import Derived.Test.YtbnlcacjldnnjaaKit
import Derived.Laws.RangeAny
namespace Go.Proofs.Ytbnlcacjldnnjaa
open Go.RowKit
open Go.Lib
def lenS (n : Int) : Int := if n < 0 ∨ 1000000 < n then 0 else (4 * n + 2) / 3
theorem lenS_no (n : Int) (h : n < 0 ∨ 1000000 < n) : lenS n = 0 := by unfold lenS; rw [if_pos h]
theorem lenS_is (n : Int) (h0 : 0 ≤ n) (h1 : n ≤ 1000000) : lenS n = (n * 8 + 6 - 1) / 6 := by unfold lenS; rw [if_neg (by omega)]; omega
set_option maxHeartbeats 1000000 in
theorem len_any (n : Int) (w : World) :
    Calls Try.prog 13 #[.int .i64 n] w fun e w' => e = .returned (.int .i64 (lenS n)) ∧ w = w' := by
  have H1 := Lib.hid (lenS_no n)
  have H2 := Lib.hid (lenS_is n)
  generalize lenS n = z at *
  go_enter Try.func13, Try.ntmps13
  go_wp2
  all_goals go_ret
  all_goals first
    | exact ⟨by rw [H1.out (by omega)]; rfl, rfl⟩
    | exact ⟨by rw [H2.out (by omega) (by omega)]; rfl, rfl⟩
theorem valS_a (r : Nat) (h : 65 ≤ (r : Int)) (h1 : (r : Int) ≤ 90) : ((valS r).isSome = true) ∧ (((valS r).getD 0 : Nat) : Int) = (r : Int) - 65 := by
  have : valS r = some (r - 65) := by unfold valS; rw [if_pos (by omega)]
  rw [this]
  exact ⟨rfl, by show ((r - 65 : Nat) : Int) = _; omega⟩
theorem valS_b (r : Nat) (h : 97 ≤ (r : Int)) (h1 : (r : Int) ≤ 122) : ((valS r).isSome = true) ∧ (((valS r).getD 0 : Nat) : Int) = (r : Int) - 97 + 26 := by
  have : valS r = some (r - 71) := by unfold valS; rw [if_neg (by omega), if_pos (by omega)]
  rw [this]
  exact ⟨rfl, by show ((r - 71 : Nat) : Int) = _; omega⟩
theorem valS_c (r : Nat) (h : 48 ≤ (r : Int)) (h1 : (r : Int) ≤ 57) : ((valS r).isSome = true) ∧ (((valS r).getD 0 : Nat) : Int) = (r : Int) - 48 + 52 := by
  have : valS r = some (r + 4) := by unfold valS; rw [if_neg (by omega), if_neg (by omega), if_pos (by omega)]
  rw [this]
  exact ⟨rfl, by show ((r + 4 : Nat) : Int) = _; omega⟩
theorem valS_d (r : Nat) (h : ((r : Int) == 45) = true) : ((valS r).isSome = true) ∧ (((valS r).getD 0 : Nat) : Int) = 62 := by
  have h : r = 45 := by have := eq_of_beq h; omega
  rw [h]
  exact ⟨rfl, rfl⟩
theorem valS_e (r : Nat) (h : ((r : Int) == 95) = true) : ((valS r).isSome = true) ∧ (((valS r).getD 0 : Nat) : Int) = 63 := by
  have h : r = 95 := by have := eq_of_beq h; omega
  rw [h]
  exact ⟨rfl, rfl⟩
theorem valS_f (r : Nat) (h0 : (r : Int) < 65 ∨ 90 < (r : Int)) (h1 : (r : Int) < 97 ∨ 122 < (r : Int)) (h2 : (r : Int) < 48 ∨ 57 < (r : Int)) (h3 : ((r : Int) == 45) = false) (h4 : ((r : Int) == 95) = false) : ((valS r).isSome = false) ∧ (((valS r).getD 0 : Nat) : Int) = 0 := by
  have h3 := ne_of_beq_false h3
  have h4 := ne_of_beq_false h4
  have : valS r = none := by unfold valS; rw [if_neg (by omega), if_neg (by omega), if_neg (by omega), if_neg (by omega), if_neg (by omega)]
  rw [this]
  exact ⟨rfl, rfl⟩
set_option maxHeartbeats 2000000 in
theorem meant_any (r : Nat) (w : World) :
    Calls Try.prog 17 #[.int .i32 r] w fun e w' => e = .returned (.tuple #[.int .u64 (((valS r).getD 0 : Nat) : Int), .bool (valS r).isSome]) ∧ w = w' := by
  have HA := Lib.hid (valS_a r)
  have HB := Lib.hid (valS_b r)
  have HC := Lib.hid (valS_c r)
  have HD := Lib.hid (valS_d r)
  have HE := Lib.hid (valS_e r)
  have HF := Lib.hid (valS_f r)
  generalize (((valS r).getD 0 : Nat) : Int) = x at *
  generalize (valS r).isSome = y at *
  go_enter Try.func17, Try.ntmps17
  go_wp2
  all_goals go_ret2
  all_goals first
    | (obtain ⟨rfl, rfl⟩ := HA.out (by omega) (by omega); exact ⟨rfl, rfl⟩)
    | (obtain ⟨rfl, rfl⟩ := HB.out (by omega) (by omega); exact ⟨rfl, rfl⟩)
    | (obtain ⟨rfl, rfl⟩ := HC.out (by omega) (by omega); exact ⟨rfl, rfl⟩)
    | (obtain ⟨rfl, rfl⟩ := HD.out (by assumption); exact ⟨rfl, rfl⟩)
    | (obtain ⟨rfl, rfl⟩ := HE.out (by assumption); exact ⟨rfl, rfl⟩)
    | (obtain ⟨rfl, rfl⟩ := HF.out (by omega) (by omega) (by omega) (by assumption) (by assumption); exact ⟨rfl, rfl⟩)

theorem len_nat (n : Nat) (h : n ≤ 1000000) (w : World) :
    Calls Try.prog 13 #[.int .i64 (n : Int)] w fun e w' => e = .returned (.int .i64 (((4 * n + 2) / 3 : Nat) : Int)) ∧ w = w' := by
  have h := len_any (n : Int) w
  rw [show lenS (n : Int) = (((4 * n + 2) / 3 : Nat) : Int) by unfold lenS; rw [if_neg (by omega)]; omega] at h
  exact h
structure PutI (B : Nat) (w wr : World) (m : Nat) (k : Nat) (a : List UInt8) : Prop where
  bld : IsB B B a wr
  below : Below B w wr
  sz : B ≤ wr.heap.size
  len : 6 * a.length + m = 8 * k
structure PutR (l : List UInt8) (h m k : Nat) (a : List UInt8) : Prop where
  eq : runP (0, 0, []) (l.take k) = (h, m, a)
  lt : m < 6
  u : h < 18446744073709551616
theorem flush_len (h m : Nat) (a : List UInt8) : 6 * (flushP h m a).2.length + (flushP h m a).1 = 6 * a.length + m := by
  have key : ∀ (k m : Nat) (a : List UInt8), m ≤ k → 6 * (flushP h m a).2.length + (flushP h m a).1 = 6 * a.length + m := by
    intro k
    induction k with
    | zero => intro m a hm; rw [flush_lt _ _ _ (by omega)]
    | succ k ih =>
      intro m a hm
      by_cases h6 : m < 6
      · rw [flush_lt _ _ _ h6]
      · rw [flush_ge _ _ _ (by omega), ih _ _ (by omega)]
        simp
        omega
  exact key m m a (Nat.le_refl _)
theorem wrapB_u64 (n : Nat) : IntKind.u64.wrap (n : Int) = ((n % 18446744073709551616 : Nat) : Int) := by
  simp [IntKind.wrap, IntKind.bits, IntKind.signed]
theorem and_lowk (x k : Nat) (h : x < 18446744073709551616) (hk : k ≤ 63) : bits .and .u64 (x : Int) ((2 ^ k - 1 : Nat) : Int) = ((x % 2 ^ k : Nat) : Int) := by
  have hp : 2 ^ k ≤ 2 ^ 63 := Nat.pow_le_pow_right (by decide) hk
  have h1 : (BitVec.ofInt 64 (x : Int)).toNat = x := by
    rw [BitVec.ofInt_natCast, BitVec.toNat_ofNat]; exact Nat.mod_eq_of_lt (by omega)
  have h2 : (BitVec.ofInt 64 ((2 ^ k - 1 : Nat) : Int)).toNat = 2 ^ k - 1 := by
    rw [BitVec.ofInt_natCast, BitVec.toNat_ofNat]; exact Nat.mod_eq_of_lt (by omega)
  show IntKind.u64.wrap ((BitVec.ofInt 64 (x : Int) &&& BitVec.ofInt 64 ((2 ^ k - 1 : Nat) : Int)).toNat : Int) = _
  rw [BitVec.toNat_and, h1, h2, Nat.and_two_pow_sub_one_eq_mod, wrapB_u64, Nat.mod_eq_of_lt (a := x % 2 ^ k) (Nat.lt_of_le_of_lt (Nat.mod_le _ _) h)]
theorem and63 (x : Nat) (h : x < 18446744073709551616) : bits .and .u64 (x : Int) 63 = ((x % 64 : Nat) : Int) := and_lowk x 6 h (by decide)
theorem or_low (a c k : Nat) (ha : 2 ^ k * a + c < 18446744073709551616) (hc : c < 2 ^ k) : bits .or .u64 ((2 ^ k * a : Nat) : Int) (c : Int) = ((2 ^ k * a + c : Nat) : Int) := by
  have h1 : (BitVec.ofInt 64 ((2 ^ k * a : Nat) : Int)).toNat = 2 ^ k * a := by
    rw [BitVec.ofInt_natCast, BitVec.toNat_ofNat]; exact Nat.mod_eq_of_lt (by omega)
  have h2 : (BitVec.ofInt 64 (c : Int)).toNat = c := by
    rw [BitVec.ofInt_natCast, BitVec.toNat_ofNat]; exact Nat.mod_eq_of_lt (by omega)
  show IntKind.u64.wrap ((BitVec.ofInt 64 ((2 ^ k * a : Nat) : Int) ||| BitVec.ofInt 64 (c : Int)).toNat : Int) = _
  rw [BitVec.toNat_or, h1, h2, ← Nat.two_pow_add_eq_or_of_lt hc, wrapB_u64, Nat.mod_eq_of_lt ha]
theorem shl8 (h : Nat) (b : UInt8) : bits .or .u64 (IntKind.u64.wrap ((h : Int) * 256)) (IntKind.u64.wrap (b.toNat : Int)) = ((heldP h b : Nat) : Int) := by
  have hb := u8_lt b
  have e1 : IntKind.u64.wrap ((h : Int) * 256) = ((2 ^ 8 * (h % 72057594037927936) : Nat) : Int) := by
    rw [show (h : Int) * 256 = ((h * 256 : Nat) : Int) by omega, wrapB_u64]
    congr 1
    omega
  rw [e1, wrapB_u64, Nat.mod_eq_of_lt (a := b.toNat) (by omega), or_low _ _ 8 (by omega) (by omega)]
  unfold heldP
  congr 1
  omega
theorem heldP_lt (h : Nat) (b : UInt8) : heldP h b < 18446744073709551616 := by
  have hb := u8_lt b
  unfold heldP
  omega
theorem sign_at (d : Nat) (h : d < 64) (W : World) : (Instr.index 9 (.string ⟨#[65, 66, 67, 68, 69, 70, 71, 72, 73, 74, 75, 76, 77, 78, 79, 80, 81, 82, 83, 84, 85, 86, 87, 88, 89, 90, 97, 98, 99, 100, 101, 102, 103, 104, 105, 106, 107, 108, 109, 110, 111, 112, 113, 114, 115, 116, 117, 118, 119, 120, 121, 122, 48, 49, 50, 51, 52, 53, 54, 55, 56, 57, 45, 95]⟩) (.int .u64 (d : Int))).run Try.prog W = .ok (.int .u8 (((sgn d).toNat : Nat) : Int)) W := by
  have h2 := signs64_at ⟨d, h⟩
  obtain ⟨h3, h4⟩ := List.getElem?_eq_some_iff.1 h2
  show (Instr.index 9 (.string signs64) (.int .u64 (d : Int))).run Try.prog W = _
  rw [run_index_string W 9 signs64 .u64 (d : Int) Try.underlying9, dif_pos (by exact ⟨by omega, by show (d : Int) < 64; omega⟩)]
  rw [← h4]
  rfl
theorem and_sh (H m : Nat) (h : H < 18446744073709551616) : bits .and .u64 ((H : Int) / 2 ^ (m - 6)) 63 = ((H / 2 ^ (m - 6) % 64 : Nat) : Int) := by
  have hc : ((H : Int) / 2 ^ (m - 6)) = ((H / 2 ^ (m - 6) : Nat) : Int) := by simp
  rw [hc, and63 _ (Nat.lt_of_le_of_lt (Nat.div_le_self _ _) h)]
theorem and_end (h n : Nat) : bits .and .u64 (IntKind.u64.wrap ((h : Int) * 2 ^ (6 - n))) 63 = ((h * 2 ^ (6 - n) % 64 : Nat) : Int) := by
  have hc : ((h : Int) * 2 ^ (6 - n)) = ((h * 2 ^ (6 - n) : Nat) : Int) := by simp
  rw [hc, wrapB_u64, and63 _ (Nat.mod_lt _ (by decide))]
  congr 1
  exact Nat.mod_mod_of_dvd _ (by decide)
set_option maxRecDepth 100000 in
set_option maxHeartbeats 4000000 in
/-- PUT. -/
theorem put_any (s : ByteArray) (w : World) (hs : s.size ≤ 1000000) :
    Calls Try.prog 9 #[.string s] w fun e w' => e = .returned (.string ⟨(putS s.data.toList).toArray⟩) ∧ Below w.heap.size w w' := by
  have hl : s.data.toList.length = s.size := size_list s
  obtain ⟨B, hB⟩ : ∃ B, B = w.heap.size := ⟨_, rfl⟩
  have hnew : (w.alloc (.cells #[.pointer none, .slice none 0 0] 34)).heap[w.heap.size]? = some (.cells #[.pointer none, .slice none 0 0] 34 (0, 0)) := by rw [World.alloc]; exact Array.getElem?_push_size
  have hbel : Below w.heap.size w (w.alloc (.cells #[.pointer none, .slice none 0 0] 34)) := (Below.refl _ w).alloc (Nat.le_refl _) _
  have HG := Lib.hid (sb_grow w.heap.size w.heap.size ((4 * s.size + 2) / 3) (w.alloc (.cells #[.pointer none, .slice none 0 0] 34)) (Nat.le_refl _) hnew (by simp) (by omega))
  have HB := Lib.hid hB
  have HE := Lib.hid hbel
  clear hnew hbel
  rw [← hB] at HG HE ⊢
  clear hB
  obtain ⟨Z, hZ⟩ : ∃ Z : ByteArray, Z = ⟨(putS s.data.toList).toArray⟩ := ⟨_, rfl⟩
  rw [← hZ]
  have HZ := Lib.hid hZ
  clear hZ
  go_enter Try.func9, Try.ntmps9
  go_wp2_with (go_at_call 13; refine (len_nat _ (by assumption) _).mono ?_; rintro e w1 ⟨rfl, rfl⟩)
  rw [← HB.out]
  refine HG.out.mono ?_
  rintro e w1 ⟨rfl, i1, b1⟩
  have HI : Hid (PutI B w w1 0 0 []) := Lib.hid { bld := i1, below := HE.out.trans b1, sz := by have := HB.out; have := b1.size; have h2 := HE.out.size; simp at this ⊢; omega, len := rfl }
  have HR : Hid (PutR s.data.toList 0 0 0 []) := Lib.hid { eq := rfl, lt := by decide, u := by decide }
  clear i1 b1 HG HE
  go_wp2_with fail
  go_loopw [4, 5, 13] (fun x y z wr => ∃ (k h n : Nat) (acc : List UInt8), x = .int .u64 h ∧ y = .int .i64 n ∧ z = .int .i64 k ∧ k ≤ s.size ∧ Hid (PutI B w wr n k acc) ∧ Hid (PutR s.data.toList h n k acc)) (fun _ _ z _ => s.size - (RowKit.intOf z).toNat)
  case atStart => exact ⟨0, 0, 0, [], rfl, rfl, rfl, Nat.zero_le _, HI, HR⟩
  case round =>
    clear HI HR
    obtain ⟨k, h, n, acc, rfl, rfl, rfl, hk, HI, HR⟩ := hrel
    have hn : n < 6 := HR.out.lt
    by_cases hp : k < s.size
    · have hsh := shl8 h (s[k]'hp)
      have hHl := heldP_lt h (s[k]'hp)
      have HP : Hid (runP (0, 0, []) (s.data.toList.take (k + 1)) = (heldP h (s[k]'hp), flushP (heldP h (s[k]'hp)) (n + 8) acc)) := Lib.hid (by
        rw [List.take_add_one, show s.data.toList[k]? = some (s[k]'hp) by rw [List.getElem?_eq_getElem (by omega)]; rfl, Option.toList_some, runP_snoc, HR.out.eq]
        rfl)
      generalize heldP h (s[k]'hp) = H at hsh hHl HP
      have HHl := Lib.hid hHl
      clear hHl
      go_wp2_with fail
      clear hsh
      go_loopw [5] (fun y wr => ∃ (m : Nat) (a : List UInt8), m ≤ n + 8 ∧ y = .int .i64 m ∧ Hid (PutI B w wr m (k + 1) a) ∧ Hid (flushP H m a = flushP H (n + 8) acc)) (fun y _ => (RowKit.intOf y).toNat)
      case atStart => exact ⟨n + 8, acc, Nat.le_refl _, by go_num, Lib.hid { bld := HI.out.bld, below := HI.out.below, sz := HI.out.sz, len := by have := HI.out.len; omega }, Lib.hid rfl⟩
      case round =>
        obtain ⟨m, a, hm, rfl, HJ, HF⟩ := hrel
        by_cases h6 : m < 6
        · go_wp2_with fail
          have HK : Hid (PutR s.data.toList H m (k + 1) a) := Lib.hid { eq := by rw [HP.out, ← HF.out, flush_lt _ _ _ h6], lt := h6, u := HHl.out }
          go_roundw
          case rel => exact ⟨k + 1, H, m, a, rfl, rfl, by go_num, by omega, HJ, HK⟩
          case measure =>
            simp only [RowKit.intOf]
            omega
        · have ha := and_sh H m HHl.out
          have hD : H / 2 ^ (m - 6) % 64 < 64 := Nat.mod_lt _ (by decide)
          have hi := sign_at _ hD
          have HF2 : Hid (flushP H (m - 6) (a ++ [sgn (H / 2 ^ (m - 6) % 64)]) = flushP H (n + 8) acc) := Lib.hid (by rw [← HF.out, flush_ge H m a (by omega)])
          generalize H / 2 ^ (m - 6) % 64 = D at ha hD hi HF2
          have hDi : (D : Int) < 64 := by omega
          go_wp2_with fail
          refine (sb_byte B B a (sgn D) wr HJ.out.bld (by have := HJ.out.len; omega) HJ.out.sz).mono ?_
          rintro e w3 ⟨rfl, i3, b3, _⟩
          have HN : Hid (PutI B w w3 (m - 6) (k + 1) (a ++ [sgn D])) := Lib.hid { bld := i3, below := HJ.out.below.trans b3, sz := by have := b3.size; have := HJ.out.sz; omega, len := by have := HJ.out.len; simp; omega }
          clear i3 b3
          go_wp2
          go_roundw
          case rel => exact ⟨m - 6, _, by omega, by go_num, HN, HF2⟩
          case measure =>
            simp only [RowKit.intOf]
            omega
    · obtain rfl : k = s.size := by omega
      have HEq : Hid (endP (h, n, acc) = putS s.data.toList) := Lib.hid (by
        have h1 := endP_run s.data.toList 0 []
        have h2 := HR.out.eq
        rw [List.take_of_length_le (by omega)] at h2
        rw [h2] at h1
        exact h1)
      by_cases h0 : 0 < n
      · have ha := and_end h n
        have hD : h * 2 ^ (6 - n) % 64 < 64 := Nat.mod_lt _ (by decide)
        have hi := sign_at _ hD
        have HEr : Hid (acc ++ [sgn (h * 2 ^ (6 - n) % 64)] = putS s.data.toList) := Lib.hid (by rw [← HEq.out]; show _ = if 0 < n then _ else _; rw [if_pos h0])
        generalize h * 2 ^ (6 - n) % 64 = D at ha hD hi HEr
        have hDi : (D : Int) < 64 := by omega
        clear HR HEq
        go_wp2_with fail
        refine (sb_byte B B acc (sgn D) wr HI.out.bld (by have := HI.out.len; omega) HI.out.sz).mono ?_
        rintro e w3 ⟨rfl, i3, b3, _⟩
        rw [HEr.out] at i3
        have hs3 := sb_string B B _ w3 i3 (by have := b3.size; have := HI.out.sz; omega)
        have hZ := HZ.out
        rw [← hZ] at hs3
        have HS := Lib.hid hs3
        have HB3 := Lib.hid (HI.out.below.trans b3)
        clear i3 b3 hs3 hZ
        go_wp2_with fail
        refine HS.out.mono ?_
        rintro e w4 ⟨rfl, _, b4, _⟩
        have HB4 := Lib.hid (HB3.out.trans b4)
        clear b4
        go_wp2
        go_ret
        exact ⟨rfl, HB4.out⟩
      · have HEr : Hid (acc = putS s.data.toList) := Lib.hid (by rw [← HEq.out]; show _ = if 0 < n then _ else _; rw [if_neg h0])
        obtain rfl : n = 0 := by omega
        have hi := HI.out.bld
        rw [HEr.out] at hi
        have hs3 := sb_string B B _ wr hi HI.out.sz
        have hZ := HZ.out
        rw [← hZ] at hs3
        have HS := Lib.hid hs3
        clear hi hs3 hZ HR HEq
        go_wp2_with fail
        refine HS.out.mono ?_
        rintro e w4 ⟨rfl, _, b4, _⟩
        have HB4 := Lib.hid (HI.out.below.trans b4)
        clear b4
        go_wp2
        go_ret
        exact ⟨rfl, HB4.out⟩
structure GetI (s : ByteArray) (B : Nat) (w wr : World) (kb pos : Nat) (a : List UInt8) : Prop where
  bld : IsB B B a wr
  it : wr.heap[kb]? = some (.stringIter s pos)
  below : Below B w wr
  sz : B ≤ wr.heap.size
  hkb : B < kb
structure GetR (s : ByteArray) (x n pos : Nat) (a : List UInt8) : Prop where
  eq : runU (0, 0, []) (s.data.toList.take pos) = some (x, n, a)
  hn : n = 0 ∨ n = 2 ∨ n = 4 ∨ n = 6
  hx : x < 2 ^ n
  len : a.length ≤ pos
  hp : pos ≤ s.size
theorem valS_high (r : Nat) (h : 123 ≤ r) : valS r = none := by
  unfold valS
  rw [if_neg (by omega), if_neg (by omega), if_neg (by omega), if_neg (by omega), if_neg (by omega)]
/-- A rune that is a sign is a byte. -/
theorem rune_sign (s : ByteArray) (pos d : Nat) (h : pos < s.size) (hv : valS (Utf8.decode s pos).1 = some d) : (Utf8.decode s pos).2 = 1 ∧ valS (s[pos]'h).toNat = some d := by
  by_cases ha : (s[pos]'h).toNat < 128
  · rw [decode_ascii s pos h ha] at hv ⊢
    exact ⟨rfl, hv⟩
  · have := (decode_high s pos h (by omega)).1
    rw [valS_high _ (by omega)] at hv
    cases hv
theorem rune_none (s : ByteArray) (pos : Nat) (h : pos < s.size) (hv : valS (Utf8.decode s pos).1 = none) : getS s.data.toList = none := by
  refine getS_other _ (s[pos]'h) ?_ ?_
  · show s.data[pos] ∈ s.data.toList
    simp only [Array.mem_toList_iff, Array.getElem_mem]
  · by_cases ha : (s[pos]'h).toNat < 128
    · rw [decode_ascii s pos h ha] at hv
      exact hv
    · exact valS_high _ (by omega)
theorem runU_snoc (l : List UInt8) (c : UInt8) (d : Nat) (s : Nat × Nat × List UInt8) (h : runU (0, 0, []) l = some s) (hd : valS c.toNat = some d) : runU (0, 0, []) (l ++ [c]) = some (stepU s d) := by
  rw [runU_append, h]
  show runU s [c] = _
  rw [runU, hd]
  rfl
theorem or_six (x d : Nat) (hx : x < 64) (hd : d < 64) : bits .or .u64 ((x : Int) * 64) (d : Int) = ((x * 64 + d : Nat) : Int) := by
  have := or_low x d 6 (by omega) (by omega)
  rw [show 2 ^ 6 * x = x * 64 by omega] at this
  rw [← this]
  congr 1
set_option maxRecDepth 100000 in
set_option maxHeartbeats 4000000 in
/-- GET. -/
theorem get_any (s : ByteArray) (w : World) (hs : s.size ≤ 1000000) :
    Calls Try.prog 10 #[.string s] w fun e w' => e = .returned (.tuple #[.string ⟨((getS s.data.toList).getD []).toArray⟩, .bool (getS s.data.toList).isSome]) ∧ Below w.heap.size w w' := by
  have hl : s.data.toList.length = s.size := size_list s
  obtain ⟨B, hB⟩ : ∃ B, B = w.heap.size := ⟨_, rfl⟩
  have H0 : Hid (GetI s w.heap.size w ((w.alloc (.cells #[.pointer none, .slice none 0 0] 34)).iter s 0) (w.heap.size + 1) 0 []) := Lib.hid {
    bld := (Lib.IsBuilderF.of (Lib.fresh_isBuilder 34 5 w)).alloc _
    it := by
      have := World.iter_heap (w.alloc (.cells #[.pointer none, .slice none 0 0] 34)) s 0
      simpa using this
    below := ((Below.refl _ w).alloc (Nat.le_refl _) _).alloc (by simp) _
    sz := by
      have h1 := ((Below.refl w.heap.size w).alloc (Nat.le_refl _) (.cells #[.pointer none, .slice none 0 0] 34)).alloc (by simp) (.stringIter s 0)
      exact h1.size
    hkb := by omega }
  have R0 : Hid (GetR s 0 0 0 []) := Lib.hid { eq := rfl, hn := .inl rfl, hx := by decide, len := Nat.le_refl _, hp := Nat.zero_le _ }
  have HB := Lib.hid hB
  rw [← hB]
  rw [← hB] at H0
  clear hB
  obtain ⟨Z, hZ⟩ : ∃ Z : ByteArray, Z = ⟨((getS s.data.toList).getD []).toArray⟩ := ⟨_, rfl⟩
  obtain ⟨Y, hY⟩ : ∃ Y : Bool, Y = (getS s.data.toList).isSome := ⟨_, rfl⟩
  rw [← hZ, ← hY]
  have HZ := Lib.hid (And.intro hZ hY)
  clear hZ hY
  go_enter Try.func10, Try.ntmps10
  go_wp2_with fail
  rw [← HB.out]
  generalize (w.alloc (.cells #[.pointer none, .slice none 0 0] 34)).iter s 0 = W at H0 ⊢
  generalize hkb : B + 1 = kb at H0 ⊢
  clear hkb HB
  go_loopw [5, 6] (fun a b wr => ∃ (pos x n : Nat) (acc : List UInt8), a = .int .u64 x ∧ b = .int .i64 n ∧ Hid (GetI s B w wr kb pos acc) ∧ Hid (GetR s x n pos acc)) (fun _ _ wr => s.size - wr.iterPos kb)
  case atStart => exact ⟨0, 0, 0, [], rfl, rfl, H0, R0⟩
  case round =>
    obtain ⟨pos, x, n, acc, rfl, rfl, HI, HR⟩ := hrel
    clear H0 R0
    have hit := HI.out.it
    have hipos : wr.iterPos kb = pos := by simp only [World.iterPos, hit]
    by_cases hp : pos < s.size
    · have hnx : ∀ ty, (Instr.next (.pointer (some ⟨kb, 0, none⟩)) true ty).run Try.prog wr = _ := fun ty => Lib.run_next_any_at wr kb s pos ty hit hp
      have F1 := rune_sign s pos
      have F2 := rune_none s pos hp
      have hM := meant_any (Utf8.decode s pos).1
      generalize (Utf8.decode s pos).1 = r at *
      generalize (Utf8.decode s pos).2 = k at *
      have hit2 := Lib.iterAt_heap wr kb s pos (pos + k) hit
      have hI2 : IsB B B acc (wr.iterAt kb s (pos + k)) := HI.out.bld.iterAt hit (pos + k)
      have hb2 : Below B w (wr.iterAt kb s (pos + k)) := Lib.below_iterAt HI.out.below (Nat.le_of_lt HI.out.hkb) s (pos + k)
      have hsz2 : B ≤ (wr.iterAt kb s (pos + k)).heap.size := by rw [Lib.iterAt_size]; exact HI.out.sz
      have H2 : Hid (GetI s B w (wr.iterAt kb s (pos + k)) kb (pos + k) acc) := Lib.hid { bld := hI2, it := hit2, below := hb2, sz := hsz2, hkb := HI.out.hkb }
      have HM := Lib.hid hM
      clear hit2 hI2 hb2 hsz2 hM
      generalize wr.iterAt kb s (pos + k) = W1 at H2 hnx ⊢
      cases hv : valS r with
      | none =>
        have HF := Lib.hid (F2 hv)
        rw [hv] at HM
        clear F1 F2
        have hY : Y = false := by rw [HZ.out.2, HF.out]; rfl
        have hZ : Z = ⟨#[]⟩ := by rw [HZ.out.1, HF.out]; rfl
        subst hY hZ
        go_wp2_with fail
        refine (HM.out _).mono ?_
        rintro e w2 ⟨rfl, rfl⟩
        have H3 := Lib.hid H2.out.below
        go_wp2
        go_ret2
        exact ⟨rfl, H3.out⟩
      | some d =>
        obtain ⟨rfl, hvd⟩ := F1 d hp hv
        have hd : d < 64 := (sgn_val _ _ hv).1
        rw [hv] at HM
        clear F1 F2
        have hdd : (((some d).getD 0 : Nat) : Int) = (d : Int) := rfl
        rw [hdd, show (some d).isSome = true from rfl] at HM
        have HS : Hid (runU (0, 0, []) (s.data.toList.take (pos + 1)) = some (stepU (x, n, acc) d)) := Lib.hid (by
          rw [List.take_add_one, show s.data.toList[pos]? = some (s[pos]'hp) by rw [List.getElem?_eq_getElem (by omega)]; rfl, Option.toList_some]
          exact runU_snoc _ _ d _ HR.out.eq hvd)
        clear hdd hvd
        have hn := HR.out.hn
        have hx := HR.out.hx
        rcases hn with rfl | rfl | rfl | rfl
        · have hx : x < 1 := hx
          have ho := or_six x d (by omega) hd
          have HS2 : Hid (GetR s (x * 64 + d) 6 (pos + 1) acc) := Lib.hid { eq := HS.out, hn := .inr (.inr (.inr rfl)), hx := by show x * 64 + d < 64; omega, len := by have := HR.out.len; omega, hp := hp }
          generalize hX : x * 64 + d = X at ho HS2
          have hXl : X < 64 := by omega
          clear HS HR
          go_wp2_with fail
          refine (HM.out _).mono ?_
          rintro e w2 ⟨rfl, rfl⟩
          go_wp2_with fail
          go_roundw
          case rel => exact ⟨pos + 1, X, 6, acc, rfl, rfl, H2, HS2⟩
          case measure =>
            have := H2.out.it
            simp only [World.iterPos, this, hit]
            omega
        · have hx : x < 4 := hx
          have ho := or_six x d (by omega) hd
          have hS := HS.out
          rw [step2] at hS
          generalize hX : x * 64 + d = X at ho hS
          have hXl : X < 256 := by omega
          have hc : (UInt8.ofNat X).toNat = X := u8_nat _ (by omega)
          have hc : (X : Int) = (((UInt8.ofNat X).toNat : Nat) : Int) := by rw [hc]
          generalize UInt8.ofNat X = c at hc hS
          have hb : bits .and .u64 (X : Int) 0 = 0 := by
            have := and_lowk X 0 (by omega) (by decide)
            rw [Nat.pow_zero, Nat.mod_one] at this
            exact this
          have HS2 : Hid (GetR s 0 0 (pos + 1) (acc ++ [c])) := Lib.hid { eq := by first | exact hS | (rw [Nat.mod_one]; exact hS), hn := by decide, hx := by first | exact Nat.mod_lt _ (by decide) | decide, len := by have := HR.out.len; simp; omega, hp := hp }
          have hcl : acc.length ≤ pos := HR.out.len
          have HCL := Lib.hid hcl
          have HC := Lib.hid hc
          clear HS HR hS hc hcl
          go_wp2_with fail
          refine (HM.out _).mono ?_
          rintro e w2 ⟨rfl, rfl⟩
          go_wp2_with fail
          have hq := sb_byte B B acc c _ H2.out.bld (by have := HCL.out; omega) H2.out.sz
          rw [← HC.out] at hq
          refine hq.mono ?_
          clear hq
          rintro e w3 ⟨rfl, i3, b3, k3⟩
          have HN : Hid (GetI s B w w3 kb (pos + 1) (acc ++ [c])) := Lib.hid { bld := i3, it := k3.iter H2.out.it (by have := H2.out.hkb; omega), below := H2.out.below.trans b3, sz := by have := H2.out.sz; have := b3.size; omega, hkb := H2.out.hkb }
          clear i3 b3 k3
          go_wp2_with fail
          go_roundw
          case rel => exact ⟨pos + 1, 0, 0, acc ++ [c], rfl, rfl, HN, HS2⟩
          case measure =>
            have := HN.out.it
            simp only [World.iterPos, this, hit]
            omega
        · have hx : x < 16 := hx
          have ho := or_six x d (by omega) hd
          have hS := HS.out
          rw [step4] at hS
          generalize hX : x * 64 + d = X at ho hS
          have hXl : X < 1024 := by omega
          have hc : (UInt8.ofNat (X / 4)).toNat = X / 4 := u8_nat _ (by omega)
          have hc : (X : Int) / 4 = (((UInt8.ofNat (X / 4)).toNat : Nat) : Int) := by rw [hc]; omega
          generalize UInt8.ofNat (X / 4) = c at hc hS
          have hb : bits .and .u64 (X : Int) 3 = ((X % 4 : Nat) : Int) := and_lowk X 2 (by omega) (by decide)
          have HS2 : Hid (GetR s (X % 4) 2 (pos + 1) (acc ++ [c])) := Lib.hid { eq := by first | exact hS | (rw [Nat.mod_one]; exact hS), hn := by decide, hx := by first | exact Nat.mod_lt _ (by decide) | decide, len := by have := HR.out.len; simp; omega, hp := hp }
          have hcl : acc.length ≤ pos := HR.out.len
          have HCL := Lib.hid hcl
          have HC := Lib.hid hc
          clear HS HR hS hc hcl
          go_wp2_with fail
          refine (HM.out _).mono ?_
          rintro e w2 ⟨rfl, rfl⟩
          go_wp2_with fail
          have hq := sb_byte B B acc c _ H2.out.bld (by have := HCL.out; omega) H2.out.sz
          rw [← HC.out] at hq
          refine hq.mono ?_
          clear hq
          rintro e w3 ⟨rfl, i3, b3, k3⟩
          have HN : Hid (GetI s B w w3 kb (pos + 1) (acc ++ [c])) := Lib.hid { bld := i3, it := k3.iter H2.out.it (by have := H2.out.hkb; omega), below := H2.out.below.trans b3, sz := by have := H2.out.sz; have := b3.size; omega, hkb := H2.out.hkb }
          clear i3 b3 k3
          go_wp2_with fail
          go_roundw
          case rel => exact ⟨pos + 1, X % 4, 2, acc ++ [c], rfl, rfl, HN, HS2⟩
          case measure =>
            have := HN.out.it
            simp only [World.iterPos, this, hit]
            omega
        · have hx : x < 64 := hx
          have ho := or_six x d (by omega) hd
          have hS := HS.out
          rw [step6] at hS
          generalize hX : x * 64 + d = X at ho hS
          have hXl : X < 4096 := by omega
          have hc : (UInt8.ofNat (X / 16)).toNat = X / 16 := u8_nat _ (by omega)
          have hc : (X : Int) / 16 = (((UInt8.ofNat (X / 16)).toNat : Nat) : Int) := by rw [hc]; omega
          generalize UInt8.ofNat (X / 16) = c at hc hS
          have hb : bits .and .u64 (X : Int) 15 = ((X % 16 : Nat) : Int) := and_lowk X 4 (by omega) (by decide)
          have HS2 : Hid (GetR s (X % 16) 4 (pos + 1) (acc ++ [c])) := Lib.hid { eq := by first | exact hS | (rw [Nat.mod_one]; exact hS), hn := by decide, hx := by first | exact Nat.mod_lt _ (by decide) | decide, len := by have := HR.out.len; simp; omega, hp := hp }
          have hcl : acc.length ≤ pos := HR.out.len
          have HCL := Lib.hid hcl
          have HC := Lib.hid hc
          clear HS HR hS hc hcl
          go_wp2_with fail
          refine (HM.out _).mono ?_
          rintro e w2 ⟨rfl, rfl⟩
          go_wp2_with fail
          have hq := sb_byte B B acc c _ H2.out.bld (by have := HCL.out; omega) H2.out.sz
          rw [← HC.out] at hq
          refine hq.mono ?_
          clear hq
          rintro e w3 ⟨rfl, i3, b3, k3⟩
          have HN : Hid (GetI s B w w3 kb (pos + 1) (acc ++ [c])) := Lib.hid { bld := i3, it := k3.iter H2.out.it (by have := H2.out.hkb; omega), below := H2.out.below.trans b3, sz := by have := H2.out.sz; have := b3.size; omega, hkb := H2.out.hkb }
          clear i3 b3 k3
          go_wp2_with fail
          go_roundw
          case rel => exact ⟨pos + 1, X % 16, 4, acc ++ [c], rfl, rfl, HN, HS2⟩
          case measure =>
            have := HN.out.it
            simp only [World.iterPos, this, hit]
            omega
    · have hnx : ∀ ty, (Instr.next (.pointer (some ⟨kb, 0, none⟩)) true ty).run Try.prog wr = _ := fun ty => Lib.run_next_end_at wr kb s pos ty hit hp
      have hG := HR.out.eq
      rw [List.take_of_length_le (by omega)] at hG
      have hG := getS_run _ _ _ _ hG
      by_cases h6 : 6 ≤ n
      · rw [if_pos (.inl h6)] at hG
        have hY : Y = false := by rw [HZ.out.2, hG]; rfl
        have hZ : Z = ⟨#[]⟩ := by rw [HZ.out.1, hG]; rfl
        subst hY hZ
        have H3 := Lib.hid HI.out.below
        clear hG
        go_wp2
        go_ret2
        exact ⟨rfl, H3.out⟩
      · by_cases h0 : x = 0
        · subst h0
          rw [if_neg (by omega)] at hG
          have hY : Y = true := by rw [HZ.out.2, hG]; rfl
          have hZ : Z = ⟨acc.toArray⟩ := by rw [HZ.out.1, hG]; rfl
          have hs3 := sb_string B B _ wr HI.out.bld HI.out.sz
          rw [← hZ] at hs3
          subst hY
          have HS := Lib.hid hs3
          clear hG hZ hs3
          go_wp2_with fail
          refine HS.out.mono ?_
          rintro e w4 ⟨rfl, _, b4, _⟩
          have HB4 := Lib.hid (HI.out.below.trans b4)
          clear b4
          go_wp2
          go_ret2
          exact ⟨rfl, HB4.out⟩
        · rw [if_pos (.inr h0)] at hG
          have hY : Y = false := by rw [HZ.out.2, hG]; rfl
          have hZ : Z = ⟨#[]⟩ := by rw [HZ.out.1, hG]; rfl
          subst hY hZ
          have H3 := Lib.hid HI.out.below
          have h0' : ((x : Int) != 0) = true := by
            rw [bne_iff_ne]
            omega
          clear hG h0
          go_wp2
          go_ret2
          exact ⟨rfl, H3.out⟩
end Go.Proofs.Ytbnlcacjldnnjaa
