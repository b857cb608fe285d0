/-
  CONTRACTS of head.Put and truchmanref1.Head: the shortest head of a number.
-/
import Derived.Test.YtkclpolgadlbhaaHeadBig
import Derived.Shelf.Strconv.Itoa0
import Derived.Deep.RegionWith
namespace Go.Proofs.Ytkclpolgadlbhaa
open Go.RowKit
open Go.Lib
open Go.Shelf in
def lays129_ren : Go.Shelf.Ren := ⟨fun | 129 => 19 | n => n, fun | 53 => 23 | 3 => 3 | 4 => 4 | 46 => 33 | 5 => 5 | 9 => 9 | n => n, fun | n => n⟩
theorem lays129 : Go.Proofs.Lays.n129 Try.prog lays129_ren := {
  mixed := by kernel_rfl
  f129 := Try.func19.trans (congrArg some (by kernel_rfl))
  t3 := Try.underlying3
  a3 := Try.isAgg3
  z3 := Try.sizeOf3
  v3 := Try.zeroValue3
  t4 := Try.underlying4
  a4 := Try.isAgg4
  z4 := Try.sizeOf4
  v4 := Try.zeroValue4
  t5 := Try.underlying5
  a5 := Try.isAgg5
  z5 := Try.sizeOf5
  v5 := Try.zeroValue5
  t9 := Try.underlying9
  a9 := Try.isAgg9
  z9 := Try.sizeOf9
  v9 := Try.zeroValue9
  t46 := Try.underlying33
  a46 := Try.isAgg33
  z46 := Try.sizeOf33
  v46 := Try.zeroValue33
  t53 := Try.underlying23
  a53 := Try.isAgg23
  z53 := Try.sizeOf23
  v53 := Try.zeroValue23 }
theorem len64_any (v : Nat) (hv : v < 18446744073709551616) (w : World) :
    Calls Try.prog 19 #[.int .u64 v] w fun e w' => e = .returned (.int .i64 (Lib.bitLen v)) ∧ w = w' := by
  have := Any.bits_Len64 lays129 (v : Int) w (by omega) (by omega)
  rw [Int.toNat_natCast] at this
  exact Calls.mono this fun e w' h => ⟨h.1, h.2.symm⟩
theorem bitLenAux_le : ∀ (f x k : Nat), x < 2 ^ f → (Lib.bitLenAux f x ≤ k ↔ x < 2 ^ k)
  | 0, x, k, h => by
    have : x = 0 := by omega
    subst this
    simp [Lib.bitLenAux, Nat.pow_pos]
  | f + 1, x, k, h => by
    by_cases h0 : x = 0
    · subst h0
      simp [Lib.bitLenAux, Nat.pow_pos]
    · cases k with
      | zero =>
        simp [Lib.bitLenAux, h0]
      | succ k =>
        have ih := bitLenAux_le f (x / 2) k (by rw [Nat.pow_succ] at h; omega)
        rw [Lib.bitLenAux, if_neg h0, Nat.pow_succ]
        omega
theorem bitLen_le (x k : Nat) (h : x < 18446744073709551616) : Lib.bitLen x ≤ k ↔ x < 2 ^ k := bitLenAux_le 64 x k h
theorem and7 (n : Int) : bits .and .i64 n 7 = ((n % 8).toNat : Int) := by
  have h127 : (BitVec.ofInt 64 7).toNat = 2 ^ 3 - 1 := by decide
  have key : (BitVec.ofInt 64 n &&& BitVec.ofInt 64 7).toNat = (n % ((2 ^ 64 : Nat) : Int)).toNat % 2 ^ 3 := by
    rw [BitVec.toNat_and, BitVec.toNat_ofInt, h127, Nat.and_two_pow_sub_one_eq_mod]
  show IntKind.i64.wrap ((BitVec.ofInt 64 n &&& BitVec.ofInt 64 7).toNat : Nat) = _
  rw [key, IntKind.wrap_i64]
  omega
theorem mod8_ref (a : Int) : (wrap64 (a.tmod 8 + 8)).tmod 8 = ((a % 8).toNat : Int) := by
  have h1 := Int.tmod_lt_of_pos a (show (0 : Int) < 8 by omega)
  have h2 : -(8 : Int) < a.tmod 8 := Int.lt_tmod_of_pos a (show (0 : Int) < 8 by omega)
  have h0 : a.tmod 8 = a % 8 ∨ a.tmod 8 = a % 8 - 8 := by
    rw [Int.tmod_eq_emod]
    split
    · exact .inl (by omega)
    · exact .inr rfl
  have hw : wrap64 (a.tmod 8 + 8) = a.tmod 8 + 8 := by unfold wrap64; omega
  rw [hw, Int.tmod_eq_emod_of_nonneg (by omega)]
  omega
theorem big_one (v : Nat) : bigB 1 v = [UInt8.ofNat v] := by
  simp only [bigB, Nat.pow_zero, Nat.div_one]
  congr 1
  apply UInt8.toNat_inj.1
  simp
theorem sizH_k (v K : Nat) (hv : v < 18446744073709551616) (h24 : 24 ≤ v) (hK : K = 0 ∧ v < 256 ∨ K = 1 ∧ 256 ≤ v ∧ v < 65536 ∨ K = 2 ∧ 65536 ≤ v ∧ v < 4294967296 ∨ K = 3 ∧ 4294967296 ≤ v) : sizH v = (2 ^ K, 24 + K) := by
  rcases sizH_cases v hv with ⟨h, e⟩ | ⟨h, e⟩ | ⟨h, e⟩ | ⟨h, e⟩ | ⟨h, e⟩ <;> rcases hK with hK | hK | hK | hK <;> first | omega | (obtain ⟨rfl, _⟩ := hK; exact e)
theorem class_of (v : Nat) : ∃ K : Nat, K = 0 ∧ v < 256 ∨ K = 1 ∧ 256 ≤ v ∧ v < 65536 ∨ K = 2 ∧ 65536 ≤ v ∧ v < 4294967296 ∨ K = 3 ∧ 4294967296 ≤ v := by
  by_cases h1 : v < 256
  · exact ⟨0, .inl ⟨rfl, h1⟩⟩
  · by_cases h2 : v < 65536
    · exact ⟨1, by omega⟩
    · by_cases h3 : v < 4294967296
      · exact ⟨2, by omega⟩
      · exact ⟨3, by omega⟩
theorem ba_cons (a b : List UInt8) (c : List UInt8) (h : a ++ b = c) : (⟨a.toArray⟩ : ByteArray) ++ (⟨b.toArray⟩ : ByteArray) = ⟨c.toArray⟩ := by
  rw [ba_append, h]
theorem ba_size (l : List UInt8) : (⟨l.toArray⟩ : ByteArray).size = l.length := rfl
theorem big_1 (f : Nat) (X : ByteArray) (h : X = ⟨(bigB 1 f).toArray⟩) (w : World) : Calls Try.prog 16 #[.int .u64 f, .int .i64 1] w fun e w' => e = .returned (.string X) ∧ Below w.heap.size w w' := by
  subst h
  exact big_any f 1 (by omega) (by omega) w
set_option maxHeartbeats 400000 in
theorem put_small (n : Int) (v : Nat) (hv : v < 24) (w : World) :
    Calls Try.prog 14 #[.int .i64 n, .int .u64 v] w fun e w' => e = .returned (.string ⟨(headB (n % 8).toNat v).toArray⟩) ∧ Below w.heap.size w w' := by
  have ha := and7 n
  obtain ⟨m, hm⟩ : ∃ m, (n % 8).toNat = m := ⟨_, rfl⟩
  have hm8 : m < 8 := by omega
  rw [hm] at ha ⊢
  have hw1 : IntKind.u64.wrap (m : Int) = (m : Int) := wrapI_u64 _ (by omega) (by omega)
  have hw2 : (m : Int) * 32 = ((m * 2 ^ 5 : Nat) : Int) := by omega
  have ho := or_u64 m v 5 (by omega) (by omega)
  rw [← hw2] at ho
  clear hw2
  have HB := Lib.hid (fun W => big_1 (m * 2 ^ 5 + v) _ rfl W)
  have e : headB m v = bigB 1 (m * 2 ^ 5 + v) := by
    rw [big_one]
    simp [headB, sizH, hv, bigB]
  rw [e]
  have hz : ((v : Int) < 24) = True := by simp only [eq_iff_iff, iff_true]; omega
  generalize (⟨(bigB 1 (m * 2 ^ 5 + v)).toArray⟩ : ByteArray) = X at *
  generalize m * 2 ^ 5 + v = f at *
  clear e hm hv
  go_enter Try.func14, Try.ntmps14
  go_wp2_with fail
  refine (HB.out _).mono ?_
  rintro e w1 ⟨rfl, b1⟩
  go_wp2
  go_ret
  exact ⟨rfl, b1⟩
set_option maxHeartbeats 1000000 in
theorem put_great (n : Int) (v K : Nat) (hv : v < 18446744073709551616) (h24 : 24 ≤ v) (hK : K = 0 ∧ v < 256 ∨ K = 1 ∧ 256 ≤ v ∧ v < 65536 ∨ K = 2 ∧ 65536 ≤ v ∧ v < 4294967296 ∨ K = 3 ∧ 4294967296 ≤ v) (w : World) :
    Calls Try.prog 14 #[.int .i64 n, .int .u64 v] w fun e w' => e = .returned (.string ⟨(headB (n % 8).toNat v).toArray⟩) ∧ Below w.heap.size w w' := by
  have ha := and7 n
  obtain ⟨m, hm⟩ : ∃ m, (n % 8).toNat = m := ⟨_, rfl⟩
  have hm8 : m < 8 := by omega
  rw [hm] at ha ⊢
  have hK3 : K ≤ 3 := by omega
  have hw1 : IntKind.u64.wrap (m : Int) = (m : Int) := wrapI_u64 _ (by omega) (by omega)
  have hw2 : (m : Int) * 32 = ((m * 2 ^ 5 : Nat) : Int) := by omega
  have ho := or_u64 m (24 + K) 5 (by omega) (by omega)
  rw [← hw2] at ho
  clear hw2
  have HL := Lib.hid (fun W => len64_any v hv W)
  have l8 := bitLen_le v 8 hv
  have l16 := bitLen_le v 16 hv
  have l32 := bitLen_le v 32 hv
  have l64 := bitLen_le v 64 hv
  have hB1 := Lib.hid (fun W => big_1 (m * 2 ^ 5 + (24 + K)) _ rfl W)
  have hP1 : 1 ≤ 2 ^ K := Nat.pow_pos (by decide)
  have hP8 : 2 ^ K ≤ 8 := by
    have := Nat.pow_le_pow_right (n := 2) (by decide) hK3
    omega
  have hB2 := Lib.hid (fun W => big_any v (2 ^ K) hP1 hP8 W)
  have e : (⟨(headB m v).toArray⟩ : ByteArray) = (⟨(bigB 1 (m * 2 ^ 5 + (24 + K))).toArray⟩ : ByteArray) ++ ⟨(bigB (2 ^ K) v).toArray⟩ := by
    rw [ba_append, big_one]
    simp [headB, sizH_k v K hv h24 hK]
  rw [e]
  have s1 : (⟨(bigB 1 (m * 2 ^ 5 + (24 + K))).toArray⟩ : ByteArray).size = 1 := by rw [ba_size, bigB_length]
  have s2 : (⟨(bigB (2 ^ K) v).toArray⟩ : ByteArray).size ≤ 8 := by rw [ba_size, bigB_length]; exact hP8
  generalize (⟨(bigB 1 (m * 2 ^ 5 + (24 + K))).toArray⟩ : ByteArray) = X at *
  generalize (⟨(bigB (2 ^ K) v).toArray⟩ : ByteArray) = Y at *
  generalize m * 2 ^ 5 + (24 + K) = f at *
  generalize Lib.bitLen v = L at *
  have hz : ((v : Int) < 24) = False := by simp only [eq_iff_iff, iff_false]; omega
  have hsum : (9223372036854775807 < X.size + Y.size) = False := by simp only [eq_iff_iff, iff_false]; omega
  clear e hm hP1
  go_enter Try.func14, Try.ntmps14
  go_wp2_with fail
  go_loopw [6, 7] (fun l q wr => ∃ k : Nat, k ≤ K ∧ l = .int .u64 ((24 + k : Nat) : Int) ∧ q = .int .i64 ((2 ^ k : Nat) : Int) ∧ w = wr) (fun l _ _ => 24 + K - (RowKit.intOf l).toNat)
  case atStart => exact ⟨0, Nat.zero_le _, rfl, rfl, rfl⟩
  case round =>
    obtain ⟨k, hk, rfl, rfl, rfl⟩ := hrel
    by_cases hlt : k < K
    · have hd : k = 0 ∨ k = 1 ∨ k = 2 := by omega
      rcases hd with rfl | rfl | rfl
      · have hgt : ((8 : Int) < (L : Int)) = True := by
          simp only [eq_iff_iff, iff_true]
          have : ¬ L ≤ 8 := by rw [l8]; simp; omega
          omega
        clear l8 l16 l32 l64 hB1 hB2
        go_wp2_with fail
        refine (HL.out _).mono ?_
        rintro e w1 ⟨rfl, rfl⟩
        go_wp2_with fail
        go_roundw
        case rel => exact ⟨1, hlt, rfl, rfl, by first | rfl | trivial⟩
        case measure => simp [RowKit.intOf]; omega
      · have hgt : ((16 : Int) < (L : Int)) = True := by
          simp only [eq_iff_iff, iff_true]
          have : ¬ L ≤ 16 := by rw [l16]; simp; omega
          omega
        clear l8 l16 l32 l64 hB1 hB2
        go_wp2_with fail
        refine (HL.out _).mono ?_
        rintro e w1 ⟨rfl, rfl⟩
        go_wp2_with fail
        go_roundw
        case rel => exact ⟨2, hlt, rfl, rfl, by first | rfl | trivial⟩
        case measure => simp [RowKit.intOf]; omega
      · have hgt : ((32 : Int) < (L : Int)) = True := by
          simp only [eq_iff_iff, iff_true]
          have : ¬ L ≤ 32 := by rw [l32]; simp; omega
          omega
        clear l8 l16 l32 l64 hB1 hB2
        go_wp2_with fail
        refine (HL.out _).mono ?_
        rintro e w1 ⟨rfl, rfl⟩
        go_wp2_with fail
        go_roundw
        case rel => exact ⟨3, hlt, rfl, rfl, by first | rfl | trivial⟩
        case measure => simp [RowKit.intOf]; omega
    · obtain rfl : k = K := by omega
      have hgt : (((2 ^ k : Nat) : Int) * 8 < (L : Int)) = False := by
        simp only [eq_iff_iff, iff_false]
        have h8 : L ≤ 8 * 2 ^ k := by
          rcases hK with ⟨rfl, h⟩ | ⟨rfl, h⟩ | ⟨rfl, h⟩ | ⟨rfl, h⟩
          · exact l8.2 (by omega)
          · exact l16.2 (by omega)
          · exact l32.2 (by omega)
          · exact l64.2 (by omega)
        omega
      have hmul : wrap64 (((2 ^ k : Nat) : Int) * 8) = ((2 ^ k : Nat) : Int) * 8 := by
        have hp8 : ((2 ^ k : Nat) : Int) ≤ 8 := by omega
        have hp0 : 0 ≤ ((2 ^ k : Nat) : Int) := Int.natCast_nonneg _
        unfold wrap64
        generalize ((2 ^ k : Nat) : Int) = P at *
        omega
      clear l8 l16 l32 l64 hK
      generalize 2 ^ k = P at *
      generalize 24 + k = low at *
      go_wp2_with fail
      refine (HL.out _).mono ?_
      rintro e w1 ⟨rfl, rfl⟩
      go_wp2_with fail
      refine (hB1.out _).mono ?_
      rintro e w2 ⟨rfl, b2⟩
      have B2 := Lib.hid b2
      clear b2
      go_wp2_with fail
      refine (hB2.out _).mono ?_
      rintro e w3 ⟨rfl, b3⟩
      have B3 := Lib.hid (B2.out.trans (b3.mono B2.out.size))
      clear b3
      go_wp2
      go_ret
      exact ⟨rfl, B3.out⟩
theorem put_any (n : Int) (v : Nat) (hv : v < 18446744073709551616) (w : World) :
    Calls Try.prog 14 #[.int .i64 n, .int .u64 v] w fun e w' => e = .returned (.string ⟨(headB (n % 8).toNat v).toArray⟩) ∧ Below w.heap.size w w' := by
  by_cases h : v < 24
  · exact put_small n v h w
  · obtain ⟨K, hK⟩ := class_of v
    exact put_great n v K hv (by omega) hK w
theorem cell_of {w : World} {g : Nat} {x : UInt8} {c : Int} (hc : c = ((x.toNat : Nat) : Int)) (h : w.heap[g]? = some (.cells #[.int .u8 c] 5 (0, 0))) :
    (convert 39 9 (.slice (some ⟨g, 0, none⟩) 1 1)).run Try.prog w = .ok (.string ⟨#[x]⟩) w := by
  subst hc
  exact conv_row (w := w) (g := g) (l := [x]) h 0 1 1 (by simp)
theorem heap_last (w : World) (x : Obj) : (w.alloc x).heap[w.heap.size]? = some x := by
  show (w.heap.push _)[_]? = _
  rw [Array.getElem?_push, if_pos rfl]
theorem ho_drew (w : World) (x : UInt8) (c : Int) (hc : c = ((x.toNat : Nat) : Int)) :
    (convert 39 9 (.slice (some ⟨w.heap.size, 0, none⟩) 1 1)).run Try.prog (w.alloc (.cells #[.int .u8 c] 5)).drew = .ok (.string ⟨#[x]⟩) (w.alloc (.cells #[.int .u8 c] 5)).drew := cell_of hc (heap_last w _)
theorem ends1 {w w1 : World} {O : Obj} (b : Below (w.alloc O).drew.heap.size (w.alloc O).drew w1) : Below w.heap.size w w1 := by
  have a : Below w.heap.size w (w.alloc O).drew := below_drewN ((Below.refl w.heap.size w).alloc (Nat.le_refl _) O) 1
  exact a.trans (b.mono a.size)
theorem ends2 {w w1 : World} (O : Obj) (b : Below w.drew.heap.size w.drew w1) : Below w.heap.size w (w1.alloc O) := by
  have a : Below w.heap.size w w.drew := below_drewN (Below.refl w.heap.size w) 1
  have c := a.trans b
  exact c.alloc c.size O
/-- One byte, made ahead of a call, or behind it. -/
theorem ho_new (w : World) (x : UInt8) (c : Int) (hc : c = ((x.toNat : Nat) : Int)) :
    (convert 39 9 (.slice (some ⟨w.heap.size, 0, none⟩) 1 1)).run Try.prog (w.alloc (.cells #[.int .u8 c] 5)) = .ok (.string ⟨#[x]⟩) (w.alloc (.cells #[.int .u8 c] 5)) := cell_of hc (heap_last w _)
theorem ho_old {w w2 : World} (x : UInt8) (c : Int) (hc : c = ((x.toNat : Nat) : Int)) (hb : Below (w.alloc (.cells #[.int .u8 c] 5)).drew.heap.size (w.alloc (.cells #[.int .u8 c] 5)).drew w2) :
    (convert 39 9 (.slice (some ⟨w.heap.size, 0, none⟩) 1 1)).run Try.prog w2 = .ok (.string ⟨#[x]⟩) w2 := cell_of hc ((hb.block _ (by show w.heap.size < (w.heap.push _).size; simp)).trans (heap_last w _))
theorem rbig_n (f n : Nat) (z : Int) (hz : z = n) (hf : f < 18446744073709551616) (h1 : 1 ≤ n) (h8 : n ≤ 8) (X : ByteArray) (h : X = ⟨(bigB n f).toArray⟩) (w : World) : Calls Try.prog 17 #[.int .u64 f, .int .i64 z] w fun e w' => e = .returned (.string X) ∧ Below w.heap.size w w' := by
  subst h hz
  exact rbig_any f n hf h1 h8 w
set_option maxHeartbeats 1000000 in
theorem rhead_small (n : Int) (v : Nat) (hv : v < 24) (w : World) :
    Calls Try.prog 15 #[.int .i64 n, .int .u64 v] w fun e w' => e = .returned (.string ⟨(headB (n % 8).toNat v).toArray⟩) ∧ Below w.heap.size w w' := by
  have ha := mod8_ref n
  obtain ⟨m, hm⟩ : ∃ m, (n % 8).toNat = m := ⟨_, rfl⟩
  have hm8 : m < 8 := by omega
  rw [hm] at ha ⊢
  have hw1 : IntKind.u8.wrap (m : Int) = (m : Int) := wrapI_u8 _ (by omega) (by omega)
  have hw2 : IntKind.u8.wrap ((m : Int) * 32) = (m : Int) * 32 := wrapI_u8 _ (by omega) (by omega)
  have hw3 : IntKind.u8.wrap (v : Int) = (v : Int) := wrapI_u8 _ (by omega) (by omega)
  have hw4 : IntKind.u8.wrap ((m : Int) * 32 + (v : Int)) = (m : Int) * 32 + (v : Int) := wrapI_u8 _ (by omega) (by omega)
  have hcv := ho_new w (UInt8.ofNat (m * 32 + v)) ((m : Int) * 32 + (v : Int)) (by simp; omega)
  have e : headB m v = [UInt8.ofNat (m * 32 + v)] := by simp [headB, sizH, hv, bigB]
  rw [e]
  have hz : ((v : Int) < 24) = True := by simp only [eq_iff_iff, iff_true]; omega
  generalize (⟨#[UInt8.ofNat (m * 32 + v)]⟩ : ByteArray) = X at *
  clear e hm
  go_enter Try.func15, Try.ntmps15
  go_wp2
  go_ret
  exact ⟨rfl, (Below.refl _ _).alloc (Nat.le_refl _) _⟩
set_option maxHeartbeats 2000000 in
theorem rhead_0 (n : Int) (v : Nat) (hv : v < 18446744073709551616) (h24 : 24 ≤ v) (hK : v < 256) (w : World) :
    Calls Try.prog 15 #[.int .i64 n, .int .u64 v] w fun e w' => e = .returned (.string ⟨(headB (n % 8).toNat v).toArray⟩) ∧ Below w.heap.size w w' := by
  have ha := mod8_ref n
  obtain ⟨m, hm⟩ : ∃ m, (n % 8).toNat = m := ⟨_, rfl⟩
  have hm8 : m < 8 := by omega
  rw [hm] at ha ⊢
  have hw1 : IntKind.u8.wrap (m : Int) = (m : Int) := wrapI_u8 _ (by omega) (by omega)
  have hw2 : IntKind.u8.wrap ((m : Int) * 32) = (m : Int) * 32 := wrapI_u8 _ (by omega) (by omega)
  have hw4 : IntKind.u8.wrap ((m : Int) * 32 + 24) = (m : Int) * 32 + 24 := wrapI_u8 _ (by omega) (by omega)
  have hc : (m : Int) * 32 + 24 = (((UInt8.ofNat (m * 32 + 24)).toNat : Nat) : Int) := by simp; omega
  have hcv := fun W => ho_new W (UInt8.ofNat (m * 32 + 24)) ((m : Int) * 32 + 24) hc
  have hcd := ho_drew w (UInt8.ofNat (m * 32 + 24)) ((m : Int) * 32 + 24) hc
  have HO := Lib.hid (fun (W W2 : World) hb => ho_old (w := W) (w2 := W2) (UInt8.ofNat (m * 32 + 24)) ((m : Int) * 32 + 24) hc hb)
  have HB := Lib.hid (fun W => rbig_n v 1 1 rfl hv (by omega) (by omega) _ rfl W)
  have e : (⟨(headB m v).toArray⟩ : ByteArray) = (⟨#[UInt8.ofNat (m * 32 + 24)]⟩ : ByteArray) ++ ⟨(bigB 1 v).toArray⟩ := by
    rw [show (⟨#[UInt8.ofNat (m * 32 + 24)]⟩ : ByteArray) = ⟨[UInt8.ofNat (m * 32 + 24)].toArray⟩ from rfl, ba_append]
    simp [headB, sizH_k v 0 hv h24 (by omega)]
  rw [e]
  have s2 : (⟨(bigB 1 v).toArray⟩ : ByteArray).size = 1 := by rw [ba_size, bigB_length]
  have s1 : (⟨#[UInt8.ofNat (m * 32 + 24)]⟩ : ByteArray).size = 1 := rfl
  generalize (⟨#[UInt8.ofNat (m * 32 + 24)]⟩ : ByteArray) = X at *
  generalize (⟨(bigB 1 v).toArray⟩ : ByteArray) = Y at *
  have hsum : (9223372036854775807 < X.size + Y.size) = False := by simp only [eq_iff_iff, iff_false]; omega
  have hz0 : ((v : Int) < 24) = False := by simp only [eq_iff_iff, iff_false]; omega
  have hz1 : ((v : Int) < 256) = True := by simp only [eq_iff_iff, iff_true]; omega
  clear e hm hc hK
  go_enter Try.func15, Try.ntmps15
  go_wp2_with fail
  go_region_with ((go_at_call 17); (with_reducible refine (HB.out _).mono ?_); (rintro e w1 ⟨rfl, b1⟩); (first | (have hcx := HO.out w w1 b1) | skip))
  all_goals
    go_wp2
    go_ret
    refine ⟨rfl, ?_⟩
    first
      | exact ends1 b1
      | exact ends2 _ b1
set_option maxHeartbeats 2000000 in
theorem rhead_1 (n : Int) (v : Nat) (hv : v < 18446744073709551616) (h24 : 24 ≤ v) (hK : 256 ≤ v ∧ v < 65536) (w : World) :
    Calls Try.prog 15 #[.int .i64 n, .int .u64 v] w fun e w' => e = .returned (.string ⟨(headB (n % 8).toNat v).toArray⟩) ∧ Below w.heap.size w w' := by
  have ha := mod8_ref n
  obtain ⟨m, hm⟩ : ∃ m, (n % 8).toNat = m := ⟨_, rfl⟩
  have hm8 : m < 8 := by omega
  rw [hm] at ha ⊢
  have hw1 : IntKind.u8.wrap (m : Int) = (m : Int) := wrapI_u8 _ (by omega) (by omega)
  have hw2 : IntKind.u8.wrap ((m : Int) * 32) = (m : Int) * 32 := wrapI_u8 _ (by omega) (by omega)
  have hw4 : IntKind.u8.wrap ((m : Int) * 32 + 25) = (m : Int) * 32 + 25 := wrapI_u8 _ (by omega) (by omega)
  have hc : (m : Int) * 32 + 25 = (((UInt8.ofNat (m * 32 + 25)).toNat : Nat) : Int) := by simp; omega
  have hcv := fun W => ho_new W (UInt8.ofNat (m * 32 + 25)) ((m : Int) * 32 + 25) hc
  have hcd := ho_drew w (UInt8.ofNat (m * 32 + 25)) ((m : Int) * 32 + 25) hc
  have HO := Lib.hid (fun (W W2 : World) hb => ho_old (w := W) (w2 := W2) (UInt8.ofNat (m * 32 + 25)) ((m : Int) * 32 + 25) hc hb)
  have HB := Lib.hid (fun W => rbig_n v 2 2 rfl hv (by omega) (by omega) _ rfl W)
  have e : (⟨(headB m v).toArray⟩ : ByteArray) = (⟨#[UInt8.ofNat (m * 32 + 25)]⟩ : ByteArray) ++ ⟨(bigB 2 v).toArray⟩ := by
    rw [show (⟨#[UInt8.ofNat (m * 32 + 25)]⟩ : ByteArray) = ⟨[UInt8.ofNat (m * 32 + 25)].toArray⟩ from rfl, ba_append]
    simp [headB, sizH_k v 1 hv h24 (by omega)]
  rw [e]
  have s2 : (⟨(bigB 2 v).toArray⟩ : ByteArray).size = 2 := by rw [ba_size, bigB_length]
  have s1 : (⟨#[UInt8.ofNat (m * 32 + 25)]⟩ : ByteArray).size = 1 := rfl
  generalize (⟨#[UInt8.ofNat (m * 32 + 25)]⟩ : ByteArray) = X at *
  generalize (⟨(bigB 2 v).toArray⟩ : ByteArray) = Y at *
  have hsum : (9223372036854775807 < X.size + Y.size) = False := by simp only [eq_iff_iff, iff_false]; omega
  have hz0 : ((v : Int) < 24) = False := by simp only [eq_iff_iff, iff_false]; omega
  have hz1 : ((v : Int) < 256) = False := by simp only [eq_iff_iff, iff_false]; omega
  have hz2 : ((v : Int) < 65536) = True := by simp only [eq_iff_iff, iff_true]; omega
  clear e hm hc hK
  go_enter Try.func15, Try.ntmps15
  go_wp2_with fail
  go_region_with ((go_at_call 17); (with_reducible refine (HB.out _).mono ?_); (rintro e w1 ⟨rfl, b1⟩); (first | (have hcx := HO.out w w1 b1) | skip))
  all_goals
    go_wp2
    go_ret
    refine ⟨rfl, ?_⟩
    first
      | exact ends1 b1
      | exact ends2 _ b1
set_option maxHeartbeats 2000000 in
theorem rhead_2 (n : Int) (v : Nat) (hv : v < 18446744073709551616) (h24 : 24 ≤ v) (hK : 65536 ≤ v ∧ v < 4294967296) (w : World) :
    Calls Try.prog 15 #[.int .i64 n, .int .u64 v] w fun e w' => e = .returned (.string ⟨(headB (n % 8).toNat v).toArray⟩) ∧ Below w.heap.size w w' := by
  have ha := mod8_ref n
  obtain ⟨m, hm⟩ : ∃ m, (n % 8).toNat = m := ⟨_, rfl⟩
  have hm8 : m < 8 := by omega
  rw [hm] at ha ⊢
  have hw1 : IntKind.u8.wrap (m : Int) = (m : Int) := wrapI_u8 _ (by omega) (by omega)
  have hw2 : IntKind.u8.wrap ((m : Int) * 32) = (m : Int) * 32 := wrapI_u8 _ (by omega) (by omega)
  have hw4 : IntKind.u8.wrap ((m : Int) * 32 + 26) = (m : Int) * 32 + 26 := wrapI_u8 _ (by omega) (by omega)
  have hc : (m : Int) * 32 + 26 = (((UInt8.ofNat (m * 32 + 26)).toNat : Nat) : Int) := by simp; omega
  have hcv := fun W => ho_new W (UInt8.ofNat (m * 32 + 26)) ((m : Int) * 32 + 26) hc
  have hcd := ho_drew w (UInt8.ofNat (m * 32 + 26)) ((m : Int) * 32 + 26) hc
  have HO := Lib.hid (fun (W W2 : World) hb => ho_old (w := W) (w2 := W2) (UInt8.ofNat (m * 32 + 26)) ((m : Int) * 32 + 26) hc hb)
  have HB := Lib.hid (fun W => rbig_n v 4 4 rfl hv (by omega) (by omega) _ rfl W)
  have e : (⟨(headB m v).toArray⟩ : ByteArray) = (⟨#[UInt8.ofNat (m * 32 + 26)]⟩ : ByteArray) ++ ⟨(bigB 4 v).toArray⟩ := by
    rw [show (⟨#[UInt8.ofNat (m * 32 + 26)]⟩ : ByteArray) = ⟨[UInt8.ofNat (m * 32 + 26)].toArray⟩ from rfl, ba_append]
    simp [headB, sizH_k v 2 hv h24 (by omega)]
  rw [e]
  have s2 : (⟨(bigB 4 v).toArray⟩ : ByteArray).size = 4 := by rw [ba_size, bigB_length]
  have s1 : (⟨#[UInt8.ofNat (m * 32 + 26)]⟩ : ByteArray).size = 1 := rfl
  generalize (⟨#[UInt8.ofNat (m * 32 + 26)]⟩ : ByteArray) = X at *
  generalize (⟨(bigB 4 v).toArray⟩ : ByteArray) = Y at *
  have hsum : (9223372036854775807 < X.size + Y.size) = False := by simp only [eq_iff_iff, iff_false]; omega
  have hz0 : ((v : Int) < 24) = False := by simp only [eq_iff_iff, iff_false]; omega
  have hz1 : ((v : Int) < 256) = False := by simp only [eq_iff_iff, iff_false]; omega
  have hz2 : ((v : Int) < 65536) = False := by simp only [eq_iff_iff, iff_false]; omega
  have hz3 : ((v : Int) < 4294967296) = True := by simp only [eq_iff_iff, iff_true]; omega
  clear e hm hc hK
  go_enter Try.func15, Try.ntmps15
  go_wp2_with fail
  go_region_with ((go_at_call 17); (with_reducible refine (HB.out _).mono ?_); (rintro e w1 ⟨rfl, b1⟩); (first | (have hcx := HO.out w w1 b1) | skip))
  all_goals
    go_wp2
    go_ret
    refine ⟨rfl, ?_⟩
    first
      | exact ends1 b1
      | exact ends2 _ b1
set_option maxHeartbeats 2000000 in
theorem rhead_3 (n : Int) (v : Nat) (hv : v < 18446744073709551616) (h24 : 24 ≤ v) (hK : 4294967296 ≤ v) (w : World) :
    Calls Try.prog 15 #[.int .i64 n, .int .u64 v] w fun e w' => e = .returned (.string ⟨(headB (n % 8).toNat v).toArray⟩) ∧ Below w.heap.size w w' := by
  have ha := mod8_ref n
  obtain ⟨m, hm⟩ : ∃ m, (n % 8).toNat = m := ⟨_, rfl⟩
  have hm8 : m < 8 := by omega
  rw [hm] at ha ⊢
  have hw1 : IntKind.u8.wrap (m : Int) = (m : Int) := wrapI_u8 _ (by omega) (by omega)
  have hw2 : IntKind.u8.wrap ((m : Int) * 32) = (m : Int) * 32 := wrapI_u8 _ (by omega) (by omega)
  have hw4 : IntKind.u8.wrap ((m : Int) * 32 + 27) = (m : Int) * 32 + 27 := wrapI_u8 _ (by omega) (by omega)
  have hc : (m : Int) * 32 + 27 = (((UInt8.ofNat (m * 32 + 27)).toNat : Nat) : Int) := by simp; omega
  have hcv := fun W => ho_new W (UInt8.ofNat (m * 32 + 27)) ((m : Int) * 32 + 27) hc
  have hcd := ho_drew w (UInt8.ofNat (m * 32 + 27)) ((m : Int) * 32 + 27) hc
  have HO := Lib.hid (fun (W W2 : World) hb => ho_old (w := W) (w2 := W2) (UInt8.ofNat (m * 32 + 27)) ((m : Int) * 32 + 27) hc hb)
  have HB := Lib.hid (fun W => rbig_n v 8 8 rfl hv (by omega) (by omega) _ rfl W)
  have e : (⟨(headB m v).toArray⟩ : ByteArray) = (⟨#[UInt8.ofNat (m * 32 + 27)]⟩ : ByteArray) ++ ⟨(bigB 8 v).toArray⟩ := by
    rw [show (⟨#[UInt8.ofNat (m * 32 + 27)]⟩ : ByteArray) = ⟨[UInt8.ofNat (m * 32 + 27)].toArray⟩ from rfl, ba_append]
    simp [headB, sizH_k v 3 hv h24 (by omega)]
  rw [e]
  have s2 : (⟨(bigB 8 v).toArray⟩ : ByteArray).size = 8 := by rw [ba_size, bigB_length]
  have s1 : (⟨#[UInt8.ofNat (m * 32 + 27)]⟩ : ByteArray).size = 1 := rfl
  generalize (⟨#[UInt8.ofNat (m * 32 + 27)]⟩ : ByteArray) = X at *
  generalize (⟨(bigB 8 v).toArray⟩ : ByteArray) = Y at *
  have hsum : (9223372036854775807 < X.size + Y.size) = False := by simp only [eq_iff_iff, iff_false]; omega
  have hz0 : ((v : Int) < 24) = False := by simp only [eq_iff_iff, iff_false]; omega
  have hz1 : ((v : Int) < 256) = False := by simp only [eq_iff_iff, iff_false]; omega
  have hz2 : ((v : Int) < 65536) = False := by simp only [eq_iff_iff, iff_false]; omega
  have hz3 : ((v : Int) < 4294967296) = False := by simp only [eq_iff_iff, iff_false]; omega
  clear e hm hc hK
  go_enter Try.func15, Try.ntmps15
  go_wp2_with fail
  go_region_with ((go_at_call 17); (with_reducible refine (HB.out _).mono ?_); (rintro e w1 ⟨rfl, b1⟩); (first | (have hcx := HO.out w w1 b1) | skip))
  all_goals
    go_wp2
    go_ret
    refine ⟨rfl, ?_⟩
    first
      | exact ends1 b1
      | exact ends2 _ b1
theorem rhead_any (n : Int) (v : Nat) (hv : v < 18446744073709551616) (w : World) :
    Calls Try.prog 15 #[.int .i64 n, .int .u64 v] w fun e w' => e = .returned (.string ⟨(headB (n % 8).toNat v).toArray⟩) ∧ Below w.heap.size w w' := by
  by_cases h : v < 24
  · exact rhead_small n v h w
  · obtain ⟨K, hK⟩ := class_of v
    rcases hK with hK | hK | hK | hK
    · exact rhead_0 n v hv (by omega) hK.2 w
    · exact rhead_1 n v hv (by omega) hK.2 w
    · exact rhead_2 n v hv (by omega) hK.2 w
    · exact rhead_3 n v hv (by omega) hK.2 w
end Go.Proofs.Ytkclpolgadlbhaa
