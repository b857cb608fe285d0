/-
  CONTRACT of truchmanref1.Head: the shortest head of a number.
-/
import Derived.Test.YtonjdnahplphhaaG0c
import Derived.Deep.RegionWith
/-
  CONTRACT of truchmanref1.Head: the shortest head of a number.
-/
namespace Go.Proofs.Ytonjdnahplphhaa
open Go.RowKit
open Go.Lib
theorem mod8_ref (a : Int) : (wrap64 (a.tmod 8 + 8)).tmod 8 = ((a % 8).toNat : Int) := by
  have h1 := Int.tmod_lt_of_pos a (show (0 : Int) < 8 by omega)
  have h2 : -(8 : Int) < a.tmod 8 := Int.lt_tmod_of_pos a (show (0 : Int) < 8 by omega)
  have h0 : a.tmod 8 = a % 8 ∨ a.tmod 8 = a % 8 - 8 := by
    rw [Int.tmod_eq_emod]
    split
    · exact .inl (by omega)
    · exact .inr rfl
  have hw : wrap64 (a.tmod 8 + 8) = a.tmod 8 + 8 := by unfold wrap64; omega
  rw [hw, Int.tmod_eq_emod_of_nonneg (by omega)]
  omega
theorem big_one (v : Nat) : bigB 1 v = [UInt8.ofNat v] := by
  simp only [bigB, Nat.pow_zero, Nat.div_one]
  congr 1
  apply UInt8.toNat_inj.1
  simp
theorem sizH_k (v K : Nat) (hv : v < 18446744073709551616) (h24 : 24 ≤ v) (hK : K = 0 ∧ v < 256 ∨ K = 1 ∧ 256 ≤ v ∧ v < 65536 ∨ K = 2 ∧ 65536 ≤ v ∧ v < 4294967296 ∨ K = 3 ∧ 4294967296 ≤ v) : sizH v = (2 ^ K, 24 + K) := by
  rcases sizH_cases v hv with ⟨h, e⟩ | ⟨h, e⟩ | ⟨h, e⟩ | ⟨h, e⟩ | ⟨h, e⟩ <;> rcases hK with hK | hK | hK | hK <;> first | omega | (obtain ⟨rfl, _⟩ := hK; exact e)
theorem class_of (v : Nat) : ∃ K : Nat, K = 0 ∧ v < 256 ∨ K = 1 ∧ 256 ≤ v ∧ v < 65536 ∨ K = 2 ∧ 65536 ≤ v ∧ v < 4294967296 ∨ K = 3 ∧ 4294967296 ≤ v := by
  by_cases h1 : v < 256
  · exact ⟨0, .inl ⟨rfl, h1⟩⟩
  · by_cases h2 : v < 65536
    · exact ⟨1, by omega⟩
    · by_cases h3 : v < 4294967296
      · exact ⟨2, by omega⟩
      · exact ⟨3, by omega⟩
theorem ba_cons (a b : List UInt8) (c : List UInt8) (h : a ++ b = c) : (⟨a.toArray⟩ : ByteArray) ++ (⟨b.toArray⟩ : ByteArray) = ⟨c.toArray⟩ := by
  rw [ba_append, h]
theorem ba_size (l : List UInt8) : (⟨l.toArray⟩ : ByteArray).size = l.length := rfl
theorem cell_of {w : World} {g : Nat} {x : UInt8} {c : Int} (hc : c = ((x.toNat : Nat) : Int)) (h : w.heap[g]? = some (.cells #[.int .u8 c] 5 (0, 0))) :
    (convert 60 9 (.slice (some ⟨g, 0, none⟩) 1 1)).run Try.prog w = .ok (.string ⟨#[x]⟩) w := by
  subst hc
  exact conv_row (w := w) (g := g) (l := [x]) h 0 1 1 (by simp)
theorem heap_last (w : World) (x : Obj) : (w.alloc x).heap[w.heap.size]? = some x := by
  show (w.heap.push _)[_]? = _
  rw [Array.getElem?_push, if_pos rfl]
theorem ho_drew (w : World) (x : UInt8) (c : Int) (hc : c = ((x.toNat : Nat) : Int)) :
    (convert 60 9 (.slice (some ⟨w.heap.size, 0, none⟩) 1 1)).run Try.prog (w.alloc (.cells #[.int .u8 c] 5)).drew = .ok (.string ⟨#[x]⟩) (w.alloc (.cells #[.int .u8 c] 5)).drew := cell_of hc (heap_last w _)
theorem ends1 {w w1 : World} {O : Obj} (b : Below (w.alloc O).drew.heap.size (w.alloc O).drew w1) : Below w.heap.size w w1 := by
  have a : Below w.heap.size w (w.alloc O).drew := below_drewN ((Below.refl w.heap.size w).alloc (Nat.le_refl _) O) 1
  exact a.trans (b.mono a.size)
theorem ends2 {w w1 : World} (O : Obj) (b : Below w.drew.heap.size w.drew w1) : Below w.heap.size w (w1.alloc O) := by
  have a : Below w.heap.size w w.drew := below_drewN (Below.refl w.heap.size w) 1
  have c := a.trans b
  exact c.alloc c.size O
/-- One byte, made ahead of a call, or behind it. -/
theorem ho_new (w : World) (x : UInt8) (c : Int) (hc : c = ((x.toNat : Nat) : Int)) :
    (convert 60 9 (.slice (some ⟨w.heap.size, 0, none⟩) 1 1)).run Try.prog (w.alloc (.cells #[.int .u8 c] 5)) = .ok (.string ⟨#[x]⟩) (w.alloc (.cells #[.int .u8 c] 5)) := cell_of hc (heap_last w _)
theorem ho_old {w w2 : World} (x : UInt8) (c : Int) (hc : c = ((x.toNat : Nat) : Int)) (hb : Below (w.alloc (.cells #[.int .u8 c] 5)).drew.heap.size (w.alloc (.cells #[.int .u8 c] 5)).drew w2) :
    (convert 60 9 (.slice (some ⟨w.heap.size, 0, none⟩) 1 1)).run Try.prog w2 = .ok (.string ⟨#[x]⟩) w2 := cell_of hc ((hb.block _ (by show w.heap.size < (w.heap.push _).size; simp)).trans (heap_last w _))
theorem rbig_n (f n : Nat) (z : Int) (hz : z = n) (hf : f < 18446744073709551616) (h1 : 1 ≤ n) (h8 : n ≤ 8) (X : ByteArray) (h : X = ⟨(bigB n f).toArray⟩) (w : World) : Calls Try.prog 49 #[.int .u64 f, .int .i64 z] w fun e w' => e = .returned (.string X) ∧ Below w.heap.size w w' := by
  subst h hz
  exact rbig_any f n hf h1 h8 w
set_option maxHeartbeats 1000000 in
theorem rhead_small (n : Int) (v : Nat) (hv : v < 24) (w : World) :
    Calls Try.prog 26 #[.int .i64 n, .int .u64 v] w fun e w' => e = .returned (.string ⟨(headB (n % 8).toNat v).toArray⟩) ∧ Below w.heap.size w w' := by
  have ha := mod8_ref n
  obtain ⟨m, hm⟩ : ∃ m, (n % 8).toNat = m := ⟨_, rfl⟩
  have hm8 : m < 8 := by omega
  rw [hm] at ha ⊢
  have hw1 : IntKind.u8.wrap (m : Int) = (m : Int) := wrapI_u8 _ (by omega) (by omega)
  have hw2 : IntKind.u8.wrap ((m : Int) * 32) = (m : Int) * 32 := wrapI_u8 _ (by omega) (by omega)
  have hw3 : IntKind.u8.wrap (v : Int) = (v : Int) := wrapI_u8 _ (by omega) (by omega)
  have hw4 : IntKind.u8.wrap ((m : Int) * 32 + (v : Int)) = (m : Int) * 32 + (v : Int) := wrapI_u8 _ (by omega) (by omega)
  have hcv := ho_new w (UInt8.ofNat (m * 32 + v)) ((m : Int) * 32 + (v : Int)) (by simp; omega)
  have e : headB m v = [UInt8.ofNat (m * 32 + v)] := by simp [headB, sizH, hv, bigB]
  rw [e]
  have hz : ((v : Int) < 24) = True := by simp only [eq_iff_iff, iff_true]; omega
  generalize (⟨#[UInt8.ofNat (m * 32 + v)]⟩ : ByteArray) = X at *
  clear e hm
  go_enter Try.func26, Try.ntmps26
  go_wp2
  go_ret
  exact ⟨rfl, (Below.refl _ _).alloc (Nat.le_refl _) _⟩
set_option maxHeartbeats 2000000 in
theorem rhead_0 (n : Int) (v : Nat) (hv : v < 18446744073709551616) (h24 : 24 ≤ v) (hK : v < 256) (w : World) :
    Calls Try.prog 26 #[.int .i64 n, .int .u64 v] w fun e w' => e = .returned (.string ⟨(headB (n % 8).toNat v).toArray⟩) ∧ Below w.heap.size w w' := by
  have ha := mod8_ref n
  obtain ⟨m, hm⟩ : ∃ m, (n % 8).toNat = m := ⟨_, rfl⟩
  have hm8 : m < 8 := by omega
  rw [hm] at ha ⊢
  have hw1 : IntKind.u8.wrap (m : Int) = (m : Int) := wrapI_u8 _ (by omega) (by omega)
  have hw2 : IntKind.u8.wrap ((m : Int) * 32) = (m : Int) * 32 := wrapI_u8 _ (by omega) (by omega)
  have hw4 : IntKind.u8.wrap ((m : Int) * 32 + 24) = (m : Int) * 32 + 24 := wrapI_u8 _ (by omega) (by omega)
  have hc : (m : Int) * 32 + 24 = (((UInt8.ofNat (m * 32 + 24)).toNat : Nat) : Int) := by simp; omega
  have hcv := fun W => ho_new W (UInt8.ofNat (m * 32 + 24)) ((m : Int) * 32 + 24) hc
  have hcd := ho_drew w (UInt8.ofNat (m * 32 + 24)) ((m : Int) * 32 + 24) hc
  have HO := Lib.hid (fun (W W2 : World) hb => ho_old (w := W) (w2 := W2) (UInt8.ofNat (m * 32 + 24)) ((m : Int) * 32 + 24) hc hb)
  have HB := Lib.hid (fun W => rbig_n v 1 1 rfl hv (by omega) (by omega) _ rfl W)
  have e : (⟨(headB m v).toArray⟩ : ByteArray) = (⟨#[UInt8.ofNat (m * 32 + 24)]⟩ : ByteArray) ++ ⟨(bigB 1 v).toArray⟩ := by
    rw [show (⟨#[UInt8.ofNat (m * 32 + 24)]⟩ : ByteArray) = ⟨[UInt8.ofNat (m * 32 + 24)].toArray⟩ from rfl, ba_append]
    simp [headB, sizH_k v 0 hv h24 (by omega)]
  rw [e]
  have s2 : (⟨(bigB 1 v).toArray⟩ : ByteArray).size = 1 := by rw [ba_size, bigB_length]
  have s1 : (⟨#[UInt8.ofNat (m * 32 + 24)]⟩ : ByteArray).size = 1 := rfl
  generalize (⟨#[UInt8.ofNat (m * 32 + 24)]⟩ : ByteArray) = X at *
  generalize (⟨(bigB 1 v).toArray⟩ : ByteArray) = Y at *
  have hsum : (9223372036854775807 < X.size + Y.size) = False := by simp only [eq_iff_iff, iff_false]; omega
  have hz0 : ((v : Int) < 24) = False := by simp only [eq_iff_iff, iff_false]; omega
  have hz1 : ((v : Int) < 256) = True := by simp only [eq_iff_iff, iff_true]; omega
  clear e hm hc hK
  go_enter Try.func26, Try.ntmps26
  go_wp2_with fail
  go_region_with ((go_at_call 49); (with_reducible refine (HB.out _).mono ?_); (rintro e w1 ⟨rfl, b1⟩); (first | (have hcx := HO.out w w1 b1) | skip))
  all_goals
    go_wp2
    go_ret
    refine ⟨rfl, ?_⟩
    first
      | exact ends1 b1
      | exact ends2 _ b1
set_option maxHeartbeats 2000000 in
theorem rhead_1 (n : Int) (v : Nat) (hv : v < 18446744073709551616) (h24 : 24 ≤ v) (hK : 256 ≤ v ∧ v < 65536) (w : World) :
    Calls Try.prog 26 #[.int .i64 n, .int .u64 v] w fun e w' => e = .returned (.string ⟨(headB (n % 8).toNat v).toArray⟩) ∧ Below w.heap.size w w' := by
  have ha := mod8_ref n
  obtain ⟨m, hm⟩ : ∃ m, (n % 8).toNat = m := ⟨_, rfl⟩
  have hm8 : m < 8 := by omega
  rw [hm] at ha ⊢
  have hw1 : IntKind.u8.wrap (m : Int) = (m : Int) := wrapI_u8 _ (by omega) (by omega)
  have hw2 : IntKind.u8.wrap ((m : Int) * 32) = (m : Int) * 32 := wrapI_u8 _ (by omega) (by omega)
  have hw4 : IntKind.u8.wrap ((m : Int) * 32 + 25) = (m : Int) * 32 + 25 := wrapI_u8 _ (by omega) (by omega)
  have hc : (m : Int) * 32 + 25 = (((UInt8.ofNat (m * 32 + 25)).toNat : Nat) : Int) := by simp; omega
  have hcv := fun W => ho_new W (UInt8.ofNat (m * 32 + 25)) ((m : Int) * 32 + 25) hc
  have hcd := ho_drew w (UInt8.ofNat (m * 32 + 25)) ((m : Int) * 32 + 25) hc
  have HO := Lib.hid (fun (W W2 : World) hb => ho_old (w := W) (w2 := W2) (UInt8.ofNat (m * 32 + 25)) ((m : Int) * 32 + 25) hc hb)
  have HB := Lib.hid (fun W => rbig_n v 2 2 rfl hv (by omega) (by omega) _ rfl W)
  have e : (⟨(headB m v).toArray⟩ : ByteArray) = (⟨#[UInt8.ofNat (m * 32 + 25)]⟩ : ByteArray) ++ ⟨(bigB 2 v).toArray⟩ := by
    rw [show (⟨#[UInt8.ofNat (m * 32 + 25)]⟩ : ByteArray) = ⟨[UInt8.ofNat (m * 32 + 25)].toArray⟩ from rfl, ba_append]
    simp [headB, sizH_k v 1 hv h24 (by omega)]
  rw [e]
  have s2 : (⟨(bigB 2 v).toArray⟩ : ByteArray).size = 2 := by rw [ba_size, bigB_length]
  have s1 : (⟨#[UInt8.ofNat (m * 32 + 25)]⟩ : ByteArray).size = 1 := rfl
  generalize (⟨#[UInt8.ofNat (m * 32 + 25)]⟩ : ByteArray) = X at *
  generalize (⟨(bigB 2 v).toArray⟩ : ByteArray) = Y at *
  have hsum : (9223372036854775807 < X.size + Y.size) = False := by simp only [eq_iff_iff, iff_false]; omega
  have hz0 : ((v : Int) < 24) = False := by simp only [eq_iff_iff, iff_false]; omega
  have hz1 : ((v : Int) < 256) = False := by simp only [eq_iff_iff, iff_false]; omega
  have hz2 : ((v : Int) < 65536) = True := by simp only [eq_iff_iff, iff_true]; omega
  clear e hm hc hK
  go_enter Try.func26, Try.ntmps26
  go_wp2_with fail
  go_region_with ((go_at_call 49); (with_reducible refine (HB.out _).mono ?_); (rintro e w1 ⟨rfl, b1⟩); (first | (have hcx := HO.out w w1 b1) | skip))
  all_goals
    go_wp2
    go_ret
    refine ⟨rfl, ?_⟩
    first
      | exact ends1 b1
      | exact ends2 _ b1
set_option maxHeartbeats 2000000 in
theorem rhead_2 (n : Int) (v : Nat) (hv : v < 18446744073709551616) (h24 : 24 ≤ v) (hK : 65536 ≤ v ∧ v < 4294967296) (w : World) :
    Calls Try.prog 26 #[.int .i64 n, .int .u64 v] w fun e w' => e = .returned (.string ⟨(headB (n % 8).toNat v).toArray⟩) ∧ Below w.heap.size w w' := by
  have ha := mod8_ref n
  obtain ⟨m, hm⟩ : ∃ m, (n % 8).toNat = m := ⟨_, rfl⟩
  have hm8 : m < 8 := by omega
  rw [hm] at ha ⊢
  have hw1 : IntKind.u8.wrap (m : Int) = (m : Int) := wrapI_u8 _ (by omega) (by omega)
  have hw2 : IntKind.u8.wrap ((m : Int) * 32) = (m : Int) * 32 := wrapI_u8 _ (by omega) (by omega)
  have hw4 : IntKind.u8.wrap ((m : Int) * 32 + 26) = (m : Int) * 32 + 26 := wrapI_u8 _ (by omega) (by omega)
  have hc : (m : Int) * 32 + 26 = (((UInt8.ofNat (m * 32 + 26)).toNat : Nat) : Int) := by simp; omega
  have hcv := fun W => ho_new W (UInt8.ofNat (m * 32 + 26)) ((m : Int) * 32 + 26) hc
  have hcd := ho_drew w (UInt8.ofNat (m * 32 + 26)) ((m : Int) * 32 + 26) hc
  have HO := Lib.hid (fun (W W2 : World) hb => ho_old (w := W) (w2 := W2) (UInt8.ofNat (m * 32 + 26)) ((m : Int) * 32 + 26) hc hb)
  have HB := Lib.hid (fun W => rbig_n v 4 4 rfl hv (by omega) (by omega) _ rfl W)
  have e : (⟨(headB m v).toArray⟩ : ByteArray) = (⟨#[UInt8.ofNat (m * 32 + 26)]⟩ : ByteArray) ++ ⟨(bigB 4 v).toArray⟩ := by
    rw [show (⟨#[UInt8.ofNat (m * 32 + 26)]⟩ : ByteArray) = ⟨[UInt8.ofNat (m * 32 + 26)].toArray⟩ from rfl, ba_append]
    simp [headB, sizH_k v 2 hv h24 (by omega)]
  rw [e]
  have s2 : (⟨(bigB 4 v).toArray⟩ : ByteArray).size = 4 := by rw [ba_size, bigB_length]
  have s1 : (⟨#[UInt8.ofNat (m * 32 + 26)]⟩ : ByteArray).size = 1 := rfl
  generalize (⟨#[UInt8.ofNat (m * 32 + 26)]⟩ : ByteArray) = X at *
  generalize (⟨(bigB 4 v).toArray⟩ : ByteArray) = Y at *
  have hsum : (9223372036854775807 < X.size + Y.size) = False := by simp only [eq_iff_iff, iff_false]; omega
  have hz0 : ((v : Int) < 24) = False := by simp only [eq_iff_iff, iff_false]; omega
  have hz1 : ((v : Int) < 256) = False := by simp only [eq_iff_iff, iff_false]; omega
  have hz2 : ((v : Int) < 65536) = False := by simp only [eq_iff_iff, iff_false]; omega
  have hz3 : ((v : Int) < 4294967296) = True := by simp only [eq_iff_iff, iff_true]; omega
  clear e hm hc hK
  go_enter Try.func26, Try.ntmps26
  go_wp2_with fail
  go_region_with ((go_at_call 49); (with_reducible refine (HB.out _).mono ?_); (rintro e w1 ⟨rfl, b1⟩); (first | (have hcx := HO.out w w1 b1) | skip))
  all_goals
    go_wp2
    go_ret
    refine ⟨rfl, ?_⟩
    first
      | exact ends1 b1
      | exact ends2 _ b1
set_option maxHeartbeats 2000000 in
theorem rhead_3 (n : Int) (v : Nat) (hv : v < 18446744073709551616) (h24 : 24 ≤ v) (hK : 4294967296 ≤ v) (w : World) :
    Calls Try.prog 26 #[.int .i64 n, .int .u64 v] w fun e w' => e = .returned (.string ⟨(headB (n % 8).toNat v).toArray⟩) ∧ Below w.heap.size w w' := by
  have ha := mod8_ref n
  obtain ⟨m, hm⟩ : ∃ m, (n % 8).toNat = m := ⟨_, rfl⟩
  have hm8 : m < 8 := by omega
  rw [hm] at ha ⊢
  have hw1 : IntKind.u8.wrap (m : Int) = (m : Int) := wrapI_u8 _ (by omega) (by omega)
  have hw2 : IntKind.u8.wrap ((m : Int) * 32) = (m : Int) * 32 := wrapI_u8 _ (by omega) (by omega)
  have hw4 : IntKind.u8.wrap ((m : Int) * 32 + 27) = (m : Int) * 32 + 27 := wrapI_u8 _ (by omega) (by omega)
  have hc : (m : Int) * 32 + 27 = (((UInt8.ofNat (m * 32 + 27)).toNat : Nat) : Int) := by simp; omega
  have hcv := fun W => ho_new W (UInt8.ofNat (m * 32 + 27)) ((m : Int) * 32 + 27) hc
  have hcd := ho_drew w (UInt8.ofNat (m * 32 + 27)) ((m : Int) * 32 + 27) hc
  have HO := Lib.hid (fun (W W2 : World) hb => ho_old (w := W) (w2 := W2) (UInt8.ofNat (m * 32 + 27)) ((m : Int) * 32 + 27) hc hb)
  have HB := Lib.hid (fun W => rbig_n v 8 8 rfl hv (by omega) (by omega) _ rfl W)
  have e : (⟨(headB m v).toArray⟩ : ByteArray) = (⟨#[UInt8.ofNat (m * 32 + 27)]⟩ : ByteArray) ++ ⟨(bigB 8 v).toArray⟩ := by
    rw [show (⟨#[UInt8.ofNat (m * 32 + 27)]⟩ : ByteArray) = ⟨[UInt8.ofNat (m * 32 + 27)].toArray⟩ from rfl, ba_append]
    simp [headB, sizH_k v 3 hv h24 (by omega)]
  rw [e]
  have s2 : (⟨(bigB 8 v).toArray⟩ : ByteArray).size = 8 := by rw [ba_size, bigB_length]
  have s1 : (⟨#[UInt8.ofNat (m * 32 + 27)]⟩ : ByteArray).size = 1 := rfl
  generalize (⟨#[UInt8.ofNat (m * 32 + 27)]⟩ : ByteArray) = X at *
  generalize (⟨(bigB 8 v).toArray⟩ : ByteArray) = Y at *
  have hsum : (9223372036854775807 < X.size + Y.size) = False := by simp only [eq_iff_iff, iff_false]; omega
  have hz0 : ((v : Int) < 24) = False := by simp only [eq_iff_iff, iff_false]; omega
  have hz1 : ((v : Int) < 256) = False := by simp only [eq_iff_iff, iff_false]; omega
  have hz2 : ((v : Int) < 65536) = False := by simp only [eq_iff_iff, iff_false]; omega
  have hz3 : ((v : Int) < 4294967296) = False := by simp only [eq_iff_iff, iff_false]; omega
  clear e hm hc hK
  go_enter Try.func26, Try.ntmps26
  go_wp2_with fail
  go_region_with ((go_at_call 49); (with_reducible refine (HB.out _).mono ?_); (rintro e w1 ⟨rfl, b1⟩); (first | (have hcx := HO.out w w1 b1) | skip))
  all_goals
    go_wp2
    go_ret
    refine ⟨rfl, ?_⟩
    first
      | exact ends1 b1
      | exact ends2 _ b1
theorem rhead_any (n : Int) (v : Nat) (hv : v < 18446744073709551616) (w : World) :
    Calls Try.prog 26 #[.int .i64 n, .int .u64 v] w fun e w' => e = .returned (.string ⟨(headB (n % 8).toNat v).toArray⟩) ∧ Below w.heap.size w w' := by
  by_cases h : v < 24
  · exact rhead_small n v h w
  · obtain ⟨K, hK⟩ := class_of v
    rcases hK with hK | hK | hK | hK
    · exact rhead_0 n v hv (by omega) hK.2 w
    · exact rhead_1 n v hv (by omega) hK.2 w
    · exact rhead_2 n v hv (by omega) hK.2 w
    · exact rhead_3 n v hv (by omega) hK.2 w
end Go.Proofs.Ytonjdnahplphhaa
