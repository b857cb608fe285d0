/-
  CONTRACT of the document's own heads of MessagePack (truchmanref1.length).
-/
import Derived.Test.YtonjdnahplphhaaHHeadRh
import Derived.Test.YtonjdnahplphhaaG0b
/-
  CONTRACT of the document's own heads of MessagePack (truchmanref1.length).
-/
namespace Go.Proofs.Ytonjdnahplphhaa
open Go.RowKit
open Go.Lib
set_option maxHeartbeats 2000000 in
theorem rlen_1 (one two four v : Nat) (h1 : one < 256) (_ : two < 256) (_ : four < 256) (hv : v < 18446744073709551616) (h0 : 0 < one) (hK : v < 256) (w : World) :
    Calls Try.prog 27 #[.int .u64 v, .int .u8 one, .int .u8 two, .int .u8 four] w fun e w' => e = .returned (.string ⟨(lenBs one two four v).toArray⟩) ∧ Below w.heap.size w w' := by
  have hc : (one : Int) = (((UInt8.ofNat one).toNat : Nat) : Int) := by simp; omega
  have hcv := fun W => ho_new W (UInt8.ofNat one) (one : Int) hc
  have hcd := ho_drew w (UInt8.ofNat one) (one : Int) hc
  have HO := Lib.hid (fun (W W2 : World) hb => ho_old (w := W) (w2 := W2) (UInt8.ofNat one) (one : Int) hc hb)
  have HB := Lib.hid (fun W => rbig_n v 1 1 rfl hv (by omega) (by omega) _ rfl W)
  have e : (⟨(lenBs one two four v).toArray⟩ : ByteArray) = (⟨#[UInt8.ofNat one]⟩ : ByteArray) ++ ⟨(bigB 1 v).toArray⟩ := by
    rw [show (⟨#[UInt8.ofNat one]⟩ : ByteArray) = ⟨[UInt8.ofNat one].toArray⟩ from rfl, ba_append]
    unfold lenBs
    rw [if_pos ⟨by omega, hK⟩]
    rfl
  rw [e]
  have s2 : (⟨(bigB 1 v).toArray⟩ : ByteArray).size = 1 := by rw [ba_size, bigB_length]
  have s1 : (⟨#[UInt8.ofNat one]⟩ : ByteArray).size = 1 := rfl
  generalize (⟨#[UInt8.ofNat one]⟩ : ByteArray) = X at *
  generalize (⟨(bigB 1 v).toArray⟩ : ByteArray) = Y at *
  have hsum : (9223372036854775807 < X.size + Y.size) = False := by simp only [eq_iff_iff, iff_false]; omega
  have z0 : (0 < (one : Int)) = True := by simp only [eq_iff_iff, iff_true]; omega
  have z1 : ((v : Int) < 256) = True := by simp only [eq_iff_iff, iff_true]; omega
  clear e hc
  go_enter Try.func27, Try.ntmps27
  go_wp2_with fail
  go_region_with ((go_at_call 49); (with_reducible refine (HB.out _).mono ?_); (rintro e w1 ⟨rfl, b1⟩); (first | (have hcx := HO.out w w1 b1) | skip))
  all_goals
    go_wp2
    go_ret
    refine ⟨rfl, ?_⟩
    first
      | exact ends1 b1
      | exact ends2 _ b1
set_option maxHeartbeats 2000000 in
theorem rlen_2a (one two four v : Nat) (_ : one < 256) (h2 : two < 256) (_ : four < 256) (hv : v < 18446744073709551616) (h0 : one = 0) (hK : v < 65536) (w : World) :
    Calls Try.prog 27 #[.int .u64 v, .int .u8 one, .int .u8 two, .int .u8 four] w fun e w' => e = .returned (.string ⟨(lenBs one two four v).toArray⟩) ∧ Below w.heap.size w w' := by
  have hc : (two : Int) = (((UInt8.ofNat two).toNat : Nat) : Int) := by simp; omega
  have hcv := fun W => ho_new W (UInt8.ofNat two) (two : Int) hc
  have hcd := ho_drew w (UInt8.ofNat two) (two : Int) hc
  have HO := Lib.hid (fun (W W2 : World) hb => ho_old (w := W) (w2 := W2) (UInt8.ofNat two) (two : Int) hc hb)
  have HB := Lib.hid (fun W => rbig_n v 2 2 rfl hv (by omega) (by omega) _ rfl W)
  have e : (⟨(lenBs one two four v).toArray⟩ : ByteArray) = (⟨#[UInt8.ofNat two]⟩ : ByteArray) ++ ⟨(bigB 2 v).toArray⟩ := by
    rw [show (⟨#[UInt8.ofNat two]⟩ : ByteArray) = ⟨[UInt8.ofNat two].toArray⟩ from rfl, ba_append]
    unfold lenBs
    rw [if_neg (by omega), if_pos hK]
    rfl
  rw [e]
  have s2 : (⟨(bigB 2 v).toArray⟩ : ByteArray).size = 2 := by rw [ba_size, bigB_length]
  have s1 : (⟨#[UInt8.ofNat two]⟩ : ByteArray).size = 1 := rfl
  generalize (⟨#[UInt8.ofNat two]⟩ : ByteArray) = X at *
  generalize (⟨(bigB 2 v).toArray⟩ : ByteArray) = Y at *
  have hsum : (9223372036854775807 < X.size + Y.size) = False := by simp only [eq_iff_iff, iff_false]; omega
  have z0 : (0 < (one : Int)) = False := by simp only [eq_iff_iff, iff_false]; omega
  have z2 : ((v : Int) < 65536) = True := by simp only [eq_iff_iff, iff_true]; omega
  clear e hc
  go_enter Try.func27, Try.ntmps27
  go_wp2_with fail
  go_region_with ((go_at_call 49); (with_reducible refine (HB.out _).mono ?_); (rintro e w1 ⟨rfl, b1⟩); (first | (have hcx := HO.out w w1 b1) | skip))
  all_goals
    go_wp2
    go_ret
    refine ⟨rfl, ?_⟩
    first
      | exact ends1 b1
      | exact ends2 _ b1
set_option maxHeartbeats 2000000 in
theorem rlen_2b (one two four v : Nat) (h1 : one < 256) (h2 : two < 256) (_ : four < 256) (hv : v < 18446744073709551616) (h0 : 0 < one) (hK : 256 ≤ v ∧ v < 65536) (w : World) :
    Calls Try.prog 27 #[.int .u64 v, .int .u8 one, .int .u8 two, .int .u8 four] w fun e w' => e = .returned (.string ⟨(lenBs one two four v).toArray⟩) ∧ Below w.heap.size w w' := by
  have hc : (two : Int) = (((UInt8.ofNat two).toNat : Nat) : Int) := by simp; omega
  have hcv := fun W => ho_new W (UInt8.ofNat two) (two : Int) hc
  have hcd := ho_drew w (UInt8.ofNat two) (two : Int) hc
  have HO := Lib.hid (fun (W W2 : World) hb => ho_old (w := W) (w2 := W2) (UInt8.ofNat two) (two : Int) hc hb)
  have HB := Lib.hid (fun W => rbig_n v 2 2 rfl hv (by omega) (by omega) _ rfl W)
  have e : (⟨(lenBs one two four v).toArray⟩ : ByteArray) = (⟨#[UInt8.ofNat two]⟩ : ByteArray) ++ ⟨(bigB 2 v).toArray⟩ := by
    rw [show (⟨#[UInt8.ofNat two]⟩ : ByteArray) = ⟨[UInt8.ofNat two].toArray⟩ from rfl, ba_append]
    unfold lenBs
    rw [if_neg (by omega), if_pos hK.2]
    rfl
  rw [e]
  have s2 : (⟨(bigB 2 v).toArray⟩ : ByteArray).size = 2 := by rw [ba_size, bigB_length]
  have s1 : (⟨#[UInt8.ofNat two]⟩ : ByteArray).size = 1 := rfl
  generalize (⟨#[UInt8.ofNat two]⟩ : ByteArray) = X at *
  generalize (⟨(bigB 2 v).toArray⟩ : ByteArray) = Y at *
  have hsum : (9223372036854775807 < X.size + Y.size) = False := by simp only [eq_iff_iff, iff_false]; omega
  have z0 : (0 < (one : Int)) = True := by simp only [eq_iff_iff, iff_true]; omega
  have z1 : ((v : Int) < 256) = False := by simp only [eq_iff_iff, iff_false]; omega
  have z2 : ((v : Int) < 65536) = True := by simp only [eq_iff_iff, iff_true]; omega
  clear e hc
  go_enter Try.func27, Try.ntmps27
  go_wp2_with fail
  go_region_with ((go_at_call 49); (with_reducible refine (HB.out _).mono ?_); (rintro e w1 ⟨rfl, b1⟩); (first | (have hcx := HO.out w w1 b1) | skip))
  all_goals
    go_wp2
    go_ret
    refine ⟨rfl, ?_⟩
    first
      | exact ends1 b1
      | exact ends2 _ b1
set_option maxHeartbeats 2000000 in
theorem rlen_4a (one two four v : Nat) (_ : one < 256) (_ : two < 256) (h4 : four < 256) (hv : v < 18446744073709551616) (h0 : one = 0) (hK : 65536 ≤ v) (w : World) :
    Calls Try.prog 27 #[.int .u64 v, .int .u8 one, .int .u8 two, .int .u8 four] w fun e w' => e = .returned (.string ⟨(lenBs one two four v).toArray⟩) ∧ Below w.heap.size w w' := by
  have hc : (four : Int) = (((UInt8.ofNat four).toNat : Nat) : Int) := by simp; omega
  have hcv := fun W => ho_new W (UInt8.ofNat four) (four : Int) hc
  have hcd := ho_drew w (UInt8.ofNat four) (four : Int) hc
  have HO := Lib.hid (fun (W W2 : World) hb => ho_old (w := W) (w2 := W2) (UInt8.ofNat four) (four : Int) hc hb)
  have HB := Lib.hid (fun W => rbig_n v 4 4 rfl hv (by omega) (by omega) _ rfl W)
  have e : (⟨(lenBs one two four v).toArray⟩ : ByteArray) = (⟨#[UInt8.ofNat four]⟩ : ByteArray) ++ ⟨(bigB 4 v).toArray⟩ := by
    rw [show (⟨#[UInt8.ofNat four]⟩ : ByteArray) = ⟨[UInt8.ofNat four].toArray⟩ from rfl, ba_append]
    unfold lenBs
    rw [if_neg (by omega), if_neg (by omega)]
    rfl
  rw [e]
  have s2 : (⟨(bigB 4 v).toArray⟩ : ByteArray).size = 4 := by rw [ba_size, bigB_length]
  have s1 : (⟨#[UInt8.ofNat four]⟩ : ByteArray).size = 1 := rfl
  generalize (⟨#[UInt8.ofNat four]⟩ : ByteArray) = X at *
  generalize (⟨(bigB 4 v).toArray⟩ : ByteArray) = Y at *
  have hsum : (9223372036854775807 < X.size + Y.size) = False := by simp only [eq_iff_iff, iff_false]; omega
  have z0 : (0 < (one : Int)) = False := by simp only [eq_iff_iff, iff_false]; omega
  have z2 : ((v : Int) < 65536) = False := by simp only [eq_iff_iff, iff_false]; omega
  clear e hc
  go_enter Try.func27, Try.ntmps27
  go_wp2_with fail
  go_region_with ((go_at_call 49); (with_reducible refine (HB.out _).mono ?_); (rintro e w1 ⟨rfl, b1⟩); (first | (have hcx := HO.out w w1 b1) | skip))
  all_goals
    go_wp2
    go_ret
    refine ⟨rfl, ?_⟩
    first
      | exact ends1 b1
      | exact ends2 _ b1
set_option maxHeartbeats 2000000 in
theorem rlen_4b (one two four v : Nat) (h1 : one < 256) (_ : two < 256) (h4 : four < 256) (hv : v < 18446744073709551616) (h0 : 0 < one) (hK : 65536 ≤ v) (w : World) :
    Calls Try.prog 27 #[.int .u64 v, .int .u8 one, .int .u8 two, .int .u8 four] w fun e w' => e = .returned (.string ⟨(lenBs one two four v).toArray⟩) ∧ Below w.heap.size w w' := by
  have hc : (four : Int) = (((UInt8.ofNat four).toNat : Nat) : Int) := by simp; omega
  have hcv := fun W => ho_new W (UInt8.ofNat four) (four : Int) hc
  have hcd := ho_drew w (UInt8.ofNat four) (four : Int) hc
  have HO := Lib.hid (fun (W W2 : World) hb => ho_old (w := W) (w2 := W2) (UInt8.ofNat four) (four : Int) hc hb)
  have HB := Lib.hid (fun W => rbig_n v 4 4 rfl hv (by omega) (by omega) _ rfl W)
  have e : (⟨(lenBs one two four v).toArray⟩ : ByteArray) = (⟨#[UInt8.ofNat four]⟩ : ByteArray) ++ ⟨(bigB 4 v).toArray⟩ := by
    rw [show (⟨#[UInt8.ofNat four]⟩ : ByteArray) = ⟨[UInt8.ofNat four].toArray⟩ from rfl, ba_append]
    unfold lenBs
    rw [if_neg (by omega), if_neg (by omega)]
    rfl
  rw [e]
  have s2 : (⟨(bigB 4 v).toArray⟩ : ByteArray).size = 4 := by rw [ba_size, bigB_length]
  have s1 : (⟨#[UInt8.ofNat four]⟩ : ByteArray).size = 1 := rfl
  generalize (⟨#[UInt8.ofNat four]⟩ : ByteArray) = X at *
  generalize (⟨(bigB 4 v).toArray⟩ : ByteArray) = Y at *
  have hsum : (9223372036854775807 < X.size + Y.size) = False := by simp only [eq_iff_iff, iff_false]; omega
  have z0 : (0 < (one : Int)) = True := by simp only [eq_iff_iff, iff_true]; omega
  have z1 : ((v : Int) < 256) = False := by simp only [eq_iff_iff, iff_false]; omega
  have z2 : ((v : Int) < 65536) = False := by simp only [eq_iff_iff, iff_false]; omega
  clear e hc
  go_enter Try.func27, Try.ntmps27
  go_wp2_with fail
  go_region_with ((go_at_call 49); (with_reducible refine (HB.out _).mono ?_); (rintro e w1 ⟨rfl, b1⟩); (first | (have hcx := HO.out w w1 b1) | skip))
  all_goals
    go_wp2
    go_ret
    refine ⟨rfl, ?_⟩
    first
      | exact ends1 b1
      | exact ends2 _ b1
theorem rlen_any (one two four v : Nat) (h1 : one < 256) (h2 : two < 256) (h4 : four < 256) (hv : v < 18446744073709551616) (w : World) :
    Calls Try.prog 27 #[.int .u64 v, .int .u8 one, .int .u8 two, .int .u8 four] w fun e w' => e = .returned (.string ⟨(lenBs one two four v).toArray⟩) ∧ Below w.heap.size w w' := by
  by_cases h0 : one = 0
  · by_cases hK : v < 65536
    · exact rlen_2a one two four v h1 h2 h4 hv h0 hK w
    · exact rlen_4a one two four v h1 h2 h4 hv h0 (by omega) w
  · by_cases ha : v < 256
    · exact rlen_1 one two four v h1 h2 h4 hv (by omega) ha w
    · by_cases hK : v < 65536
      · exact rlen_2b one two four v h1 h2 h4 hv (by omega) (by omega) w
      · exact rlen_4b one two four v h1 h2 h4 hv (by omega) (by omega) w
end Go.Proofs.Ytonjdnahplphhaa
