/-
  CONTRACTS of utf.Put, and of the documents own Rune.
-/
import Derived.Test.YteonbajndghfcaaVr
import Derived.OwnWalk
import Derived.Test.YteonbajndghfcaaUtfEnc
import Derived.Test.YteonbajndghfcaaKit
namespace Go.Proofs.Yteonbajndghfcaa
open Go.RowKit
open Go.Lib
theorem wrap32 (n : Int) (h : 0 ≤ n) (h1 : n ≤ 1114111) : IntKind.i32.wrap n = n := by rw [IntKind.wrap_i32]; omega
theorem conv_rune (n : Int) (W : World) : (convert 21 9 (.int .i32 n)).run Try.prog W = .ok (.string (Utf8.encode n)) W :=
  run_convert_int_string W 21 9 .i32 n (by rw [Try.underlying21]; rfl) Try.underlying9
set_option maxHeartbeats 400000 in
theorem put_ok (n : Nat) (hr : IsRune n) (w : World) :
    Calls Try.prog 53 #[.int .i64 n] w fun e w' => e = .returned (.tuple #[.string (Utf8.encode n), .bool true]) ∧ w = w' := by
  unfold IsRune at hr
  have h1 : ¬ ((n : Int) < 0) := by omega
  have h2 : ¬ ((1114111 : Int) < n) := by omega
  have hw := wrap32 n (by omega) (by omega)
  have hv : Lib.validRune (n : Int) = true := by unfold Lib.validRune; simp only [decide_eq_true_eq]; omega
  have hV := fun W => utf8_ValidRune (n : Int) W
  rw [hv] at hV
  have HV := Lib.hid hV
  have hC := conv_rune (n : Int)
  generalize Utf8.encode (n : Int) = s at *
  clear hr hv hV
  go_enter Try.func53, Try.ntmps53
  go_wp2_with fail
  refine (HV.out _).mono ?_
  rintro e w' ⟨rfl, rfl⟩
  go_wp2
  go_ret2
  exact ⟨rfl, rfl⟩
set_option maxHeartbeats 400000 in
theorem put_no (r : Int) (hr : r < 0 ∨ 1114111 < r ∨ (55296 ≤ r ∧ r ≤ 57343)) (w : World) :
    Calls Try.prog 53 #[.int .i64 r] w fun e w' => e = .returned (.tuple #[.string ⟨#[]⟩, .bool false]) ∧ w = w' := by
  by_cases h1 : r < 0
  · clear hr
    go_enter Try.func53, Try.ntmps53
    go_wp2
    go_ret2
    exact ⟨rfl, rfl⟩
  by_cases h2 : (1114111 : Int) < r
  · clear hr
    go_enter Try.func53, Try.ntmps53
    go_wp2
    go_ret2
    exact ⟨rfl, rfl⟩
  have hw := wrap32 r (by omega) (by omega)
  have hv : Lib.validRune r = false := by unfold Lib.validRune; simp only [decide_eq_false_iff_not]; omega
  have hV := fun W => utf8_ValidRune r W
  rw [hv] at hV
  have HV := Lib.hid hV
  clear hr hv hV
  go_enter Try.func53, Try.ntmps53
  go_wp2_with fail
  refine (HV.out _).mono ?_
  rintro e w' ⟨rfl, rfl⟩
  go_wp2
  go_ret2
  exact ⟨rfl, rfl⟩
theorem conv_new (W : World) (l : List UInt8) (cs : Array Value) (k : Nat) (hk : l.length = k) (hc : cs = (Lib.byteCells l).toArray) (x : ByteArray) (hx : x = ⟨l.toArray⟩) :
    (convert 53 9 (.slice (some ⟨W.heap.size, 0, none⟩) k k)).run Try.prog (W.alloc (.cells cs 5)) = .ok (.string x) (W.alloc (.cells cs 5)) := by
  subst hc hk hx
  have := conv_row (w := W.alloc (.cells (Lib.byteCells l).toArray 5)) (g := W.heap.size) (l := l) (heap_alloc_new W _) 0 l.length l.length (by omega)
  rw [this]
  simp
theorem cellsNat (x : Nat) (h : x < 256) : Value.int .u8 ((UInt8.ofNat x).toNat : Int) = .int .u8 (x : Int) := by rw [toNat_ofNat x h]
set_option maxHeartbeats 1600000 in
theorem rune_one (n : Nat) (h1 : n < 128) (w : World) :
    Calls Try.prog 10 #[.int .i64 n] w fun e w' => e = .returned (.string (Utf8.encode n)) ∧ Below w.heap.size w w' := by
  have hcv := conv_new w (encL n) #[.int .u8 ((n : Int))] 1 (by rw [enc1 h1]; rfl) (by
    rw [enc1 h1]
    simp only [Lib.byteCells, List.map_cons, List.map_nil, toNat_ofNat (n) (by omega)]) (Utf8.encode n) (enc_list n).symm
  have c1 : ¬ ((n : Int) < 0) := by omega
  have c2 : ¬ ((1114111 : Int) < n) := by omega
  have c3 : ¬ ((55296 : Int) ≤ n) := by omega
  have c4 : (n : Int) < 128 := by omega
  have hb : Below w.heap.size w (w.alloc (.cells #[.int .u8 ((n : Int))] 5)) := (Below.refl _ w).alloc (Nat.le_refl _) _
  generalize Utf8.encode n = s at *
  clear h1
  go_enter Try.func10, Try.ntmps10
  go_wp2
  refine bodyPost_ret (results_tmp rfl _ _ _) rfl ?_
  exact ⟨rfl, hb⟩
set_option maxHeartbeats 1600000 in
theorem rune_two (n : Nat) (h0 : 128 ≤ n) (h1 : n < 2048) (w : World) :
    Calls Try.prog 10 #[.int .i64 n] w fun e w' => e = .returned (.string (Utf8.encode n)) ∧ Below w.heap.size w w' := by
  have hcv := conv_new w (encL n) #[.int .u8 (192 + (n : Int) / 64), .int .u8 (128 + (n : Int) % 64)] 2 (by rw [enc2 h0 h1]; rfl) (by
    rw [enc2 h0 h1]
    simp only [Lib.byteCells, List.map_cons, List.map_nil, toNat_ofNat (192 + n / 64) (by omega), toNat_ofNat (128 + n % 64) (by omega)]
    congr 3 <;> omega) (Utf8.encode n) (enc_list n).symm
  have c1 : ¬ ((n : Int) < 0) := by omega
  have c2 : ¬ ((1114111 : Int) < n) := by omega
  have c3 : ¬ ((55296 : Int) ≤ n) := by omega
  have c4 : ¬ ((n : Int) < 128) := by omega
  have c5 : (n : Int) < 2048 := by omega
  have hb : Below w.heap.size w (w.alloc (.cells #[.int .u8 (192 + (n : Int) / 64), .int .u8 (128 + (n : Int) % 64)] 5)) := (Below.refl _ w).alloc (Nat.le_refl _) _
  generalize Utf8.encode n = s at *
  clear h0 h1
  go_enter Try.func10, Try.ntmps10
  go_wp2
  refine bodyPost_ret (results_tmp rfl _ _ _) rfl ?_
  exact ⟨rfl, hb⟩
set_option maxHeartbeats 1600000 in
theorem rune_three (n : Nat) (hr : IsRune n) (h0 : 2048 ≤ n) (h1 : n < 65536) (w : World) :
    Calls Try.prog 10 #[.int .i64 n] w fun e w' => e = .returned (.string (Utf8.encode n)) ∧ Below w.heap.size w w' := by
  have hcv := conv_new w (encL n) #[.int .u8 (224 + (n : Int) / 4096), .int .u8 (128 + (n : Int) / 64 % 64), .int .u8 (128 + (n : Int) % 64)] 3 (by rw [enc3 hr h0 h1]; rfl) (by
    rw [enc3 hr h0 h1]
    simp only [Lib.byteCells, List.map_cons, List.map_nil, toNat_ofNat (224 + n / 4096) (by omega), toNat_ofNat (128 + n / 64 % 64) (by omega), toNat_ofNat (128 + n % 64) (by omega)]
    congr 3 <;> omega) (Utf8.encode n) (enc_list n).symm
  have c1 : ¬ ((n : Int) < 0) := by omega
  have c2 : ¬ ((1114111 : Int) < n) := by omega
  have c4 : ¬ ((n : Int) < 128) := by omega
  have c5 : ¬ ((n : Int) < 2048) := by omega
  have c6 : (n : Int) < 65536 := by omega
  have hb : Below w.heap.size w (w.alloc (.cells #[.int .u8 (224 + (n : Int) / 4096), .int .u8 (128 + (n : Int) / 64 % 64), .int .u8 (128 + (n : Int) % 64)] 5)) := (Below.refl _ w).alloc (Nat.le_refl _) _
  generalize Utf8.encode n = s at *
  by_cases c3 : (55296 : Int) ≤ n
  · have c3' : ¬ ((n : Int) ≤ 57343) := by unfold IsRune at hr; omega
    clear hr h0 h1
    go_enter Try.func10, Try.ntmps10
    go_wp2
    refine bodyPost_ret (results_tmp rfl _ _ _) rfl ?_
    exact ⟨rfl, hb⟩
  · skip
    clear hr h0 h1
    go_enter Try.func10, Try.ntmps10
    go_wp2
    refine bodyPost_ret (results_tmp rfl _ _ _) rfl ?_
    exact ⟨rfl, hb⟩
set_option maxHeartbeats 1600000 in
theorem rune_four (n : Nat) (h0 : 65536 ≤ n) (h1 : n ≤ 1114111) (w : World) :
    Calls Try.prog 10 #[.int .i64 n] w fun e w' => e = .returned (.string (Utf8.encode n)) ∧ Below w.heap.size w w' := by
  have hcv := conv_new w (encL n) #[.int .u8 (240 + (n : Int) / 262144), .int .u8 (128 + (n : Int) / 4096 % 64), .int .u8 (128 + (n : Int) / 64 % 64), .int .u8 (128 + (n : Int) % 64)] 4 (by rw [enc4 h0 h1]; rfl) (by
    rw [enc4 h0 h1]
    simp only [Lib.byteCells, List.map_cons, List.map_nil, toNat_ofNat (240 + n / 262144) (by omega), toNat_ofNat (128 + n / 4096 % 64) (by omega), toNat_ofNat (128 + n / 64 % 64) (by omega), toNat_ofNat (128 + n % 64) (by omega)]
    congr 3 <;> omega) (Utf8.encode n) (enc_list n).symm
  have c1 : ¬ ((n : Int) < 0) := by omega
  have c2 : ¬ ((1114111 : Int) < n) := by omega
  have c3 : (55296 : Int) ≤ n := by omega
  have c3' : ¬ ((n : Int) ≤ 57343) := by omega
  have c4 : ¬ ((n : Int) < 128) := by omega
  have c5 : ¬ ((n : Int) < 2048) := by omega
  have c6 : ¬ (n : Int) < 65536 := by omega
  have hb : Below w.heap.size w (w.alloc (.cells #[.int .u8 (240 + (n : Int) / 262144), .int .u8 (128 + (n : Int) / 4096 % 64), .int .u8 (128 + (n : Int) / 64 % 64), .int .u8 (128 + (n : Int) % 64)] 5)) := (Below.refl _ w).alloc (Nat.le_refl _) _
  generalize Utf8.encode n = s at *
  clear h0 h1
  go_enter Try.func10, Try.ntmps10
  go_wp2
  refine bodyPost_ret (results_tmp rfl _ _ _) rfl ?_
  exact ⟨rfl, hb⟩
theorem ref_ok (n : Nat) (hr : IsRune n) (w : World) :
    Calls Try.prog 10 #[.int .i64 n] w fun e w' => e = .returned (.string (Utf8.encode n)) ∧ Below w.heap.size w w' := by
  by_cases h1 : n < 128
  · exact rune_one n h1 w
  by_cases h2 : n < 2048
  · exact rune_two n (by omega) h2 w
  by_cases h3 : n < 65536
  · exact rune_three n hr (by omega) h3 w
  · exact rune_four n (by omega) (by unfold IsRune at hr; omega) w
set_option maxHeartbeats 400000 in
theorem ref_no (r : Int) (hr : r < 0 ∨ 1114111 < r ∨ (55296 ≤ r ∧ r ≤ 57343)) (w : World) :
    Calls Try.prog 10 #[.int .i64 r] w fun e w' => e = .returned (.string ⟨#[]⟩) ∧ w = w' := by
  by_cases h1 : r < 0
  · clear hr
    go_enter Try.func10, Try.ntmps10
    go_wp2
    refine bodyPost_ret (results_tmp rfl _ _ _) rfl ?_
    exact ⟨rfl, rfl⟩
  by_cases h2 : (1114111 : Int) < r
  · clear hr
    go_enter Try.func10, Try.ntmps10
    go_wp2
    refine bodyPost_ret (results_tmp rfl _ _ _) rfl ?_
    exact ⟨rfl, rfl⟩
  have h3 : (55296 : Int) ≤ r := by omega
  have h4 : r ≤ 57343 := by omega
  clear hr
  go_enter Try.func10, Try.ntmps10
  go_wp2
  refine bodyPost_ret (results_tmp rfl _ _ _) rfl ?_
  exact ⟨rfl, rfl⟩
end Go.Proofs.Yteonbajndghfcaa
