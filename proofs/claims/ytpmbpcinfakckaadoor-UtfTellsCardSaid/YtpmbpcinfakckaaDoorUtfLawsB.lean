/-
  LAWS of chapter 4: UtfLengths.
-/
import Derived.Test.YtpmbpcinfakckaaDoorUtfAlive
import Derived.Test.YtpmbpcinfakckaaDoorUtfLex
namespace Go.Proofs.YtpmbpcinfakckaaDoor
open Go.RowKit
open Go.Lib
theorem rune_or (r : Int) : (∃ n : Nat, r = n ∧ IsRune n) ∨ (r < 0 ∨ 1114111 < r ∨ (55296 ≤ r ∧ r ≤ 57343)) := by
  by_cases h : r < 0 ∨ 1114111 < r ∨ (55296 ≤ r ∧ r ≤ 57343)
  · exact .inr h
  · exact .inl ⟨r.toNat, by omega, by unfold IsRune; omega⟩
theorem bytesL_toList (x : ByteArray) : x.toList = bytesL x := ByteArray.toList_eq x
theorem bytesL_size (x : ByteArray) : x.size = (bytesL x).length := (size_list x).symm
theorem enc_toList (n : Nat) : (Utf8.encode (n : Int)).toList = encL n := bytesL_toList _
theorem enc_size (n : Nat) : (Utf8.encode (n : Int)).size = (encL n).length := bytesL_size _
/-- How many bytes a rune has, by the first k of three bounds. -/
def cntN (k a : Nat) : Nat := 1 + (if 1 ≤ k ∧ 128 ≤ a then 1 else 0) + (if 2 ≤ k ∧ 2048 ≤ a then 1 else 0) + (if 3 ≤ k ∧ 65536 ≤ a then 1 else 0)
theorem cnt_le (k a : Nat) : cntN k a ≤ 4 := by
  unfold cntN
  have h1 : (if 1 ≤ k ∧ 128 ≤ a then 1 else 0) ≤ 1 := by split <;> omega
  have h2 : (if 2 ≤ k ∧ 2048 ≤ a then 1 else 0) ≤ 1 := by split <;> omega
  have h3 : (if 3 ≤ k ∧ 65536 ≤ a then 1 else 0) ≤ 1 := by split <;> omega
  omega
theorem cnt0 (a : Nat) : cntN 0 a = 1 := by simp [cntN]
theorem cnt1 (a : Nat) : cntN 1 a = cntN 0 a + (if 128 ≤ a then 1 else 0) := by simp [cntN]
theorem cnt2 (a : Nat) : cntN 2 a = cntN 1 a + (if 2048 ≤ a then 1 else 0) := by simp [cntN]
theorem cnt3 (a : Nat) : cntN 3 a = cntN 2 a + (if 65536 ≤ a then 1 else 0) := by simp [cntN]
theorem cnt_all (a : Nat) (hr : IsRune a) : (encL a).length = cntN 3 a := by rw [len_enc a hr]; simp [cntN]
set_option maxRecDepth 100000 in
set_option maxHeartbeats 1600000 in
theorem lengths_yes (a b : Nat) (ha : IsRune a) (hb : IsRune b) (w : World) (hT : Tabs w) : Calls Tryd.prog 6 #[.int .i64 a, .int .i64 b] w fun e w' => e = .returned (.bool true) ∧ Below w.heap.size w w' := by
  have hA := Lib.hid (alive_any w hT)
  have hPa := Lib.hid (put_ok a ha)
  have hPb := Lib.hid (put_ok b hb)
  have hlen := cnt_all a ha
  rw [← enc_size] at hlen
  have hless := less_iff a b ha hb
  rw [← enc_toList, ← enc_toList] at hless
  have heq : ((Utf8.encode (a : Int)).toList == (Utf8.encode (b : Int)).toList) = decide (a = b) := by
    rw [enc_toList, enc_toList]
    by_cases h : a = b
    · subst h; simp
    · rw [decide_eq_false h, beq_eq_false_iff_ne]
      exact fun e => h (enc_inj ha hb e)
  have ham : a ≤ 1114111 := by unfold IsRune at ha; omega
  have HE := Lib.hid (And.intro hless heq)
  generalize Utf8.encode (a : Int) = x at *
  generalize Utf8.encode (b : Int) = y at *
  clear hless heq ha hb hT
  go_enter Tryd.func6, Tryd.ntmps6
  go_wp2_with fail
  refine (hPa.out _).mono ?_
  rintro e w' ⟨rfl, rfl⟩
  go_wp2_with fail
  refine (hPb.out _).mono ?_
  rintro e w' ⟨rfl, rfl⟩
  go_wp2_with fail
  refine hA.out.mono ?_
  rintro e w1 ⟨rfl, b1⟩
  have hb2 := Lib.hid (b1.alloc b1.size (.cells #[.int .i64 128, .int .i64 2048, .int .i64 65536] 3))
  have hg : (w1.alloc (.cells #[.int .i64 128, .int .i64 2048, .int .i64 65536] 3)).heap[w1.heap.size]? = some (.cells #[.int .i64 128, .int .i64 2048, .int .i64 65536] 3 (0, 0)) := heap_alloc_new w1 _
  clear hA hPa hPb b1
  go_wp2
  generalize w1.alloc (.cells #[.int .i64 128, .int .i64 2048, .int .i64 65536] 3) = W2 at hb2 hg ⊢
  have hc0 : W2.cell? ⟨w1.heap.size, 0, none⟩ = some (.int .i64 128) := by simp [World.cell?, hg]
  have hc1 : W2.cell? ⟨w1.heap.size, 1, none⟩ = some (.int .i64 2048) := by simp [World.cell?, hg]
  have hc2 : W2.cell? ⟨w1.heap.size, 2, none⟩ = some (.int .i64 65536) := by simp [World.cell?, hg]
  clear hg
  go_loop [9, 11, 35] (fun n _ i => ∃ k m : Nat, k ≤ 3 ∧ i = .int .i64 k ∧ n = .int .i64 m ∧ Hid (m = cntN k a)) (fun _ _ i => 3 - (RowKit.intOf i).toNat)
  case atStart => exact ⟨0, 1, by omega, rfl, rfl, Lib.hid (cnt0 a).symm⟩
  case round =>
    obtain ⟨k, m, hk, rfl, rfl, HM⟩ := hrel
    have hmb : m ≤ 4 := by rw [HM.out]; exact cnt_le _ _
    rcases (show k = 0 ∨ k = 1 ∨ k = 2 ∨ k = 3 by omega) with rfl | rfl | rfl | rfl
    · by_cases ht : (128 : Int) ≤ (a : Int)
      · have HN : Hid (m + 1 = cntN 1 a) := Lib.hid (by rw [cnt1, if_pos (by omega), HM.out])
        clear HM hlen
        go_wp2
        go_round
        case rel => exact ⟨1, m + 1, by omega, rfl, by go_num, HN⟩
        case measure => simp [RowKit.intOf]
      · have HN : Hid (m = cntN 1 a) := Lib.hid (by rw [cnt1, if_neg (by omega), HM.out]; rfl)
        clear HM hlen
        go_wp2
        go_round
        case rel => exact ⟨1, m, by omega, rfl, rfl, HN⟩
        case measure => simp [RowKit.intOf]
    · by_cases ht : (2048 : Int) ≤ (a : Int)
      · have HN : Hid (m + 1 = cntN 2 a) := Lib.hid (by rw [cnt2, if_pos (by omega), HM.out])
        clear HM hlen
        go_wp2
        go_round
        case rel => exact ⟨2, m + 1, by omega, rfl, by go_num, HN⟩
        case measure => simp [RowKit.intOf]
      · have HN : Hid (m = cntN 2 a) := Lib.hid (by rw [cnt2, if_neg (by omega), HM.out]; rfl)
        clear HM hlen
        go_wp2
        go_round
        case rel => exact ⟨2, m, by omega, rfl, rfl, HN⟩
        case measure => simp [RowKit.intOf]
    · by_cases ht : (65536 : Int) ≤ (a : Int)
      · have HN : Hid (m + 1 = cntN 3 a) := Lib.hid (by rw [cnt3, if_pos (by omega), HM.out])
        clear HM hlen
        go_wp2
        go_round
        case rel => exact ⟨3, m + 1, by omega, rfl, by go_num, HN⟩
        case measure => simp [RowKit.intOf]
      · have HN : Hid (m = cntN 3 a) := Lib.hid (by rw [cnt3, if_neg (by omega), HM.out]; rfl)
        clear HM hlen
        go_wp2
        go_round
        case rel => exact ⟨3, m, by omega, rfl, rfl, HN⟩
        case measure => simp [RowKit.intOf]
    · have hxm : x.size = m := by rw [hlen, HM.out]
      have hxz : ((x.size : Int) == (m : Int)) = true := by rw [beq_iff_eq]; omega
      obtain ⟨h1, h2⟩ := HE.out
      clear hlen hc0 hc1 hc2 HM
      go_wp2
      have hfin : (decide (a = b) == ((a : Int) == (b : Int))) = true := by
        by_cases h : a = b
        · subst h; simp
        · have h' : ((a : Int) == (b : Int)) = false := by rw [beq_eq_false_iff_ne]; omega
          rw [h', decide_eq_false h]
          rfl
      go_ret
      exact ⟨by rw [hfin]; rfl, hb2.out⟩
set_option maxRecDepth 100000 in
set_option maxHeartbeats 400000 in
theorem lengths_no1 (a : Int) (b : Int) (ha : a < 0 ∨ 1114111 < a ∨ (55296 ≤ a ∧ a ≤ 57343)) (y : Value) (q : Bool) (hPb : ∀ w, Calls Tryd.prog 14 #[.int .i64 b] w fun e w' => e = .returned (.tuple #[y, .bool q]) ∧ w = w') (w : World) (hT : Tabs w) :
    Calls Tryd.prog 6 #[.int .i64 a, .int .i64 b] w fun e w' => e = .returned (.bool true) ∧ Below w.heap.size w w' := by
  have hA := Lib.hid (alive_any w hT)
  have hPa := Lib.hid (put_no a ha)
  have HPb := Lib.hid hPb
  clear ha hPb hT
  go_enter Tryd.func6, Tryd.ntmps6
  go_wp2_with fail
  refine (hPa.out _).mono ?_
  rintro e w' ⟨rfl, rfl⟩
  go_wp2_with fail
  refine (HPb.out _).mono ?_
  rintro e w' ⟨rfl, rfl⟩
  go_wp2_with fail
  refine hA.out.mono ?_
  rintro e w1 ⟨rfl, b1⟩
  go_wp2
  go_ret
  exact ⟨rfl, b1⟩
set_option maxRecDepth 100000 in
set_option maxHeartbeats 400000 in
theorem lengths_no2 (a : Nat) (ha : IsRune a) (b : Int) (hb : b < 0 ∨ 1114111 < b ∨ (55296 ≤ b ∧ b ≤ 57343)) (w : World) (hT : Tabs w) :
    Calls Tryd.prog 6 #[.int .i64 a, .int .i64 b] w fun e w' => e = .returned (.bool true) ∧ Below w.heap.size w w' := by
  have hA := Lib.hid (alive_any w hT)
  have hPa := Lib.hid (put_ok a ha)
  have hPb := Lib.hid (put_no b hb)
  generalize Utf8.encode (a : Int) = x at *
  clear ha hb hT
  go_enter Tryd.func6, Tryd.ntmps6
  go_wp2_with fail
  refine (hPa.out _).mono ?_
  rintro e w' ⟨rfl, rfl⟩
  go_wp2_with fail
  refine (hPb.out _).mono ?_
  rintro e w' ⟨rfl, rfl⟩
  go_wp2_with fail
  refine hA.out.mono ?_
  rintro e w1 ⟨rfl, b1⟩
  go_wp2
  go_ret
  exact ⟨rfl, b1⟩
theorem lengths_any (a b : Int) (w : World) (_ : -9223372036854775808 ≤ a ∧ a ≤ 9223372036854775807) (_ : -9223372036854775808 ≤ b ∧ b ≤ 9223372036854775807) (hT : Tabs w) :
    Calls Tryd.prog 6 #[.int .i64 a, .int .i64 b] w fun e w' => e = .returned (.bool true) ∧ Below w.heap.size w w' := by
  rcases rune_or a with ⟨n, rfl, hn⟩ | ha
  · rcases rune_or b with ⟨m, rfl, hm⟩ | hb
    · exact lengths_yes n m hn hm w hT
    · exact lengths_no2 n hn b hb w hT
  · rcases rune_or b with ⟨m, rfl, hm⟩ | hb
    · exact lengths_no1 a m ha _ _ (put_ok m hm) w hT
    · exact lengths_no1 a b ha _ _ (put_no b hb) w hT
end Go.Proofs.YtpmbpcinfakckaaDoor
