/-
  LAWS of chapter 16: PackoutTexts.
-/
import Derived.Test.YtonjdnahplphhaaG2a
/-
  LAWS of chapter 16: PackoutTexts.
-/
namespace Go.Proofs.Ytonjdnahplphhaa
open Go.RowKit
open Go.Lib
/-- The row that the law fills: j bytes are there. -/
def filR (n j : Nat) (c : UInt8) : List UInt8 := List.replicate j c ++ List.replicate (n - j) 0
theorem filR_len (n j : Nat) (c : UInt8) (hj : j ≤ n) : (filR n j c).length = n := by simp [filR]; omega
theorem filR_set (n j : Nat) (c : UInt8) (hj : j < n) : (bCells (filR n j c)).set j (.int .u8 (c.toNat : Int)) = bCells (filR n (j + 1) c) := by
  unfold filR bCells
  rw [← List.map_set]
  congr 1
  rw [List.set_append_right _ _ (by simp)]
  simp only [List.length_replicate, Nat.sub_self]
  rw [show n - j = (n - (j + 1)) + 1 by omega, List.replicate_succ, List.set_cons_zero, List.replicate_succ', List.append_assoc]
  rfl
theorem filR_all (n : Nat) (c : UInt8) : filR n n c = List.replicate n c := by simp [filR]
/-- A row that a call made and fills. -/
structure FilR (w w1 wr : World) (g n j : Nat) (c : UInt8) : Prop where
  win : Win wr 5 1 (.slice (some ⟨g, 0, none⟩) n n) n (bCells (filR n j c))
  low : w.heap.size ≤ g
  below : Below w.heap.size w wr
theorem FilR.new_ {w w1 : World} {n : Nat} {c : UInt8} (h : Below w.heap.size w w1) (hn : n ≤ 70000) : FilR w w1 (w1.alloc (.cells (Lib.byteCells (List.replicate n 0)).toArray 5)) w1.heap.size n 0 c := by
  refine ⟨⟨by rw [bCells_length, filR_len _ _ _ (Nat.zero_le _), Nat.mul_one], .inr ⟨w1.heap.size, 0, n, _, rfl, heap_alloc_new w1 _, Nat.le_refl _, by simp [Lib.byteCells], by unfold maxLen; omega, ?_⟩⟩, h.size, up_alloc h _⟩
  simp only [filR, List.replicate_zero, List.nil_append, Nat.sub_zero, Nat.mul_one, List.drop_zero]
  rw [List.take_of_length_le (by simp [Lib.byteCells])]
  rfl
theorem FilR.set {w w1 wr : World} {g n j : Nat} {c : UInt8} (h : FilR w w1 wr g n j c) (hj : j < n) : FilR w w1 (wr.setCell ⟨g, 0 + j, none⟩ (.int .u8 (c.toNat : Int))) g n (j + 1) c := by
  have hs := h.win.store j (by rw [bCells_length, filR_len _ _ _ (by omega)]; exact hj) (.int .u8 (c.toNat : Int))
  rw [filR_set n j c hj] at hs
  exact ⟨hs, h.low, h.below.setCell h.low _⟩
theorem txPk_is (m : Bool) (n : Nat) (hn : n < 4294967296) : (txPk m n).length = if 65536 ≤ n then 5 else if 256 ≤ n then 3 else if m = true ∧ n < 32 then 1 else 2 := by
  unfold txPk lenBs
  by_cases h1 : n < 32
  · have a : ¬ 65536 ≤ n := by omega
    have b : ¬ 256 ≤ n := by omega
    have d : n < 256 := by omega
    cases m <;> simp [h1, a, b, d, bigB_length]
  · by_cases h2 : n < 256
    · have a : ¬ 65536 ≤ n := by omega
      have b : ¬ 256 ≤ n := by omega
      cases m <;> simp [h1, h2, a, b, bigB_length]
    · have b : 256 ≤ n := by omega
      by_cases h3 : n < 65536
      · have a : ¬ 65536 ≤ n := by omega
        cases m <;> simp [h1, h2, h3, a, b, bigB_length]
      · have a : 65536 ≤ n := by omega
        cases m <;> simp [h1, h2, h3, a, bigB_length]
/-- What All tells of one text; its end. -/
theorem rtx_all (m : Bool) (l : List UInt8) (hl : l.length ≤ 70000) (T : ByteArray) (hT : T = ⟨l.toArray⟩) (k : Nat) (hk : (txPk m l.length).length = k) :
    ∃ Z : ByteArray, Z.size = l.length + k ∧ ((Z.extract k Z.size).toList == T.toList) = true ∧
      ∀ (W : World) (p : Nat), W.heap.size = p → Calls Try.prog 18 #[.slice (some ⟨p, 0, none⟩) 1 1] (W.alloc (.cells #[.int .i64 (if m = true then 3 else 4), .bool false, .int .u64 0, .string T, .int .i64 0] 35)) fun r w' => r = .returned (.tuple #[.string Z, .int .i64 0]) ∧ Below W.heap.size W w' := by
  subst hT
  have hsz : (⟨l.toArray⟩ : ByteArray).size = l.length := size_of l
  have hdl : (⟨l.toArray⟩ : ByteArray).data.toList = l := rfl
  refine ⟨⟨(txPk m l.length ++ l).toArray⟩, by rw [size_of, List.length_append, hk]; omega, ?_, fun W p hp => ?_⟩
  · rw [beq_iff_eq]
    congr 1
    apply ByteArray.ext
    apply Array.ext'
    rw [ext_list, size_of]
    show ((txPk m l.length ++ l).take _).drop k = l
    rw [List.take_of_length_le (Nat.le_refl _), ← hk, List.drop_left]
  · have hok : EvOk ⟨if m = true then 3 else 4, false, 0, ⟨l.toArray⟩, 0⟩ := by
      cases m <;> exact ⟨by constructor <;> simp, by simp, by constructor <;> simp, by show (⟨l.toArray⟩ : ByteArray).size ≤ _; omega⟩
    have hall := texts_allP m ⟨l.toArray⟩
    rw [hdl] at hall
    have := rall_one_at ⟨if m = true then 3 else 4, false, 0, ⟨l.toArray⟩, 0⟩ hok (by show (⟨l.toArray⟩ : ByteArray).size ≤ _; omega) _ _ hall W p hp
    exact this
set_option maxRecDepth 100000 in
set_option maxHeartbeats 8000000 in
theorem rtexts_f0 (N : Nat) (c : UInt8) (w : World) (hN : N ≤ 70000) (hc : c.toNat < 128) (hq : 65536 ≤ N) :
    Calls Try.prog 8 #[.int .i64 (N : Int), .int .u8 (c.toNat : Int), .bool false] w fun r w' => r = .returned (.bool true) ∧ Below w.heap.size w w' := by
  have HA := Lib.hid (ralive_any w)
  have t0 : ((N : Int) < 0) = False := by simp
  have t1 : ((70000 : Int) < (N : Int)) = False := by simp; omega
  have t2 : ((128 : Int) ≤ (c.toNat : Int)) = False := by simp; omega
  have u1 : ((65536 : Int) ≤ (N : Int)) = True := by simp; omega
  have u2 : ((256 : Int) ≤ (N : Int)) = True := by simp; omega
  have u3 : ((32 : Int) ≤ (N : Int)) = True := by simp; omega
  have hmk := make_zero N (by omega) N rfl
  have HF0 := Lib.hid (fun w1 (h : Below w.heap.size w w1) => FilR.new_ (n := N) (c := c) h hN)
  obtain ⟨T, hT⟩ : ∃ T : ByteArray, T = ⟨(List.replicate N c).toArray⟩ := ⟨_, rfl⟩
  obtain ⟨Z, hZ, hsl, hal⟩ := rtx_all true (List.replicate N c) (by simp; omega) T hT 5 (by rw [List.length_replicate, txPk_is _ _ (by omega), if_pos (by omega)])
  rw [List.length_replicate] at hZ
  simp only [if_true] at hal
  have HSL := Lib.hid hsl
  have HAL := Lib.hid hal
  have HT := Lib.hid hT
  have HZ := Lib.hid hZ
  clear hc hq hsl hal hT hZ hN
  go_enter Try.func8, Try.ntmps8
  go_wp2_with fail
  refine HA.out.mono ?_
  rintro r w1 ⟨rfl, b1⟩
  have H0 := Lib.hid (HF0.out w1 b1)
  clear b1 HF0
  go_wp2
  go_loopw [8, 32] (fun _ i wr => ∃ (j : Nat), i = .int .i64 j ∧ j ≤ N ∧ Hid (FilR w w1 wr w1.heap.size N j c)) (fun _ i _ => N - (RowKit.intOf i).toNat)
  case atStart => exact ⟨0, rfl, by omega, H0⟩
  case round =>
    obtain ⟨j, rfl, hj, HI⟩ := hrel
    rename World => wz
    clear H0
    by_cases hlt : j < N
    · obtain ⟨g, off, cap, hv, _, _, _, _, h3⟩ := HI.out.win.form (by omega)
      injection hv with hv1 hv2 hv3
      injection hv1 with hv1
      injection hv1 with hv4 hv5 hv6
      subst hv4 hv5
      obtain ⟨u0, hu0⟩ : ∃ u, (bCells (filR N j c))[j]? = some u := ⟨_, List.getElem?_eq_getElem (by rw [bCells_length, filR_len _ _ _ (by omega)]; exact hlt)⟩
      obtain ⟨x0, f0⟩ := h3 j u0 hu0
      have HI2 := Lib.hid (HI.out.set hlt)
      have hjm : (j : Int) + 1 ≤ 70001 := by have := of_eq_false t1; omega
      clear h3 hv3 hu0
      simp only [Nat.zero_add] at x0 f0 HI2
      go_wp2
      go_roundw
      case rel => exact ⟨j + 1, rfl, hlt, HI2⟩
      case measure => simp [RowKit.intOf]; omega
    · obtain rfl : j = N := by omega
      have hwin := HI.out.win
      rw [filR_all] at hwin
      have hcv := conv_win hwin
      rw [← HT.out] at hcv
      have HB := Lib.hid HI.out.below
      clear hwin HI
      go_wp2_with fail
      refine (HAL.out _ _ (by simp)).mono ?_
      rintro r w3 ⟨rfl, b3⟩
      have hbk := (blk_new wz #[.int .i64 3, .bool false, .int .u64 0, .string T, .int .i64 0] 35).go b3
      have x3 := hbk.cell 3
      have HB3 := Lib.hid (up_trans (up_alloc HB.out _) b3)
      have hZ := HZ.out
      have hZi : (Z.size : Int) = (j : Int) + 5 := by omega
      have he : ((Z.size : Int) == (j : Int) + 5) = true := by rw [beq_iff_eq]; omega
      have hw : IntKind.i64.wrap ((j : Int) + 5) = (j : Int) + 5 := by have := of_eq_false t1; simp only [IntKind.wrap_i64]; omega
      clear b3 hbk hcv hZ
      go_wp2_with fail
      go_quiet (fail)
      go_wp2
      go_ret
      exact ⟨by
        have het := HSL.out
        show Ending.returned (Value.bool ((Z.extract 5 Z.size).toList == T.toList)) = _
        rw [het], below_drN HB3.out _⟩
set_option maxRecDepth 100000 in
set_option maxHeartbeats 8000000 in
theorem rtexts_f1 (N : Nat) (c : UInt8) (w : World) (hN : N ≤ 70000) (hc : c.toNat < 128) (hq : 256 ≤ N ∧ N < 65536) :
    Calls Try.prog 8 #[.int .i64 (N : Int), .int .u8 (c.toNat : Int), .bool false] w fun r w' => r = .returned (.bool true) ∧ Below w.heap.size w w' := by
  have HA := Lib.hid (ralive_any w)
  have t0 : ((N : Int) < 0) = False := by simp
  have t1 : ((70000 : Int) < (N : Int)) = False := by simp; omega
  have t2 : ((128 : Int) ≤ (c.toNat : Int)) = False := by simp; omega
  have u1 : ((65536 : Int) ≤ (N : Int)) = False := by simp; omega
  have u2 : ((256 : Int) ≤ (N : Int)) = True := by simp; omega
  have u3 : ((32 : Int) ≤ (N : Int)) = True := by simp; omega
  have hmk := make_zero N (by omega) N rfl
  have HF0 := Lib.hid (fun w1 (h : Below w.heap.size w w1) => FilR.new_ (n := N) (c := c) h hN)
  obtain ⟨T, hT⟩ : ∃ T : ByteArray, T = ⟨(List.replicate N c).toArray⟩ := ⟨_, rfl⟩
  obtain ⟨Z, hZ, hsl, hal⟩ := rtx_all true (List.replicate N c) (by simp; omega) T hT 3 (by rw [List.length_replicate, txPk_is _ _ (by omega), if_neg (by omega), if_pos (by omega)])
  rw [List.length_replicate] at hZ
  simp only [if_true] at hal
  have HSL := Lib.hid hsl
  have HAL := Lib.hid hal
  have HT := Lib.hid hT
  have HZ := Lib.hid hZ
  clear hc hq hsl hal hT hZ hN
  go_enter Try.func8, Try.ntmps8
  go_wp2_with fail
  refine HA.out.mono ?_
  rintro r w1 ⟨rfl, b1⟩
  have H0 := Lib.hid (HF0.out w1 b1)
  clear b1 HF0
  go_wp2
  go_loopw [8, 32] (fun _ i wr => ∃ (j : Nat), i = .int .i64 j ∧ j ≤ N ∧ Hid (FilR w w1 wr w1.heap.size N j c)) (fun _ i _ => N - (RowKit.intOf i).toNat)
  case atStart => exact ⟨0, rfl, by omega, H0⟩
  case round =>
    obtain ⟨j, rfl, hj, HI⟩ := hrel
    rename World => wz
    clear H0
    by_cases hlt : j < N
    · obtain ⟨g, off, cap, hv, _, _, _, _, h3⟩ := HI.out.win.form (by omega)
      injection hv with hv1 hv2 hv3
      injection hv1 with hv1
      injection hv1 with hv4 hv5 hv6
      subst hv4 hv5
      obtain ⟨u0, hu0⟩ : ∃ u, (bCells (filR N j c))[j]? = some u := ⟨_, List.getElem?_eq_getElem (by rw [bCells_length, filR_len _ _ _ (by omega)]; exact hlt)⟩
      obtain ⟨x0, f0⟩ := h3 j u0 hu0
      have HI2 := Lib.hid (HI.out.set hlt)
      have hjm : (j : Int) + 1 ≤ 70001 := by have := of_eq_false t1; omega
      clear h3 hv3 hu0
      simp only [Nat.zero_add] at x0 f0 HI2
      go_wp2
      go_roundw
      case rel => exact ⟨j + 1, rfl, hlt, HI2⟩
      case measure => simp [RowKit.intOf]; omega
    · obtain rfl : j = N := by omega
      have hwin := HI.out.win
      rw [filR_all] at hwin
      have hcv := conv_win hwin
      rw [← HT.out] at hcv
      have HB := Lib.hid HI.out.below
      clear hwin HI
      go_wp2_with fail
      refine (HAL.out _ _ (by simp)).mono ?_
      rintro r w3 ⟨rfl, b3⟩
      have hbk := (blk_new wz #[.int .i64 3, .bool false, .int .u64 0, .string T, .int .i64 0] 35).go b3
      have x3 := hbk.cell 3
      have HB3 := Lib.hid (up_trans (up_alloc HB.out _) b3)
      have hZ := HZ.out
      have hZi : (Z.size : Int) = (j : Int) + 3 := by omega
      have he : ((Z.size : Int) == (j : Int) + 3) = true := by rw [beq_iff_eq]; omega
      have hw : IntKind.i64.wrap ((j : Int) + 3) = (j : Int) + 3 := by have := of_eq_false t1; simp only [IntKind.wrap_i64]; omega
      clear b3 hbk hcv hZ
      go_wp2_with fail
      go_quiet (fail)
      go_wp2
      go_ret
      exact ⟨by
        have het := HSL.out
        show Ending.returned (Value.bool ((Z.extract 3 Z.size).toList == T.toList)) = _
        rw [het], below_drN HB3.out _⟩
set_option maxRecDepth 100000 in
set_option maxHeartbeats 8000000 in
theorem rtexts_f2 (N : Nat) (c : UInt8) (w : World) (hN : N ≤ 70000) (hc : c.toNat < 128) (hq : 32 ≤ N ∧ N < 256) :
    Calls Try.prog 8 #[.int .i64 (N : Int), .int .u8 (c.toNat : Int), .bool false] w fun r w' => r = .returned (.bool true) ∧ Below w.heap.size w w' := by
  have HA := Lib.hid (ralive_any w)
  have t0 : ((N : Int) < 0) = False := by simp
  have t1 : ((70000 : Int) < (N : Int)) = False := by simp; omega
  have t2 : ((128 : Int) ≤ (c.toNat : Int)) = False := by simp; omega
  have u1 : ((65536 : Int) ≤ (N : Int)) = False := by simp; omega
  have u2 : ((256 : Int) ≤ (N : Int)) = False := by simp; omega
  have u3 : ((32 : Int) ≤ (N : Int)) = True := by simp; omega
  have hmk := make_zero N (by omega) N rfl
  have HF0 := Lib.hid (fun w1 (h : Below w.heap.size w w1) => FilR.new_ (n := N) (c := c) h hN)
  obtain ⟨T, hT⟩ : ∃ T : ByteArray, T = ⟨(List.replicate N c).toArray⟩ := ⟨_, rfl⟩
  obtain ⟨Z, hZ, hsl, hal⟩ := rtx_all true (List.replicate N c) (by simp; omega) T hT 2 (by rw [List.length_replicate, txPk_is _ _ (by omega), if_neg (by omega), if_neg (by omega), if_neg (by simp; omega)])
  rw [List.length_replicate] at hZ
  simp only [if_true] at hal
  have HSL := Lib.hid hsl
  have HAL := Lib.hid hal
  have HT := Lib.hid hT
  have HZ := Lib.hid hZ
  clear hc hq hsl hal hT hZ hN
  go_enter Try.func8, Try.ntmps8
  go_wp2_with fail
  refine HA.out.mono ?_
  rintro r w1 ⟨rfl, b1⟩
  have H0 := Lib.hid (HF0.out w1 b1)
  clear b1 HF0
  go_wp2
  go_loopw [8, 32] (fun _ i wr => ∃ (j : Nat), i = .int .i64 j ∧ j ≤ N ∧ Hid (FilR w w1 wr w1.heap.size N j c)) (fun _ i _ => N - (RowKit.intOf i).toNat)
  case atStart => exact ⟨0, rfl, by omega, H0⟩
  case round =>
    obtain ⟨j, rfl, hj, HI⟩ := hrel
    rename World => wz
    clear H0
    by_cases hlt : j < N
    · obtain ⟨g, off, cap, hv, _, _, _, _, h3⟩ := HI.out.win.form (by omega)
      injection hv with hv1 hv2 hv3
      injection hv1 with hv1
      injection hv1 with hv4 hv5 hv6
      subst hv4 hv5
      obtain ⟨u0, hu0⟩ : ∃ u, (bCells (filR N j c))[j]? = some u := ⟨_, List.getElem?_eq_getElem (by rw [bCells_length, filR_len _ _ _ (by omega)]; exact hlt)⟩
      obtain ⟨x0, f0⟩ := h3 j u0 hu0
      have HI2 := Lib.hid (HI.out.set hlt)
      have hjm : (j : Int) + 1 ≤ 70001 := by have := of_eq_false t1; omega
      clear h3 hv3 hu0
      simp only [Nat.zero_add] at x0 f0 HI2
      go_wp2
      go_roundw
      case rel => exact ⟨j + 1, rfl, hlt, HI2⟩
      case measure => simp [RowKit.intOf]; omega
    · obtain rfl : j = N := by omega
      have hwin := HI.out.win
      rw [filR_all] at hwin
      have hcv := conv_win hwin
      rw [← HT.out] at hcv
      have HB := Lib.hid HI.out.below
      clear hwin HI
      go_wp2_with fail
      refine (HAL.out _ _ (by simp)).mono ?_
      rintro r w3 ⟨rfl, b3⟩
      have hbk := (blk_new wz #[.int .i64 3, .bool false, .int .u64 0, .string T, .int .i64 0] 35).go b3
      have x3 := hbk.cell 3
      have HB3 := Lib.hid (up_trans (up_alloc HB.out _) b3)
      have hZ := HZ.out
      have hZi : (Z.size : Int) = (j : Int) + 2 := by omega
      have he : ((Z.size : Int) == (j : Int) + 2) = true := by rw [beq_iff_eq]; omega
      have hw : IntKind.i64.wrap ((j : Int) + 2) = (j : Int) + 2 := by have := of_eq_false t1; simp only [IntKind.wrap_i64]; omega
      clear b3 hbk hcv hZ
      go_wp2_with fail
      go_quiet (fail)
      go_wp2
      go_ret
      exact ⟨by
        have het := HSL.out
        show Ending.returned (Value.bool ((Z.extract 2 Z.size).toList == T.toList)) = _
        rw [het], below_drN HB3.out _⟩
set_option maxRecDepth 100000 in
set_option maxHeartbeats 8000000 in
theorem rtexts_f3 (N : Nat) (c : UInt8) (w : World) (hN : N ≤ 70000) (hc : c.toNat < 128) (hq : N < 32) :
    Calls Try.prog 8 #[.int .i64 (N : Int), .int .u8 (c.toNat : Int), .bool false] w fun r w' => r = .returned (.bool true) ∧ Below w.heap.size w w' := by
  have HA := Lib.hid (ralive_any w)
  have t0 : ((N : Int) < 0) = False := by simp
  have t1 : ((70000 : Int) < (N : Int)) = False := by simp; omega
  have t2 : ((128 : Int) ≤ (c.toNat : Int)) = False := by simp; omega
  have u1 : ((65536 : Int) ≤ (N : Int)) = False := by simp; omega
  have u2 : ((256 : Int) ≤ (N : Int)) = False := by simp; omega
  have u3 : ((32 : Int) ≤ (N : Int)) = False := by simp; omega
  have hmk := make_zero N (by omega) N rfl
  have HF0 := Lib.hid (fun w1 (h : Below w.heap.size w w1) => FilR.new_ (n := N) (c := c) h hN)
  obtain ⟨T, hT⟩ : ∃ T : ByteArray, T = ⟨(List.replicate N c).toArray⟩ := ⟨_, rfl⟩
  obtain ⟨Z, hZ, hsl, hal⟩ := rtx_all true (List.replicate N c) (by simp; omega) T hT 1 (by rw [List.length_replicate, txPk_is _ _ (by omega), if_neg (by omega), if_neg (by omega), if_pos ⟨rfl, by omega⟩])
  rw [List.length_replicate] at hZ
  simp only [if_true] at hal
  have HSL := Lib.hid hsl
  have HAL := Lib.hid hal
  have HT := Lib.hid hT
  have HZ := Lib.hid hZ
  clear hc hq hsl hal hT hZ hN
  go_enter Try.func8, Try.ntmps8
  go_wp2_with fail
  refine HA.out.mono ?_
  rintro r w1 ⟨rfl, b1⟩
  have H0 := Lib.hid (HF0.out w1 b1)
  clear b1 HF0
  go_wp2
  go_loopw [8, 32] (fun _ i wr => ∃ (j : Nat), i = .int .i64 j ∧ j ≤ N ∧ Hid (FilR w w1 wr w1.heap.size N j c)) (fun _ i _ => N - (RowKit.intOf i).toNat)
  case atStart => exact ⟨0, rfl, by omega, H0⟩
  case round =>
    obtain ⟨j, rfl, hj, HI⟩ := hrel
    rename World => wz
    clear H0
    by_cases hlt : j < N
    · obtain ⟨g, off, cap, hv, _, _, _, _, h3⟩ := HI.out.win.form (by omega)
      injection hv with hv1 hv2 hv3
      injection hv1 with hv1
      injection hv1 with hv4 hv5 hv6
      subst hv4 hv5
      obtain ⟨u0, hu0⟩ : ∃ u, (bCells (filR N j c))[j]? = some u := ⟨_, List.getElem?_eq_getElem (by rw [bCells_length, filR_len _ _ _ (by omega)]; exact hlt)⟩
      obtain ⟨x0, f0⟩ := h3 j u0 hu0
      have HI2 := Lib.hid (HI.out.set hlt)
      have hjm : (j : Int) + 1 ≤ 70001 := by have := of_eq_false t1; omega
      clear h3 hv3 hu0
      simp only [Nat.zero_add] at x0 f0 HI2
      go_wp2
      go_roundw
      case rel => exact ⟨j + 1, rfl, hlt, HI2⟩
      case measure => simp [RowKit.intOf]; omega
    · obtain rfl : j = N := by omega
      have hwin := HI.out.win
      rw [filR_all] at hwin
      have hcv := conv_win hwin
      rw [← HT.out] at hcv
      have HB := Lib.hid HI.out.below
      clear hwin HI
      go_wp2_with fail
      refine (HAL.out _ _ (by simp)).mono ?_
      rintro r w3 ⟨rfl, b3⟩
      have hbk := (blk_new wz #[.int .i64 3, .bool false, .int .u64 0, .string T, .int .i64 0] 35).go b3
      have x3 := hbk.cell 3
      have HB3 := Lib.hid (up_trans (up_alloc HB.out _) b3)
      have hZ := HZ.out
      have hZi : (Z.size : Int) = (j : Int) + 1 := by omega
      have he : ((Z.size : Int) == (j : Int) + 1) = true := by rw [beq_iff_eq]; omega
      have hw : IntKind.i64.wrap ((j : Int) + 1) = (j : Int) + 1 := by have := of_eq_false t1; simp only [IntKind.wrap_i64]; omega
      clear b3 hbk hcv hZ
      go_wp2_with fail
      go_quiet (fail)
      go_wp2
      go_ret
      exact ⟨by
        have het := HSL.out
        show Ending.returned (Value.bool ((Z.extract 1 Z.size).toList == T.toList)) = _
        rw [het], below_drN HB3.out _⟩
set_option maxRecDepth 100000 in
set_option maxHeartbeats 8000000 in
theorem rtexts_t0 (N : Nat) (c : UInt8) (w : World) (hN : N ≤ 70000) (hc : c.toNat < 128) (hq : 65536 ≤ N) :
    Calls Try.prog 8 #[.int .i64 (N : Int), .int .u8 (c.toNat : Int), .bool true] w fun r w' => r = .returned (.bool true) ∧ Below w.heap.size w w' := by
  have HA := Lib.hid (ralive_any w)
  have t0 : ((N : Int) < 0) = False := by simp
  have t1 : ((70000 : Int) < (N : Int)) = False := by simp; omega
  have t2 : ((128 : Int) ≤ (c.toNat : Int)) = False := by simp; omega
  have u1 : ((65536 : Int) ≤ (N : Int)) = True := by simp; omega
  have u2 : ((256 : Int) ≤ (N : Int)) = True := by simp; omega
  have u3 : ((32 : Int) ≤ (N : Int)) = True := by simp; omega
  have hmk := make_zero N (by omega) N rfl
  have HF0 := Lib.hid (fun w1 (h : Below w.heap.size w w1) => FilR.new_ (n := N) (c := c) h hN)
  obtain ⟨T, hT⟩ : ∃ T : ByteArray, T = ⟨(List.replicate N c).toArray⟩ := ⟨_, rfl⟩
  obtain ⟨Z, hZ, hsl, hal⟩ := rtx_all false (List.replicate N c) (by simp; omega) T hT 5 (by rw [List.length_replicate, txPk_is _ _ (by omega), if_pos (by omega)])
  rw [List.length_replicate] at hZ
  simp only [Bool.false_eq_true, if_false] at hal
  have HSL := Lib.hid hsl
  have HAL := Lib.hid hal
  have HT := Lib.hid hT
  have HZ := Lib.hid hZ
  clear hc hq hsl hal hT hZ hN
  go_enter Try.func8, Try.ntmps8
  go_wp2_with fail
  refine HA.out.mono ?_
  rintro r w1 ⟨rfl, b1⟩
  have H0 := Lib.hid (HF0.out w1 b1)
  clear b1 HF0
  go_wp2
  go_loopw [8, 32] (fun _ i wr => ∃ (j : Nat), i = .int .i64 j ∧ j ≤ N ∧ Hid (FilR w w1 wr w1.heap.size N j c)) (fun _ i _ => N - (RowKit.intOf i).toNat)
  case atStart => exact ⟨0, rfl, by omega, H0⟩
  case round =>
    obtain ⟨j, rfl, hj, HI⟩ := hrel
    rename World => wz
    clear H0
    by_cases hlt : j < N
    · obtain ⟨g, off, cap, hv, _, _, _, _, h3⟩ := HI.out.win.form (by omega)
      injection hv with hv1 hv2 hv3
      injection hv1 with hv1
      injection hv1 with hv4 hv5 hv6
      subst hv4 hv5
      obtain ⟨u0, hu0⟩ : ∃ u, (bCells (filR N j c))[j]? = some u := ⟨_, List.getElem?_eq_getElem (by rw [bCells_length, filR_len _ _ _ (by omega)]; exact hlt)⟩
      obtain ⟨x0, f0⟩ := h3 j u0 hu0
      have HI2 := Lib.hid (HI.out.set hlt)
      have hjm : (j : Int) + 1 ≤ 70001 := by have := of_eq_false t1; omega
      clear h3 hv3 hu0
      simp only [Nat.zero_add] at x0 f0 HI2
      go_wp2
      go_roundw
      case rel => exact ⟨j + 1, rfl, hlt, HI2⟩
      case measure => simp [RowKit.intOf]; omega
    · obtain rfl : j = N := by omega
      have hwin := HI.out.win
      rw [filR_all] at hwin
      have hcv := conv_win hwin
      rw [← HT.out] at hcv
      have HB := Lib.hid HI.out.below
      clear hwin HI
      go_wp2_with fail
      refine (HAL.out _ _ (by simp)).mono ?_
      rintro r w3 ⟨rfl, b3⟩
      have hbk := (blk_new wz #[.int .i64 4, .bool false, .int .u64 0, .string T, .int .i64 0] 35).go b3
      have x3 := hbk.cell 3
      have HB3 := Lib.hid (up_trans (up_alloc HB.out _) b3)
      have hZ := HZ.out
      have hZi : (Z.size : Int) = (j : Int) + 5 := by omega
      have he : ((Z.size : Int) == (j : Int) + 5) = true := by rw [beq_iff_eq]; omega
      have hw : IntKind.i64.wrap ((j : Int) + 5) = (j : Int) + 5 := by have := of_eq_false t1; simp only [IntKind.wrap_i64]; omega
      clear b3 hbk hcv hZ
      go_wp2_with fail
      rw [show max (5 : Int) 2 = 5 by decide]
      go_quiet (fail)
      go_wp2
      go_ret
      exact ⟨by
        have het := HSL.out
        show Ending.returned (Value.bool ((Z.extract 5 Z.size).toList == T.toList)) = _
        rw [het], below_drN HB3.out _⟩
set_option maxRecDepth 100000 in
set_option maxHeartbeats 8000000 in
theorem rtexts_t1 (N : Nat) (c : UInt8) (w : World) (hN : N ≤ 70000) (hc : c.toNat < 128) (hq : 256 ≤ N ∧ N < 65536) :
    Calls Try.prog 8 #[.int .i64 (N : Int), .int .u8 (c.toNat : Int), .bool true] w fun r w' => r = .returned (.bool true) ∧ Below w.heap.size w w' := by
  have HA := Lib.hid (ralive_any w)
  have t0 : ((N : Int) < 0) = False := by simp
  have t1 : ((70000 : Int) < (N : Int)) = False := by simp; omega
  have t2 : ((128 : Int) ≤ (c.toNat : Int)) = False := by simp; omega
  have u1 : ((65536 : Int) ≤ (N : Int)) = False := by simp; omega
  have u2 : ((256 : Int) ≤ (N : Int)) = True := by simp; omega
  have u3 : ((32 : Int) ≤ (N : Int)) = True := by simp; omega
  have hmk := make_zero N (by omega) N rfl
  have HF0 := Lib.hid (fun w1 (h : Below w.heap.size w w1) => FilR.new_ (n := N) (c := c) h hN)
  obtain ⟨T, hT⟩ : ∃ T : ByteArray, T = ⟨(List.replicate N c).toArray⟩ := ⟨_, rfl⟩
  obtain ⟨Z, hZ, hsl, hal⟩ := rtx_all false (List.replicate N c) (by simp; omega) T hT 3 (by rw [List.length_replicate, txPk_is _ _ (by omega), if_neg (by omega), if_pos (by omega)])
  rw [List.length_replicate] at hZ
  simp only [Bool.false_eq_true, if_false] at hal
  have HSL := Lib.hid hsl
  have HAL := Lib.hid hal
  have HT := Lib.hid hT
  have HZ := Lib.hid hZ
  clear hc hq hsl hal hT hZ hN
  go_enter Try.func8, Try.ntmps8
  go_wp2_with fail
  refine HA.out.mono ?_
  rintro r w1 ⟨rfl, b1⟩
  have H0 := Lib.hid (HF0.out w1 b1)
  clear b1 HF0
  go_wp2
  go_loopw [8, 32] (fun _ i wr => ∃ (j : Nat), i = .int .i64 j ∧ j ≤ N ∧ Hid (FilR w w1 wr w1.heap.size N j c)) (fun _ i _ => N - (RowKit.intOf i).toNat)
  case atStart => exact ⟨0, rfl, by omega, H0⟩
  case round =>
    obtain ⟨j, rfl, hj, HI⟩ := hrel
    rename World => wz
    clear H0
    by_cases hlt : j < N
    · obtain ⟨g, off, cap, hv, _, _, _, _, h3⟩ := HI.out.win.form (by omega)
      injection hv with hv1 hv2 hv3
      injection hv1 with hv1
      injection hv1 with hv4 hv5 hv6
      subst hv4 hv5
      obtain ⟨u0, hu0⟩ : ∃ u, (bCells (filR N j c))[j]? = some u := ⟨_, List.getElem?_eq_getElem (by rw [bCells_length, filR_len _ _ _ (by omega)]; exact hlt)⟩
      obtain ⟨x0, f0⟩ := h3 j u0 hu0
      have HI2 := Lib.hid (HI.out.set hlt)
      have hjm : (j : Int) + 1 ≤ 70001 := by have := of_eq_false t1; omega
      clear h3 hv3 hu0
      simp only [Nat.zero_add] at x0 f0 HI2
      go_wp2
      go_roundw
      case rel => exact ⟨j + 1, rfl, hlt, HI2⟩
      case measure => simp [RowKit.intOf]; omega
    · obtain rfl : j = N := by omega
      have hwin := HI.out.win
      rw [filR_all] at hwin
      have hcv := conv_win hwin
      rw [← HT.out] at hcv
      have HB := Lib.hid HI.out.below
      clear hwin HI
      go_wp2_with fail
      refine (HAL.out _ _ (by simp)).mono ?_
      rintro r w3 ⟨rfl, b3⟩
      have hbk := (blk_new wz #[.int .i64 4, .bool false, .int .u64 0, .string T, .int .i64 0] 35).go b3
      have x3 := hbk.cell 3
      have HB3 := Lib.hid (up_trans (up_alloc HB.out _) b3)
      have hZ := HZ.out
      have hZi : (Z.size : Int) = (j : Int) + 3 := by omega
      have he : ((Z.size : Int) == (j : Int) + 3) = true := by rw [beq_iff_eq]; omega
      have hw : IntKind.i64.wrap ((j : Int) + 3) = (j : Int) + 3 := by have := of_eq_false t1; simp only [IntKind.wrap_i64]; omega
      clear b3 hbk hcv hZ
      go_wp2_with fail
      rw [show max (3 : Int) 2 = 3 by decide]
      go_quiet (fail)
      go_wp2
      go_ret
      exact ⟨by
        have het := HSL.out
        show Ending.returned (Value.bool ((Z.extract 3 Z.size).toList == T.toList)) = _
        rw [het], below_drN HB3.out _⟩
set_option maxRecDepth 100000 in
set_option maxHeartbeats 8000000 in
theorem rtexts_t2 (N : Nat) (c : UInt8) (w : World) (hN : N ≤ 70000) (hc : c.toNat < 128) (hq : 32 ≤ N ∧ N < 256) :
    Calls Try.prog 8 #[.int .i64 (N : Int), .int .u8 (c.toNat : Int), .bool true] w fun r w' => r = .returned (.bool true) ∧ Below w.heap.size w w' := by
  have HA := Lib.hid (ralive_any w)
  have t0 : ((N : Int) < 0) = False := by simp
  have t1 : ((70000 : Int) < (N : Int)) = False := by simp; omega
  have t2 : ((128 : Int) ≤ (c.toNat : Int)) = False := by simp; omega
  have u1 : ((65536 : Int) ≤ (N : Int)) = False := by simp; omega
  have u2 : ((256 : Int) ≤ (N : Int)) = False := by simp; omega
  have u3 : ((32 : Int) ≤ (N : Int)) = True := by simp; omega
  have hmk := make_zero N (by omega) N rfl
  have HF0 := Lib.hid (fun w1 (h : Below w.heap.size w w1) => FilR.new_ (n := N) (c := c) h hN)
  obtain ⟨T, hT⟩ : ∃ T : ByteArray, T = ⟨(List.replicate N c).toArray⟩ := ⟨_, rfl⟩
  obtain ⟨Z, hZ, hsl, hal⟩ := rtx_all false (List.replicate N c) (by simp; omega) T hT 2 (by rw [List.length_replicate, txPk_is _ _ (by omega), if_neg (by omega), if_neg (by omega), if_neg (by simp)])
  rw [List.length_replicate] at hZ
  simp only [Bool.false_eq_true, if_false] at hal
  have HSL := Lib.hid hsl
  have HAL := Lib.hid hal
  have HT := Lib.hid hT
  have HZ := Lib.hid hZ
  clear hc hq hsl hal hT hZ hN
  go_enter Try.func8, Try.ntmps8
  go_wp2_with fail
  refine HA.out.mono ?_
  rintro r w1 ⟨rfl, b1⟩
  have H0 := Lib.hid (HF0.out w1 b1)
  clear b1 HF0
  go_wp2
  go_loopw [8, 32] (fun _ i wr => ∃ (j : Nat), i = .int .i64 j ∧ j ≤ N ∧ Hid (FilR w w1 wr w1.heap.size N j c)) (fun _ i _ => N - (RowKit.intOf i).toNat)
  case atStart => exact ⟨0, rfl, by omega, H0⟩
  case round =>
    obtain ⟨j, rfl, hj, HI⟩ := hrel
    rename World => wz
    clear H0
    by_cases hlt : j < N
    · obtain ⟨g, off, cap, hv, _, _, _, _, h3⟩ := HI.out.win.form (by omega)
      injection hv with hv1 hv2 hv3
      injection hv1 with hv1
      injection hv1 with hv4 hv5 hv6
      subst hv4 hv5
      obtain ⟨u0, hu0⟩ : ∃ u, (bCells (filR N j c))[j]? = some u := ⟨_, List.getElem?_eq_getElem (by rw [bCells_length, filR_len _ _ _ (by omega)]; exact hlt)⟩
      obtain ⟨x0, f0⟩ := h3 j u0 hu0
      have HI2 := Lib.hid (HI.out.set hlt)
      have hjm : (j : Int) + 1 ≤ 70001 := by have := of_eq_false t1; omega
      clear h3 hv3 hu0
      simp only [Nat.zero_add] at x0 f0 HI2
      go_wp2
      go_roundw
      case rel => exact ⟨j + 1, rfl, hlt, HI2⟩
      case measure => simp [RowKit.intOf]; omega
    · obtain rfl : j = N := by omega
      have hwin := HI.out.win
      rw [filR_all] at hwin
      have hcv := conv_win hwin
      rw [← HT.out] at hcv
      have HB := Lib.hid HI.out.below
      clear hwin HI
      go_wp2_with fail
      refine (HAL.out _ _ (by simp)).mono ?_
      rintro r w3 ⟨rfl, b3⟩
      have hbk := (blk_new wz #[.int .i64 4, .bool false, .int .u64 0, .string T, .int .i64 0] 35).go b3
      have x3 := hbk.cell 3
      have HB3 := Lib.hid (up_trans (up_alloc HB.out _) b3)
      have hZ := HZ.out
      have hZi : (Z.size : Int) = (j : Int) + 2 := by omega
      have he : ((Z.size : Int) == (j : Int) + 2) = true := by rw [beq_iff_eq]; omega
      have hw : IntKind.i64.wrap ((j : Int) + 2) = (j : Int) + 2 := by have := of_eq_false t1; simp only [IntKind.wrap_i64]; omega
      clear b3 hbk hcv hZ
      go_wp2_with fail
      go_quiet (fail)
      go_wp2
      go_ret
      exact ⟨by
        have het := HSL.out
        show Ending.returned (Value.bool ((Z.extract 2 Z.size).toList == T.toList)) = _
        rw [het], below_drN HB3.out _⟩
set_option maxRecDepth 100000 in
set_option maxHeartbeats 8000000 in
theorem rtexts_t3 (N : Nat) (c : UInt8) (w : World) (hN : N ≤ 70000) (hc : c.toNat < 128) (hq : N < 32) :
    Calls Try.prog 8 #[.int .i64 (N : Int), .int .u8 (c.toNat : Int), .bool true] w fun r w' => r = .returned (.bool true) ∧ Below w.heap.size w w' := by
  have HA := Lib.hid (ralive_any w)
  have t0 : ((N : Int) < 0) = False := by simp
  have t1 : ((70000 : Int) < (N : Int)) = False := by simp; omega
  have t2 : ((128 : Int) ≤ (c.toNat : Int)) = False := by simp; omega
  have u1 : ((65536 : Int) ≤ (N : Int)) = False := by simp; omega
  have u2 : ((256 : Int) ≤ (N : Int)) = False := by simp; omega
  have u3 : ((32 : Int) ≤ (N : Int)) = False := by simp; omega
  have hmk := make_zero N (by omega) N rfl
  have HF0 := Lib.hid (fun w1 (h : Below w.heap.size w w1) => FilR.new_ (n := N) (c := c) h hN)
  obtain ⟨T, hT⟩ : ∃ T : ByteArray, T = ⟨(List.replicate N c).toArray⟩ := ⟨_, rfl⟩
  obtain ⟨Z, hZ, hsl, hal⟩ := rtx_all false (List.replicate N c) (by simp; omega) T hT 2 (by rw [List.length_replicate, txPk_is _ _ (by omega), if_neg (by omega), if_neg (by omega), if_neg (by simp)])
  rw [List.length_replicate] at hZ
  simp only [Bool.false_eq_true, if_false] at hal
  have HSL := Lib.hid hsl
  have HAL := Lib.hid hal
  have HT := Lib.hid hT
  have HZ := Lib.hid hZ
  clear hc hq hsl hal hT hZ hN
  go_enter Try.func8, Try.ntmps8
  go_wp2_with fail
  refine HA.out.mono ?_
  rintro r w1 ⟨rfl, b1⟩
  have H0 := Lib.hid (HF0.out w1 b1)
  clear b1 HF0
  go_wp2
  go_loopw [8, 32] (fun _ i wr => ∃ (j : Nat), i = .int .i64 j ∧ j ≤ N ∧ Hid (FilR w w1 wr w1.heap.size N j c)) (fun _ i _ => N - (RowKit.intOf i).toNat)
  case atStart => exact ⟨0, rfl, by omega, H0⟩
  case round =>
    obtain ⟨j, rfl, hj, HI⟩ := hrel
    rename World => wz
    clear H0
    by_cases hlt : j < N
    · obtain ⟨g, off, cap, hv, _, _, _, _, h3⟩ := HI.out.win.form (by omega)
      injection hv with hv1 hv2 hv3
      injection hv1 with hv1
      injection hv1 with hv4 hv5 hv6
      subst hv4 hv5
      obtain ⟨u0, hu0⟩ : ∃ u, (bCells (filR N j c))[j]? = some u := ⟨_, List.getElem?_eq_getElem (by rw [bCells_length, filR_len _ _ _ (by omega)]; exact hlt)⟩
      obtain ⟨x0, f0⟩ := h3 j u0 hu0
      have HI2 := Lib.hid (HI.out.set hlt)
      have hjm : (j : Int) + 1 ≤ 70001 := by have := of_eq_false t1; omega
      clear h3 hv3 hu0
      simp only [Nat.zero_add] at x0 f0 HI2
      go_wp2
      go_roundw
      case rel => exact ⟨j + 1, rfl, hlt, HI2⟩
      case measure => simp [RowKit.intOf]; omega
    · obtain rfl : j = N := by omega
      have hwin := HI.out.win
      rw [filR_all] at hwin
      have hcv := conv_win hwin
      rw [← HT.out] at hcv
      have HB := Lib.hid HI.out.below
      clear hwin HI
      go_wp2_with fail
      refine (HAL.out _ _ (by simp)).mono ?_
      rintro r w3 ⟨rfl, b3⟩
      have hbk := (blk_new wz #[.int .i64 4, .bool false, .int .u64 0, .string T, .int .i64 0] 35).go b3
      have x3 := hbk.cell 3
      have HB3 := Lib.hid (up_trans (up_alloc HB.out _) b3)
      have hZ := HZ.out
      have hZi : (Z.size : Int) = (j : Int) + 2 := by omega
      have he : ((Z.size : Int) == (j : Int) + 2) = true := by rw [beq_iff_eq]; omega
      have hw : IntKind.i64.wrap ((j : Int) + 2) = (j : Int) + 2 := by have := of_eq_false t1; simp only [IntKind.wrap_i64]; omega
      clear b3 hbk hcv hZ
      go_wp2_with fail
      rw [show max (1 : Int) 2 = 2 by decide]
      go_quiet (fail)
      go_wp2
      go_ret
      exact ⟨by
        have het := HSL.out
        show Ending.returned (Value.bool ((Z.extract 2 Z.size).toList == T.toList)) = _
        rw [het], below_drN HB3.out _⟩
set_option maxRecDepth 100000 in
set_option maxHeartbeats 2000000 in
theorem rtexts_row (n : Int) (c : Int) (y : Bool) (hc : 0 ≤ c ∧ c < 256) (w : World) :
    Calls Try.prog 8 #[.int .i64 n, .int .u8 c, .bool y] w fun r w' => r = .returned (.bool true) ∧ Below w.heap.size w w' := by
  by_cases h1 : n < 0 ∨ 70000 < n ∨ 128 ≤ c
  · have HA := Lib.hid (ralive_any w)
    by_cases a1 : n < 0
    · have c1 : (n < 0) = True := by simp [a1]
      clear h1 a1 hc
      go_enter Try.func8, Try.ntmps8
      go_wp2_with fail
      refine HA.out.mono ?_
      rintro r w1 ⟨rfl, b1⟩
      have B1 := Lib.hid b1
      clear b1
      go_wp2
      go_ret
      exact ⟨rfl, B1.out⟩
    have c1 : (n < 0) = False := by simp; omega
    by_cases a2 : 70000 < n
    · have c2 : (70000 < n) = True := by simp [a2]
      clear h1 a1 a2 hc
      go_enter Try.func8, Try.ntmps8
      go_wp2_with fail
      refine HA.out.mono ?_
      rintro r w1 ⟨rfl, b1⟩
      have B1 := Lib.hid b1
      clear b1
      go_wp2
      go_ret
      exact ⟨rfl, B1.out⟩
    have c2 : (70000 < n) = False := by simp; omega
    have c3 : (128 ≤ c) = True := by simp; omega
    clear h1 a1 a2 hc
    go_enter Try.func8, Try.ntmps8
    go_wp2_with fail
    refine HA.out.mono ?_
    rintro r w1 ⟨rfl, b1⟩
    have B1 := Lib.hid b1
    clear b1
    go_wp2
    go_ret
    exact ⟨rfl, B1.out⟩
  · obtain ⟨N, rfl⟩ : ∃ N : Nat, n = N := ⟨n.toNat, by omega⟩
    obtain ⟨b, rfl⟩ : ∃ b : UInt8, c = (b.toNat : Int) := ⟨UInt8.ofNat c.toNat, by rw [UInt8.toNat_ofNat']; omega⟩
    have hN : N ≤ 70000 := by omega
    have hb : b.toNat < 128 := by omega
    by_cases q0 : 65536 ≤ N
    · cases y
      · exact rtexts_f0 N b w hN hb q0
      · exact rtexts_t0 N b w hN hb q0
    · by_cases q1 : 256 ≤ N
      · cases y
        · exact rtexts_f1 N b w hN hb ⟨q1, by omega⟩
        · exact rtexts_t1 N b w hN hb ⟨q1, by omega⟩
      · by_cases q2 : 32 ≤ N
        · cases y
          · exact rtexts_f2 N b w hN hb ⟨q2, by omega⟩
          · exact rtexts_t2 N b w hN hb ⟨q2, by omega⟩
        · cases y
          · exact rtexts_f3 N b w hN hb (by omega)
          · exact rtexts_t3 N b w hN hb (by omega)
end Go.Proofs.Ytonjdnahplphhaa
