/-
  LAW of chapter 15, over PinAll and PinP: PackinTexts.
-/
import Derived.Test.YtebnhelejebobaaG0c
import Derived.Test.YtebnhelejebobaaG2a
/-
  LAW of chapter 15, over PinAll and PinP: PackinTexts.
-/
namespace Go.Proofs.Ytebnhelejebobaa
open Go.RowKit
open Go.Lib
/-- The row that the law fills: j bytes are there. -/
def filQ (n j : Nat) (c : UInt8) : List UInt8 := List.replicate j c ++ List.replicate (n - j) 0
theorem filQ_len (n j : Nat) (c : UInt8) (hj : j ≤ n) : (filQ n j c).length = n := by simp [filQ]; omega
theorem filQ_set (n j : Nat) (c : UInt8) (hj : j < n) : (bCells (filQ n j c)).set j (.int .u8 (c.toNat : Int)) = bCells (filQ n (j + 1) c) := by
  unfold filQ bCells
  rw [← List.map_set]
  congr 1
  rw [List.set_append_right _ _ (by simp)]
  simp only [List.length_replicate, Nat.sub_self]
  rw [show n - j = (n - (j + 1)) + 1 by omega, List.replicate_succ, List.set_cons_zero, List.replicate_succ', List.append_assoc]
  rfl
theorem filQ_all (n : Nat) (c : UInt8) : filQ n n c = List.replicate n c := by simp [filQ]
theorem idx_txq (l : List UInt8) (j : Nat) (hj : j < l.length) (W : World) : (Instr.index 9 (.string ⟨l.toArray⟩) (.int .i64 (j : Int))).run Try.prog W = .ok (.int .u8 (l[j].toNat : Int)) W := by
  rw [run_index_string W 9 ⟨l.toArray⟩ .i64 (j : Int) Try.underlying9, dif_pos (by show 0 ≤ (j : Int) ∧ (j : Int) < ((l.toArray.size : Nat) : Int); simp; omega)]
  rfl
/-- A row that a call made and fills. -/
structure FilQ (w w1 wr : World) (g n j : Nat) (c : UInt8) : Prop where
  win : Win wr 5 1 (.slice (some ⟨g, 0, none⟩) n n) n (bCells (filQ n j c))
  low : w.heap.size ≤ g
  below : Below w.heap.size w wr
theorem FilQ.new_ {w w1 : World} {n : Nat} {c : UInt8} (h : Below w.heap.size w w1) (hn : n ≤ 300) : FilQ w w1 (w1.alloc (.cells (Lib.byteCells (List.replicate n 0)).toArray 5)) w1.heap.size n 0 c := by
  refine ⟨⟨by rw [bCells_length, filQ_len _ _ _ (Nat.zero_le _), Nat.mul_one], .inr ⟨w1.heap.size, 0, n, _, rfl, heap_alloc_new w1 _, Nat.le_refl _, by simp [Lib.byteCells], by unfold maxLen; omega, ?_⟩⟩, h.size, up_alloc h _⟩
  simp only [filQ, List.replicate_zero, List.nil_append, Nat.sub_zero, Nat.mul_one, List.drop_zero]
  rw [List.take_of_length_le (by simp [Lib.byteCells])]
  rfl
theorem FilQ.set {w w1 wr : World} {g n j : Nat} {c : UInt8} (h : FilQ w w1 wr g n j c) (hj : j < n) : FilQ w w1 (wr.setCell ⟨g, 0 + j, none⟩ (.int .u8 (c.toNat : Int))) g n (j + 1) c := by
  have hs := h.win.store j (by rw [bCells_length, filQ_len _ _ _ (by omega)]; exact hj) (.int .u8 (c.toNat : Int))
  rw [filQ_set n j c hj] at hs
  exact ⟨hs, h.low, h.below.setCell h.low _⟩
theorem txq_step {PK : World → World → Nat → Nat → Pm → Prop} (P : PinP PK) {w0 w : World} {p : Nat} {m : Bool} {n : Nat} {c : UInt8} (hn : n ≤ 200) (hc : c.toNat < 128) {i : Nat} (hi : i < (txBq m n c).length) (h : PK w0 w p 3 (txSq m n c i)) :
    Calls Try.prog 20 #[.pointer (some ⟨p, 0, none⟩), .int .u8 ((txBq m n c)[i].toNat : Int)] w fun r w' => (∃ a k cp, r = .returned (.tuple #[.slice a k cp, .int .i64 0]) ∧ k = if i + 1 = (txBq m n c).length then 1 else 0) ∧ PK w0 w' p 3 (txSq m n c (i + 1)) := by
  obtain ⟨e1, e2, e3, e4⟩ := txSq_step m n c hn hc i hi
  refine (P.step w0 w p 3 _ _ h).mono ?_
  rintro r w' ⟨⟨v, rfl, hv⟩, hP⟩
  rw [e1] at hP
  rw [e1, e2]
  obtain ⟨a, cp, rfl⟩ := hv.form
  refine ⟨⟨a, _, cp, rfl, ?_⟩, hP⟩
  by_cases h2 : i + 1 = (txBq m n c).length
  · rw [if_pos h2, (e4 h2).1]
  · rw [if_neg h2, (e3 (by omega)).1]; rfl
theorem txq_held {PK : World → World → Nat → Nat → Pm → Prop} (P : PinP PK) {w0 w : World} {p : Nat} {m : Bool} {n : Nat} {c : UInt8} (hn : n ≤ 200) (hc : c.toNat < 128) {i : Nat} (hi : i < (txBq m n c).length) (h : PK w0 w p 3 (txSq m n c (i + 1))) :
    Calls Try.prog 21 #[.pointer (some ⟨p, 0, none⟩)] w fun r w' => r = .returned (.int .i64 ((if i + 1 = (txBq m n c).length then 0 else i + 1 - (txPk m n).length : Nat) : Int)) ∧ Below w.heap.size w w' := by
  obtain ⟨_, _, e3, e4⟩ := txSq_step m n c hn hc i hi
  have := P.held w0 w p 3 _ h
  by_cases h2 : i + 1 = (txBq m n c).length
  · rw [if_pos h2]; rwa [(e4 h2).2.1] at this
  · rw [if_neg h2]; rwa [(e3 (by omega)).2] at this
theorem txq_done {PK : World → World → Nat → Nat → Pm → Prop} (P : PinP PK) {w0 w : World} {p : Nat} {m : Bool} {n : Nat} {c : UInt8} (hn : n ≤ 200) (hc : c.toNat < 128) (h : PK w0 w p 3 (txSq m n c (txBq m n c).length)) :
    Calls Try.prog 22 #[.pointer (some ⟨p, 0, none⟩)] w fun r w' => r = .returned (.bool true) ∧ w = w' := by
  have hl := (txPk_le m n).1
  have hl2 := txBq_len m n c
  obtain ⟨_, _, _, e4⟩ := txSq_step m n c hn hc ((txBq m n c).length - 1) (by omega)
  rw [show (txBq m n c).length - 1 + 1 = (txBq m n c).length by omega] at e4
  have := P.done w0 w p 3 _ h
  rwa [(e4 rfl).2.2] at this
theorem txq_large {PK : World → World → Nat → Nat → Pm → Prop} (P : PinP PK) {w0 w : World} {p : Nat} {m : Bool} {n : Nat} {c : UInt8} (hn : 200 < n ∧ n ≤ 300) {i : Nat} (hh : i < (txPk m n).length) (hi : i < (txBq m n c).length) (h : PK w0 w p 3 (txSq m n c i)) :
    Calls Try.prog 20 #[.pointer (some ⟨p, 0, none⟩), .int .u8 ((txBq m n c)[i].toNat : Int)] w fun r w' => (∃ a cp, r = .returned (.tuple #[.slice a 0 cp, .int .i64 ((if i + 1 = (txPk m n).length then 5 else 0 : Nat) : Int)])) ∧ PK w0 w' p 3 (txSq m n c (i + 1)) := by
  obtain ⟨e1, e2, e3⟩ := txSq_large m n c hn.1 (by omega) i hh hi
  refine (P.step w0 w p 3 _ _ h).mono ?_
  rintro r w' ⟨⟨v, rfl, hv⟩, hP⟩
  rw [e1] at hP
  rw [e2] at hv
  rw [e1, e3]
  obtain ⟨a, cp, rfl⟩ := hv.form
  exact ⟨⟨a, cp, rfl⟩, hP⟩
set_option maxRecDepth 100000 in
set_option maxHeartbeats 16000000 in
theorem ptexts_sf (H : PinAll) {PK : World → World → Nat → Nat → Pm → Prop} (P : PinP PK) (N : Nat) (c : UInt8) (w : World) (hN : N ≤ 200) (hc : c.toNat < 128) :
    Calls Try.prog 7 #[.int .i64 (N : Int), .int .u8 (c.toNat : Int), .bool false] w fun r w' => r = .returned (.bool true) ∧ Below w.heap.size w w' := by
  have HA := Lib.hid (palive_any H w)
  have t1 : ((300 : Int) < (N : Int)) = False := by simp; omega
  have t2 : ((128 : Int) ≤ (c.toNat : Int)) = False := by simp; omega
  have t3 : ((200 : Int) < (N : Int)) = False := by simp; omega
  have t4 : ((N : Int) ≤ 200) = True := by simp; omega
  have HCC := Lib.hid hc
  have hmk := make_zero N (by omega) N rfl
  have HF0 := Lib.hid (fun w1 (h : Below w.heap.size w w1) => FilQ.new_ (n := N) (c := c) h (by omega))
  have HNW := Lib.hid (fun W => P.new_ 3 (by omega) W)
  have HN2 := Lib.hid hN
  have HWT : Hid (∀ (W : World) (g : Nat), g = W.heap.size → Calls Try.prog 17 #[.pointer (some ⟨g, 0, none⟩), .agg #[.int .i64 3, .bool false, .int .u64 0, .string ⟨(List.replicate N c).toArray⟩, .int .i64 0]] (W.alloc (.cells #[.int .i64 3, .slice none 0 0, .bool false] 34)) fun q w' =>
      q = .returned (.tuple #[.string ⟨(txBq true N c).toArray⟩, .int .i64 0]) ∧ Below W.heap.size W w') := Lib.hid (fun W g hg => by
    subst hg
    have := wtextP_any true (List.replicate N c) (by simp; omega) W
    simp only [List.length_replicate] at this
    exact this)
  clear hc
  go_enter Try.func7, Try.ntmps7
  go_wp2_with fail
  refine HA.out.mono ?_
  rintro r w1 ⟨rfl, b1⟩
  have H0 := Lib.hid (HF0.out w1 b1)
  clear b1 HF0
  go_wp2
  go_loopw [8, 37] (fun _ i wr => ∃ (j : Nat), i = .int .i64 j ∧ j ≤ N ∧ Hid (FilQ w w1 wr w1.heap.size N j c)) (fun _ i _ => N - (RowKit.intOf i).toNat)
  case atStart => exact ⟨0, rfl, by omega, H0⟩
  case round =>
    obtain ⟨j, rfl, hj, HI⟩ := hrel
    rename World => wz
    clear H0
    by_cases hlt : j < N
    · obtain ⟨g, off, cap, hv, _, _, _, _, h3⟩ := HI.out.win.form (by omega)
      injection hv with hv1 hv2 hv3
      injection hv1 with hv1
      injection hv1 with hv4 hv5 hv6
      subst hv4 hv5
      obtain ⟨u0, hu0⟩ : ∃ u, (bCells (filQ N j c))[j]? = some u := ⟨_, List.getElem?_eq_getElem (by rw [bCells_length, filQ_len _ _ _ (by omega)]; exact hlt)⟩
      obtain ⟨x0, f0⟩ := h3 j u0 hu0
      have HI2 := Lib.hid (HI.out.set hlt)
      clear h3 hv3 hu0
      simp only [Nat.zero_add] at x0 f0 HI2
      go_wp2
      go_roundw
      case rel => exact ⟨j + 1, rfl, hlt, HI2⟩
      case measure => simp [RowKit.intOf]; omega
    · obtain rfl : j = N := by omega
      have hwin := HI.out.win
      rw [filQ_all] at hwin
      have HB := Lib.hid HI.out.below
      have HW := Lib.hid hwin
      clear hwin HI
      go_wp2_with fail
      refine (HNW.out _).mono ?_
      rintro r w2 ⟨p, rfl, hP⟩
      have hb2 := P.bel _ _ _ _ _ hP
      have hcv := conv_win (HW.out.keep fun k hk => hb2.block k (HW.out.lt k hk))
      have HP := Lib.hid hP
      have HB2 := Lib.hid (HB.out.trans (hb2.mono HB.out.size))
      obtain ⟨Z, hZ⟩ : ∃ Z : ByteArray, (⟨(List.replicate j c).toArray⟩ : ByteArray) = Z := ⟨_, rfl⟩
      rw [hZ] at hcv HWT
      have E1 : Hid (Blk (w2.alloc (.cells #[.int .i64 3, .bool false, .int .u64 0, .string Z, .int .i64 0] 39)) w2.heap.size #[.int .i64 3, .bool false, .int .u64 0, .string Z, .int .i64 0] 39) := Lib.hid (blk_new _ _ _)
      clear hP hb2 HW hZ HNW
      go_wp2_with fail
      refine (HWT.out _ _ (by simp)).mono ?_
      rintro r w3 ⟨rfl, b3⟩
      have hP3 := P.go _ _ _ _ _ _ HP.out (up_trans (up_alloc (Below.refl _ _) _) b3)
      have HL := Lib.hid (txBq_len true j c)
      obtain ⟨h0, hh0⟩ : ∃ h0, (txPk true j).length = h0 := ⟨_, rfl⟩
      have hh1 := (txPk_le true j).2
      have hh2 := (txPk_le true j).1
      have HIX := Lib.hid (fun (a : Nat) (ha : a < (txBq true j c).length) => idx_txq (txBq true j c) a ha)
      have hsz : (⟨(txBq true j c).toArray⟩ : ByteArray).size = h0 + j := by rw [size_of, HL.out, hh0]
      rw [hh0] at hh1 hh2
      have hlb : (txBq true j c).length = h0 + j := by rw [HL.out, hh0]
      obtain ⟨X, hX⟩ : ∃ X : ByteArray, (⟨(txBq true j c).toArray⟩ : ByteArray) = X := ⟨_, rfl⟩
      rw [hX] at hsz HIX
      rw [hX]
      have HLB := Lib.hid hlb
      have HH0 := Lib.hid hh0
      have HS0 : Hid (PK wz w3 p 3 (txSq true j c 0)) := Lib.hid hP3
      have HP1 : Hid (1 ≤ h0) := Lib.hid (by omega)
      clear b3 hP3 HP hlb hh0 hX hh2 HWT hcv
      have q1 : IntKind.i64.wrap ((X.size : Int) - (j : Int)) = (h0 : Int) := by simp only [IntKind.wrap_i64]; omega
      have q4 : IntKind.i64.wrap ((X.size : Int) - 1) = (X.size : Int) - 1 := by have := HP1.out; simp only [IntKind.wrap_i64]; omega
      go_wp2
      go_loopw [14, 15, 16, 17] (fun i _ _ _ wr => ∃ (a : Nat), i = .int .i64 a ∧ a ≤ X.size ∧ Hid (PK wz wr p 3 (txSq true j c a))) (fun i _ _ _ _ => X.size - (RowKit.intOf i).toNat)
      case atStart => exact ⟨0, rfl, by omega, HS0⟩
      case round =>
        obtain ⟨a, rfl, ha, HQ⟩ := hrel
        clear HS0
        by_cases hla : a < X.size
        · have hlt2 : a < (txBq true j c).length := by rw [HLB.out]; omega
          have hix := HIX.out a hlt2
          have HST := Lib.hid (txq_step P HN2.out HCC.out hlt2 HQ.out)
          have HHE := Lib.hid (fun w4 h => txq_held P (w0 := wz) (w := w4) (p := p) (m := true) HN2.out HCC.out hlt2 h)
          have q2 : IntKind.i64.wrap ((a : Int) + 1) = (a : Int) + 1 := by simp only [IntKind.wrap_i64]; omega
          have q3 : IntKind.i64.wrap ((a : Int) + 1 - (h0 : Int)) = (a : Int) + 1 - (h0 : Int) := by simp only [IntKind.wrap_i64]; omega
          rw [HLB.out, HH0.out] at HHE
          rw [HLB.out] at HST
          generalize (txBq true j c)[a] = y at *
          clear hlt2 HQ
          by_cases hend : a + 1 = h0 + j
          · rw [if_pos hend] at HST HHE
            have q5 : ((a : Int) == (X.size : Int) - 1) = true := by rw [beq_iff_eq]; omega
            go_wp2_with fail
            refine HST.out.mono ?_
            rintro r w4 ⟨⟨a4, k4, cp4, rfl, rfl⟩, hP4⟩
            have HP4 := Lib.hid hP4
            clear hP4
            go_wp2_with fail
            refine (HHE.out _ HP4.out).mono ?_
            rintro r w5 ⟨rfl, b5⟩
            have HP5 := Lib.hid (P.go _ _ _ _ _ _ HP4.out b5)
            clear b5
            go_wp2
            go_roundw
            case rel => exact ⟨a + 1, rfl, by omega, HP5⟩
            case measure => simp [RowKit.intOf]; omega
          · rw [if_neg hend] at HST HHE
            have q5 : ((a : Int) == (X.size : Int) - 1) = false := by rw [beq_eq_false_iff_ne]; omega
            obtain ⟨hv, hhv⟩ : ∃ hv : Nat, a + 1 - h0 = hv := ⟨_, rfl⟩
            have qm : max ((a : Int) + 1 - (h0 : Int)) 0 = (hv : Int) := by omega
            rw [hhv] at HHE
            clear hhv
            go_wp2_with fail
            refine HST.out.mono ?_
            rintro r w4 ⟨⟨a4, k4, cp4, rfl, rfl⟩, hP4⟩
            have HP4 := Lib.hid hP4
            clear hP4
            go_wp2_with fail
            refine (HHE.out _ HP4.out).mono ?_
            rintro r w5 ⟨rfl, b5⟩
            have HP5 := Lib.hid (P.go _ _ _ _ _ _ HP4.out b5)
            clear b5
            go_wp2
            go_roundw
            case rel => exact ⟨a + 1, rfl, by omega, HP5⟩
            case measure => simp [RowKit.intOf]; omega
        · obtain rfl : a = X.size := by omega
          have hD := HQ.out
          have hXL : X.size = (txBq true j c).length := by rw [HLB.out]; exact hsz
          rw [hXL] at hD
          have HD := Lib.hid (txq_done P HN2.out HCC.out hD)
          have HBF := Lib.hid (HB.out.trans ((P.bel _ _ _ _ _ HQ.out).mono HB.out.size))
          clear hD hXL HQ
          go_wp2_with fail
          refine HD.out.mono ?_
          rintro r w4 ⟨rfl, rfl⟩
          go_wp2
          go_ret
          exact ⟨rfl, HBF.out⟩
set_option maxRecDepth 100000 in
set_option maxHeartbeats 16000000 in
theorem ptexts_st (H : PinAll) {PK : World → World → Nat → Nat → Pm → Prop} (P : PinP PK) (N : Nat) (c : UInt8) (w : World) (hN : N ≤ 200) (hc : c.toNat < 128) :
    Calls Try.prog 7 #[.int .i64 (N : Int), .int .u8 (c.toNat : Int), .bool true] w fun r w' => r = .returned (.bool true) ∧ Below w.heap.size w w' := by
  have HA := Lib.hid (palive_any H w)
  have t1 : ((300 : Int) < (N : Int)) = False := by simp; omega
  have t2 : ((128 : Int) ≤ (c.toNat : Int)) = False := by simp; omega
  have t3 : ((200 : Int) < (N : Int)) = False := by simp; omega
  have t4 : ((N : Int) ≤ 200) = True := by simp; omega
  have HCC := Lib.hid hc
  have hmk := make_zero N (by omega) N rfl
  have HF0 := Lib.hid (fun w1 (h : Below w.heap.size w w1) => FilQ.new_ (n := N) (c := c) h (by omega))
  have HNW := Lib.hid (fun W => P.new_ 3 (by omega) W)
  have HN2 := Lib.hid hN
  have HWT : Hid (∀ (W : World) (g : Nat), g = W.heap.size → Calls Try.prog 17 #[.pointer (some ⟨g, 0, none⟩), .agg #[.int .i64 4, .bool false, .int .u64 0, .string ⟨(List.replicate N c).toArray⟩, .int .i64 0]] (W.alloc (.cells #[.int .i64 3, .slice none 0 0, .bool false] 34)) fun q w' =>
      q = .returned (.tuple #[.string ⟨(txBq false N c).toArray⟩, .int .i64 0]) ∧ Below W.heap.size W w') := Lib.hid (fun W g hg => by
    subst hg
    have := wtextP_any false (List.replicate N c) (by simp; omega) W
    simp only [List.length_replicate] at this
    exact this)
  clear hc
  go_enter Try.func7, Try.ntmps7
  go_wp2_with fail
  refine HA.out.mono ?_
  rintro r w1 ⟨rfl, b1⟩
  have H0 := Lib.hid (HF0.out w1 b1)
  clear b1 HF0
  go_wp2
  go_loopw [8, 37] (fun _ i wr => ∃ (j : Nat), i = .int .i64 j ∧ j ≤ N ∧ Hid (FilQ w w1 wr w1.heap.size N j c)) (fun _ i _ => N - (RowKit.intOf i).toNat)
  case atStart => exact ⟨0, rfl, by omega, H0⟩
  case round =>
    obtain ⟨j, rfl, hj, HI⟩ := hrel
    rename World => wz
    clear H0
    by_cases hlt : j < N
    · obtain ⟨g, off, cap, hv, _, _, _, _, h3⟩ := HI.out.win.form (by omega)
      injection hv with hv1 hv2 hv3
      injection hv1 with hv1
      injection hv1 with hv4 hv5 hv6
      subst hv4 hv5
      obtain ⟨u0, hu0⟩ : ∃ u, (bCells (filQ N j c))[j]? = some u := ⟨_, List.getElem?_eq_getElem (by rw [bCells_length, filQ_len _ _ _ (by omega)]; exact hlt)⟩
      obtain ⟨x0, f0⟩ := h3 j u0 hu0
      have HI2 := Lib.hid (HI.out.set hlt)
      clear h3 hv3 hu0
      simp only [Nat.zero_add] at x0 f0 HI2
      go_wp2
      go_roundw
      case rel => exact ⟨j + 1, rfl, hlt, HI2⟩
      case measure => simp [RowKit.intOf]; omega
    · obtain rfl : j = N := by omega
      have hwin := HI.out.win
      rw [filQ_all] at hwin
      have HB := Lib.hid HI.out.below
      have HW := Lib.hid hwin
      clear hwin HI
      go_wp2_with fail
      refine (HNW.out _).mono ?_
      rintro r w2 ⟨p, rfl, hP⟩
      have hb2 := P.bel _ _ _ _ _ hP
      have hcv := conv_win (HW.out.keep fun k hk => hb2.block k (HW.out.lt k hk))
      have HP := Lib.hid hP
      have HB2 := Lib.hid (HB.out.trans (hb2.mono HB.out.size))
      obtain ⟨Z, hZ⟩ : ∃ Z : ByteArray, (⟨(List.replicate j c).toArray⟩ : ByteArray) = Z := ⟨_, rfl⟩
      rw [hZ] at hcv HWT
      have E1 : Hid (Blk (w2.alloc (.cells #[.int .i64 4, .bool false, .int .u64 0, .string Z, .int .i64 0] 39)) w2.heap.size #[.int .i64 4, .bool false, .int .u64 0, .string Z, .int .i64 0] 39) := Lib.hid (blk_new _ _ _)
      clear hP hb2 HW hZ HNW
      go_wp2_with fail
      refine (HWT.out _ _ (by simp)).mono ?_
      rintro r w3 ⟨rfl, b3⟩
      have hP3 := P.go _ _ _ _ _ _ HP.out (up_trans (up_alloc (Below.refl _ _) _) b3)
      have HL := Lib.hid (txBq_len false j c)
      obtain ⟨h0, hh0⟩ : ∃ h0, (txPk false j).length = h0 := ⟨_, rfl⟩
      have hh1 := (txPk_le false j).2
      have hh2 := (txPk_le false j).1
      have HIX := Lib.hid (fun (a : Nat) (ha : a < (txBq false j c).length) => idx_txq (txBq false j c) a ha)
      have hsz : (⟨(txBq false j c).toArray⟩ : ByteArray).size = h0 + j := by rw [size_of, HL.out, hh0]
      rw [hh0] at hh1 hh2
      have hlb : (txBq false j c).length = h0 + j := by rw [HL.out, hh0]
      obtain ⟨X, hX⟩ : ∃ X : ByteArray, (⟨(txBq false j c).toArray⟩ : ByteArray) = X := ⟨_, rfl⟩
      rw [hX] at hsz HIX
      rw [hX]
      have HLB := Lib.hid hlb
      have HH0 := Lib.hid hh0
      have HS0 : Hid (PK wz w3 p 3 (txSq false j c 0)) := Lib.hid hP3
      have HP1 : Hid (1 ≤ h0) := Lib.hid (by omega)
      clear b3 hP3 HP hlb hh0 hX hh2 HWT hcv
      have q1 : IntKind.i64.wrap ((X.size : Int) - (j : Int)) = (h0 : Int) := by simp only [IntKind.wrap_i64]; omega
      have q4 : IntKind.i64.wrap ((X.size : Int) - 1) = (X.size : Int) - 1 := by have := HP1.out; simp only [IntKind.wrap_i64]; omega
      go_wp2
      go_loopw [14, 15, 16, 17] (fun i _ _ _ wr => ∃ (a : Nat), i = .int .i64 a ∧ a ≤ X.size ∧ Hid (PK wz wr p 3 (txSq false j c a))) (fun i _ _ _ _ => X.size - (RowKit.intOf i).toNat)
      case atStart => exact ⟨0, rfl, by omega, HS0⟩
      case round =>
        obtain ⟨a, rfl, ha, HQ⟩ := hrel
        clear HS0
        by_cases hla : a < X.size
        · have hlt2 : a < (txBq false j c).length := by rw [HLB.out]; omega
          have hix := HIX.out a hlt2
          have HST := Lib.hid (txq_step P HN2.out HCC.out hlt2 HQ.out)
          have HHE := Lib.hid (fun w4 h => txq_held P (w0 := wz) (w := w4) (p := p) (m := false) HN2.out HCC.out hlt2 h)
          have q2 : IntKind.i64.wrap ((a : Int) + 1) = (a : Int) + 1 := by simp only [IntKind.wrap_i64]; omega
          have q3 : IntKind.i64.wrap ((a : Int) + 1 - (h0 : Int)) = (a : Int) + 1 - (h0 : Int) := by simp only [IntKind.wrap_i64]; omega
          rw [HLB.out, HH0.out] at HHE
          rw [HLB.out] at HST
          generalize (txBq false j c)[a] = y at *
          clear hlt2 HQ
          by_cases hend : a + 1 = h0 + j
          · rw [if_pos hend] at HST HHE
            have q5 : ((a : Int) == (X.size : Int) - 1) = true := by rw [beq_iff_eq]; omega
            go_wp2_with fail
            refine HST.out.mono ?_
            rintro r w4 ⟨⟨a4, k4, cp4, rfl, rfl⟩, hP4⟩
            have HP4 := Lib.hid hP4
            clear hP4
            go_wp2_with fail
            refine (HHE.out _ HP4.out).mono ?_
            rintro r w5 ⟨rfl, b5⟩
            have HP5 := Lib.hid (P.go _ _ _ _ _ _ HP4.out b5)
            clear b5
            go_wp2
            go_roundw
            case rel => exact ⟨a + 1, rfl, by omega, HP5⟩
            case measure => simp [RowKit.intOf]; omega
          · rw [if_neg hend] at HST HHE
            have q5 : ((a : Int) == (X.size : Int) - 1) = false := by rw [beq_eq_false_iff_ne]; omega
            obtain ⟨hv, hhv⟩ : ∃ hv : Nat, a + 1 - h0 = hv := ⟨_, rfl⟩
            have qm : max ((a : Int) + 1 - (h0 : Int)) 0 = (hv : Int) := by omega
            rw [hhv] at HHE
            clear hhv
            go_wp2_with fail
            refine HST.out.mono ?_
            rintro r w4 ⟨⟨a4, k4, cp4, rfl, rfl⟩, hP4⟩
            have HP4 := Lib.hid hP4
            clear hP4
            go_wp2_with fail
            refine (HHE.out _ HP4.out).mono ?_
            rintro r w5 ⟨rfl, b5⟩
            have HP5 := Lib.hid (P.go _ _ _ _ _ _ HP4.out b5)
            clear b5
            go_wp2
            go_roundw
            case rel => exact ⟨a + 1, rfl, by omega, HP5⟩
            case measure => simp [RowKit.intOf]; omega
        · obtain rfl : a = X.size := by omega
          have hD := HQ.out
          have hXL : X.size = (txBq false j c).length := by rw [HLB.out]; exact hsz
          rw [hXL] at hD
          have HD := Lib.hid (txq_done P HN2.out HCC.out hD)
          have HBF := Lib.hid (HB.out.trans ((P.bel _ _ _ _ _ HQ.out).mono HB.out.size))
          clear hD hXL HQ
          go_wp2_with fail
          refine HD.out.mono ?_
          rintro r w4 ⟨rfl, rfl⟩
          go_wp2
          go_ret
          exact ⟨rfl, HBF.out⟩
set_option maxRecDepth 100000 in
set_option maxHeartbeats 16000000 in
theorem ptexts_lf (H : PinAll) {PK : World → World → Nat → Nat → Pm → Prop} (P : PinP PK) (N : Nat) (c : UInt8) (w : World) (hN : 200 < N ∧ N ≤ 300) (hc : c.toNat < 128) :
    Calls Try.prog 7 #[.int .i64 (N : Int), .int .u8 (c.toNat : Int), .bool false] w fun r w' => r = .returned (.bool true) ∧ Below w.heap.size w w' := by
  have HA := Lib.hid (palive_any H w)
  have t1 : ((300 : Int) < (N : Int)) = False := by simp; omega
  have t2 : ((128 : Int) ≤ (c.toNat : Int)) = False := by simp; omega
  have t3 : ((200 : Int) < (N : Int)) = True := by simp; omega
  have t4 : ((N : Int) ≤ 200) = False := by simp; omega
  have HCC := Lib.hid hc
  have hmk := make_zero N (by omega) N rfl
  have HF0 := Lib.hid (fun w1 (h : Below w.heap.size w w1) => FilQ.new_ (n := N) (c := c) h (by omega))
  have HNW := Lib.hid (fun W => P.new_ 3 (by omega) W)
  have HN2 := Lib.hid hN
  have HWT : Hid (∀ (W : World) (g : Nat), g = W.heap.size → Calls Try.prog 17 #[.pointer (some ⟨g, 0, none⟩), .agg #[.int .i64 3, .bool false, .int .u64 0, .string ⟨(List.replicate N c).toArray⟩, .int .i64 0]] (W.alloc (.cells #[.int .i64 3, .slice none 0 0, .bool false] 34)) fun q w' =>
      q = .returned (.tuple #[.string ⟨(txBq true N c).toArray⟩, .int .i64 0]) ∧ Below W.heap.size W w') := Lib.hid (fun W g hg => by
    subst hg
    have := wtextP_any true (List.replicate N c) (by simp; omega) W
    simp only [List.length_replicate] at this
    exact this)
  clear hc
  go_enter Try.func7, Try.ntmps7
  go_wp2_with fail
  refine HA.out.mono ?_
  rintro r w1 ⟨rfl, b1⟩
  have H0 := Lib.hid (HF0.out w1 b1)
  clear b1 HF0
  go_wp2
  go_loopw [8, 37] (fun _ i wr => ∃ (j : Nat), i = .int .i64 j ∧ j ≤ N ∧ Hid (FilQ w w1 wr w1.heap.size N j c)) (fun _ i _ => N - (RowKit.intOf i).toNat)
  case atStart => exact ⟨0, rfl, by omega, H0⟩
  case round =>
    obtain ⟨j, rfl, hj, HI⟩ := hrel
    rename World => wz
    clear H0
    by_cases hlt : j < N
    · obtain ⟨g, off, cap, hv, _, _, _, _, h3⟩ := HI.out.win.form (by omega)
      injection hv with hv1 hv2 hv3
      injection hv1 with hv1
      injection hv1 with hv4 hv5 hv6
      subst hv4 hv5
      obtain ⟨u0, hu0⟩ : ∃ u, (bCells (filQ N j c))[j]? = some u := ⟨_, List.getElem?_eq_getElem (by rw [bCells_length, filQ_len _ _ _ (by omega)]; exact hlt)⟩
      obtain ⟨x0, f0⟩ := h3 j u0 hu0
      have HI2 := Lib.hid (HI.out.set hlt)
      clear h3 hv3 hu0
      simp only [Nat.zero_add] at x0 f0 HI2
      go_wp2
      go_roundw
      case rel => exact ⟨j + 1, rfl, hlt, HI2⟩
      case measure => simp [RowKit.intOf]; omega
    · obtain rfl : j = N := by omega
      have hwin := HI.out.win
      rw [filQ_all] at hwin
      have HB := Lib.hid HI.out.below
      have HW := Lib.hid hwin
      clear hwin HI
      go_wp2_with fail
      refine (HNW.out _).mono ?_
      rintro r w2 ⟨p, rfl, hP⟩
      have hb2 := P.bel _ _ _ _ _ hP
      have hcv := conv_win (HW.out.keep fun k hk => hb2.block k (HW.out.lt k hk))
      have HP := Lib.hid hP
      have HB2 := Lib.hid (HB.out.trans (hb2.mono HB.out.size))
      obtain ⟨Z, hZ⟩ : ∃ Z : ByteArray, (⟨(List.replicate j c).toArray⟩ : ByteArray) = Z := ⟨_, rfl⟩
      rw [hZ] at hcv HWT
      have E1 : Hid (Blk (w2.alloc (.cells #[.int .i64 3, .bool false, .int .u64 0, .string Z, .int .i64 0] 39)) w2.heap.size #[.int .i64 3, .bool false, .int .u64 0, .string Z, .int .i64 0] 39) := Lib.hid (blk_new _ _ _)
      clear hP hb2 HW hZ HNW
      go_wp2_with fail
      refine (HWT.out _ _ (by simp)).mono ?_
      rintro r w3 ⟨rfl, b3⟩
      have hP3 := P.go _ _ _ _ _ _ HP.out (up_trans (up_alloc (Below.refl _ _) _) b3)
      have HL := Lib.hid (txBq_len true j c)
      obtain ⟨h0, hh0⟩ : ∃ h0, (txPk true j).length = h0 := ⟨_, rfl⟩
      have hh1 := (txPk_le true j).2
      have hh2 := (txPk_le true j).1
      have HIX := Lib.hid (fun (a : Nat) (ha : a < (txBq true j c).length) => idx_txq (txBq true j c) a ha)
      have hsz : (⟨(txBq true j c).toArray⟩ : ByteArray).size = h0 + j := by rw [size_of, HL.out, hh0]
      rw [hh0] at hh1 hh2
      have hlb : (txBq true j c).length = h0 + j := by rw [HL.out, hh0]
      obtain ⟨X, hX⟩ : ∃ X : ByteArray, (⟨(txBq true j c).toArray⟩ : ByteArray) = X := ⟨_, rfl⟩
      rw [hX] at hsz HIX
      rw [hX]
      have HLB := Lib.hid hlb
      have HH0 := Lib.hid hh0
      have HS0 : Hid (PK wz w3 p 3 (txSq true j c 0)) := Lib.hid hP3
      have HP1 : Hid (1 ≤ h0) := Lib.hid (by omega)
      clear b3 hP3 HP hlb hh0 hX hh2 HWT hcv
      have q1 : IntKind.i64.wrap ((X.size : Int) - (j : Int)) = (h0 : Int) := by simp only [IntKind.wrap_i64]; omega
      have q4 : IntKind.i64.wrap ((h0 : Int) - 1) = (h0 : Int) - 1 := by have := HP1.out; simp only [IntKind.wrap_i64]; omega
      go_wp2
      go_loopw [14, 15, 16, 17] (fun i _ _ _ wr => ∃ (a : Nat), i = .int .i64 a ∧ a < h0 ∧ Hid (PK wz wr p 3 (txSq true j c a))) (fun i _ _ _ _ => X.size - (RowKit.intOf i).toNat)
      case atStart => exact ⟨0, rfl, by have := HP1.out; omega, HS0⟩
      case round =>
        obtain ⟨a, rfl, ha, HQ⟩ := hrel
        clear HS0
        have hla : a < X.size := by omega
        have hlt2 : a < (txBq true j c).length := by rw [HLB.out]; omega
        have hix := HIX.out a hlt2
        have HST := Lib.hid (txq_large P HN2.out (by rw [HH0.out]; exact ha) hlt2 HQ.out)
        rw [HH0.out] at HST
        generalize (txBq true j c)[a] = y at *
        clear hlt2 HQ
        by_cases hend : a + 1 = h0
        · rw [if_pos hend] at HST
          have q5 : ((a : Int) == (h0 : Int) - 1) = true := by rw [beq_iff_eq]; omega
          go_wp2_with fail
          refine HST.out.mono ?_
          rintro r w4 ⟨⟨a4, cp4, rfl⟩, hP4⟩
          have HBF := Lib.hid (HB.out.trans ((P.bel _ _ _ _ _ hP4).mono HB.out.size))
          clear hP4
          go_wp2
          go_ret
          exact ⟨rfl, HBF.out⟩
        · rw [if_neg hend] at HST
          go_wp2_with fail
          refine HST.out.mono ?_
          rintro r w4 ⟨⟨a4, cp4, rfl⟩, hP4⟩
          have HP4 := Lib.hid hP4
          clear hP4
          go_wp2
          go_roundw
          case rel => exact ⟨a + 1, rfl, by omega, HP4⟩
          case measure => simp [RowKit.intOf]; omega
set_option maxRecDepth 100000 in
set_option maxHeartbeats 16000000 in
theorem ptexts_lt (H : PinAll) {PK : World → World → Nat → Nat → Pm → Prop} (P : PinP PK) (N : Nat) (c : UInt8) (w : World) (hN : 200 < N ∧ N ≤ 300) (hc : c.toNat < 128) :
    Calls Try.prog 7 #[.int .i64 (N : Int), .int .u8 (c.toNat : Int), .bool true] w fun r w' => r = .returned (.bool true) ∧ Below w.heap.size w w' := by
  have HA := Lib.hid (palive_any H w)
  have t1 : ((300 : Int) < (N : Int)) = False := by simp; omega
  have t2 : ((128 : Int) ≤ (c.toNat : Int)) = False := by simp; omega
  have t3 : ((200 : Int) < (N : Int)) = True := by simp; omega
  have t4 : ((N : Int) ≤ 200) = False := by simp; omega
  have HCC := Lib.hid hc
  have hmk := make_zero N (by omega) N rfl
  have HF0 := Lib.hid (fun w1 (h : Below w.heap.size w w1) => FilQ.new_ (n := N) (c := c) h (by omega))
  have HNW := Lib.hid (fun W => P.new_ 3 (by omega) W)
  have HN2 := Lib.hid hN
  have HWT : Hid (∀ (W : World) (g : Nat), g = W.heap.size → Calls Try.prog 17 #[.pointer (some ⟨g, 0, none⟩), .agg #[.int .i64 4, .bool false, .int .u64 0, .string ⟨(List.replicate N c).toArray⟩, .int .i64 0]] (W.alloc (.cells #[.int .i64 3, .slice none 0 0, .bool false] 34)) fun q w' =>
      q = .returned (.tuple #[.string ⟨(txBq false N c).toArray⟩, .int .i64 0]) ∧ Below W.heap.size W w') := Lib.hid (fun W g hg => by
    subst hg
    have := wtextP_any false (List.replicate N c) (by simp; omega) W
    simp only [List.length_replicate] at this
    exact this)
  clear hc
  go_enter Try.func7, Try.ntmps7
  go_wp2_with fail
  refine HA.out.mono ?_
  rintro r w1 ⟨rfl, b1⟩
  have H0 := Lib.hid (HF0.out w1 b1)
  clear b1 HF0
  go_wp2
  go_loopw [8, 37] (fun _ i wr => ∃ (j : Nat), i = .int .i64 j ∧ j ≤ N ∧ Hid (FilQ w w1 wr w1.heap.size N j c)) (fun _ i _ => N - (RowKit.intOf i).toNat)
  case atStart => exact ⟨0, rfl, by omega, H0⟩
  case round =>
    obtain ⟨j, rfl, hj, HI⟩ := hrel
    rename World => wz
    clear H0
    by_cases hlt : j < N
    · obtain ⟨g, off, cap, hv, _, _, _, _, h3⟩ := HI.out.win.form (by omega)
      injection hv with hv1 hv2 hv3
      injection hv1 with hv1
      injection hv1 with hv4 hv5 hv6
      subst hv4 hv5
      obtain ⟨u0, hu0⟩ : ∃ u, (bCells (filQ N j c))[j]? = some u := ⟨_, List.getElem?_eq_getElem (by rw [bCells_length, filQ_len _ _ _ (by omega)]; exact hlt)⟩
      obtain ⟨x0, f0⟩ := h3 j u0 hu0
      have HI2 := Lib.hid (HI.out.set hlt)
      clear h3 hv3 hu0
      simp only [Nat.zero_add] at x0 f0 HI2
      go_wp2
      go_roundw
      case rel => exact ⟨j + 1, rfl, hlt, HI2⟩
      case measure => simp [RowKit.intOf]; omega
    · obtain rfl : j = N := by omega
      have hwin := HI.out.win
      rw [filQ_all] at hwin
      have HB := Lib.hid HI.out.below
      have HW := Lib.hid hwin
      clear hwin HI
      go_wp2_with fail
      refine (HNW.out _).mono ?_
      rintro r w2 ⟨p, rfl, hP⟩
      have hb2 := P.bel _ _ _ _ _ hP
      have hcv := conv_win (HW.out.keep fun k hk => hb2.block k (HW.out.lt k hk))
      have HP := Lib.hid hP
      have HB2 := Lib.hid (HB.out.trans (hb2.mono HB.out.size))
      obtain ⟨Z, hZ⟩ : ∃ Z : ByteArray, (⟨(List.replicate j c).toArray⟩ : ByteArray) = Z := ⟨_, rfl⟩
      rw [hZ] at hcv HWT
      have E1 : Hid (Blk (w2.alloc (.cells #[.int .i64 4, .bool false, .int .u64 0, .string Z, .int .i64 0] 39)) w2.heap.size #[.int .i64 4, .bool false, .int .u64 0, .string Z, .int .i64 0] 39) := Lib.hid (blk_new _ _ _)
      clear hP hb2 HW hZ HNW
      go_wp2_with fail
      refine (HWT.out _ _ (by simp)).mono ?_
      rintro r w3 ⟨rfl, b3⟩
      have hP3 := P.go _ _ _ _ _ _ HP.out (up_trans (up_alloc (Below.refl _ _) _) b3)
      have HL := Lib.hid (txBq_len false j c)
      obtain ⟨h0, hh0⟩ : ∃ h0, (txPk false j).length = h0 := ⟨_, rfl⟩
      have hh1 := (txPk_le false j).2
      have hh2 := (txPk_le false j).1
      have HIX := Lib.hid (fun (a : Nat) (ha : a < (txBq false j c).length) => idx_txq (txBq false j c) a ha)
      have hsz : (⟨(txBq false j c).toArray⟩ : ByteArray).size = h0 + j := by rw [size_of, HL.out, hh0]
      rw [hh0] at hh1 hh2
      have hlb : (txBq false j c).length = h0 + j := by rw [HL.out, hh0]
      obtain ⟨X, hX⟩ : ∃ X : ByteArray, (⟨(txBq false j c).toArray⟩ : ByteArray) = X := ⟨_, rfl⟩
      rw [hX] at hsz HIX
      rw [hX]
      have HLB := Lib.hid hlb
      have HH0 := Lib.hid hh0
      have HS0 : Hid (PK wz w3 p 3 (txSq false j c 0)) := Lib.hid hP3
      have HP1 : Hid (1 ≤ h0) := Lib.hid (by omega)
      clear b3 hP3 HP hlb hh0 hX hh2 HWT hcv
      have q1 : IntKind.i64.wrap ((X.size : Int) - (j : Int)) = (h0 : Int) := by simp only [IntKind.wrap_i64]; omega
      have q4 : IntKind.i64.wrap ((h0 : Int) - 1) = (h0 : Int) - 1 := by have := HP1.out; simp only [IntKind.wrap_i64]; omega
      go_wp2
      go_loopw [14, 15, 16, 17] (fun i _ _ _ wr => ∃ (a : Nat), i = .int .i64 a ∧ a < h0 ∧ Hid (PK wz wr p 3 (txSq false j c a))) (fun i _ _ _ _ => X.size - (RowKit.intOf i).toNat)
      case atStart => exact ⟨0, rfl, by have := HP1.out; omega, HS0⟩
      case round =>
        obtain ⟨a, rfl, ha, HQ⟩ := hrel
        clear HS0
        have hla : a < X.size := by omega
        have hlt2 : a < (txBq false j c).length := by rw [HLB.out]; omega
        have hix := HIX.out a hlt2
        have HST := Lib.hid (txq_large P HN2.out (by rw [HH0.out]; exact ha) hlt2 HQ.out)
        rw [HH0.out] at HST
        generalize (txBq false j c)[a] = y at *
        clear hlt2 HQ
        by_cases hend : a + 1 = h0
        · rw [if_pos hend] at HST
          have q5 : ((a : Int) == (h0 : Int) - 1) = true := by rw [beq_iff_eq]; omega
          go_wp2_with fail
          refine HST.out.mono ?_
          rintro r w4 ⟨⟨a4, cp4, rfl⟩, hP4⟩
          have HBF := Lib.hid (HB.out.trans ((P.bel _ _ _ _ _ hP4).mono HB.out.size))
          clear hP4
          go_wp2
          go_ret
          exact ⟨rfl, HBF.out⟩
        · rw [if_neg hend] at HST
          go_wp2_with fail
          refine HST.out.mono ?_
          rintro r w4 ⟨⟨a4, cp4, rfl⟩, hP4⟩
          have HP4 := Lib.hid hP4
          clear hP4
          go_wp2
          go_roundw
          case rel => exact ⟨a + 1, rfl, by omega, HP4⟩
          case measure => simp [RowKit.intOf]; omega
set_option maxRecDepth 100000 in
set_option maxHeartbeats 8000000 in
theorem ptexts_out (H : PinAll) (n : Int) (c : UInt8) (o : Bool) (w : World) (h : n < 0 ∨ 300 < n ∨ 128 ≤ c.toNat) :
    Calls Try.prog 7 #[.int .i64 n, .int .u8 (c.toNat : Int), .bool o] w fun r w' => r = .returned (.bool true) ∧ Below w.heap.size w w' := by
  have HA := Lib.hid (palive_any H w)
  by_cases h1 : n < 0
  · have t1 : (n < 0) = True := by simp [h1]
    clear h h1
    go_enter Try.func7, Try.ntmps7
    go_wp2_with fail
    refine HA.out.mono ?_
    rintro r w1 ⟨rfl, b1⟩
    have B1 := Lib.hid b1
    clear b1
    go_wp2
    go_ret
    exact ⟨rfl, B1.out⟩
  · have t1 : (n < 0) = False := by simp; omega
    by_cases h2 : 300 < n
    · have t2 : (300 < n) = True := by simp [h2]
      clear h h1 h2
      go_enter Try.func7, Try.ntmps7
      go_wp2_with fail
      refine HA.out.mono ?_
      rintro r w1 ⟨rfl, b1⟩
      have B1 := Lib.hid b1
      clear b1
      go_wp2
      go_ret
      exact ⟨rfl, B1.out⟩
    · have t2 : (300 < n) = False := by simp; omega
      have t3 : ((128 : Int) ≤ (c.toNat : Int)) = True := by simp; omega
      generalize (c.toNat : Int) = C at *
      clear h h1 h2
      go_enter Try.func7, Try.ntmps7
      go_wp2_with fail
      refine HA.out.mono ?_
      rintro r w1 ⟨rfl, b1⟩
      have B1 := Lib.hid b1
      clear b1
      go_wp2
      go_ret
      exact ⟨rfl, B1.out⟩
theorem ptexts_row (H : PinAll) {PK : World → World → Nat → Nat → Pm → Prop} (P : PinP PK) (n : Int) (c : UInt8) (o : Bool) (w : World) :
    Calls Try.prog 7 #[.int .i64 n, .int .u8 c.toNat, .bool o] w fun r w' => r = .returned (.bool true) ∧ Below w.heap.size w w' := by
  by_cases h : n < 0 ∨ 300 < n ∨ 128 ≤ c.toNat
  · exact ptexts_out H n c o w h
  · obtain ⟨N, rfl⟩ : ∃ N : Nat, n = N := ⟨n.toNat, by omega⟩
    by_cases h2 : N ≤ 200
    · cases o
      · exact ptexts_sf H P N c w h2 (by omega)
      · exact ptexts_st H P N c w h2 (by omega)
    · cases o
      · exact ptexts_lf H P N c w (by omega) (by omega)
      · exact ptexts_lt H P N c w (by omega) (by omega)
end Go.Proofs.Ytebnhelejebobaa
