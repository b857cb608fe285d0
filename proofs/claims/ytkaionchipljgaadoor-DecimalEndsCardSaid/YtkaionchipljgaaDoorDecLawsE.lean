/-
  LAWS of chapter 6: DecimalEnds.
-/
import Derived.Test.YtkaionchipljgaaDoorDecLawsD
namespace Go.Proofs.YtkaionchipljgaaDoor
open Go.RowKit
open Go.Lib
theorem Runs.part {s r : Dec} {l : List UInt8} (h : Runs s l r) (b : UInt8) (t : List UInt8) (hl : l = b :: t) : (stepD s b.toNat).2 = true ∧ errD (stepD s b.toNat).1 = 0 ∧ Runs (stepD s b.toNat).1 t r := by
  cases h with
  | nil => simp at hl
  | cons h he k =>
    simp only [List.cons.injEq] at hl
    obtain ⟨rfl, rfl⟩ := hl
    rw [h]
    exact ⟨rfl, he, k⟩
theorem Runs.end_ {s r : Dec} (h : Runs s [] r) : s = r := by
  cases h
  rfl
/-- Within the law's loop. -/
structure EMid (w : World) (m : Bool) (v : Nat) (S : ByteArray) (nb : Nat) (i : Nat) (st : Dec) (wr : World) : Prop where
  bx : BX w m v wr
  lo : w.heap.size < nb
  le : i ≤ S.size
  run : Runs st (S.data.toList.drop i) (prD (m, v))
  num : DAt wr nb 0 st
theorem bx_sub {w w1 w2 : World} {m : Bool} {v nb : Nat} (hT : Tab w) (h : BX w m v w1) (hl : w.heap.size < nb) (k : Sub nb 0 5 w1 w2) : BX w m v w2 := by
  have hb := k.below (B := w.heap.size + 1) (by omega) (by have := h.lt; omega)
  have hw : Below w.heap.size w w2 := h.b.trans (hb.mono (by omega))
  exact ⟨hT.below hw, hw, Nat.lt_of_lt_of_le h.lt k.step.size, (World.cell?_of_block (w := w1) (a := ⟨w.heap.size, 0, none⟩) (hb.block _ (by simp))).trans h.c0, (World.cell?_of_block (w := w1) (a := ⟨w.heap.size, 1, none⟩) (hb.block _ (by simp))).trans h.c1⟩
theorem em_step {w wr w2 : World} {m : Bool} {v : Nat} {S : ByteArray} {nb i : Nat} {st : Dec} (hT : Tab w) (h : EMid w m v S nb i st wr) (hi : i < S.size) (hP : DPost wr nb 0 (stepD st (S[i]'hi).toNat).1 w2) :
    EMid w m v S nb (i + 1) (stepD st (S[i]'hi).toNat).1 w2 :=
  ⟨bx_sub hT h.bx h.lo hP.2, h.lo, by omega, (h.run.part _ _ (drop_at S i hi)).2.2, hP.1⟩
/-- What ends a number. -/
theorem ends_step (m : Bool) (v c : Nat) (h1 : ¬ (48 ≤ c ∧ c ≤ 57)) (h2 : c ≠ 46) (h3 : c ≠ 101) (h4 : c ≠ 69) : stepD (prD (m, v)) c = (prD (m, v), false) ∧ errD (prD (m, v)) = 0 := by
  obtain ⟨p, m', v', h, hp⟩ := prD_digit (m, v)
  rw [h]
  refine ⟨?_, rfl⟩
  simp only [stepD]
  rw [if_neg (by omega), if_neg (by omega), if_neg (by omega), if_neg (by omega)]
set_option maxHeartbeats 1000000 in
/-- The guard. -/
theorem ends_out (m : Bool) (v c : Nat) (hc : 48 ≤ c ∧ c ≤ 57 ∨ c = 46 ∨ c = 101 ∨ c = 69) (w : World) (hT : Tab w) :
    Calls Tryd.prog 5 #[.agg #[.bool m, .int .u64 v], .int .u8 c] w fun e w' => e = .returned (.bool true) ∧ Below w.heap.size w w' := by
  have BX0 := Lib.hid (bx_new m v hT 24)
  rcases hc with ⟨h1, h2⟩ | rfl | rfl | rfl
  · have a1 : ((48 : Int) ≤ (c : Int)) = True := by simp; omega
    have a2 : ((c : Int) ≤ 57) = True := by simp; omega
    clear h1 h2
    go_enter Tryd.func5, Tryd.ntmps5
    go_wp2_with fail
    refine (alive_any _ BX0.out.t).mono ?_
    rintro e w1 ⟨rfl, b1⟩
    have BX1 := Lib.hid (BX0.out.go b1)
    clear b1
    go_wp2
    go_ret
    exact ⟨rfl, BX1.out.b⟩
  iterate 3
    · go_enter Tryd.func5, Tryd.ntmps5
      go_wp2_with fail
      refine (alive_any _ BX0.out.t).mono ?_
      rintro e w1 ⟨rfl, b1⟩
      have BX1 := Lib.hid (BX0.out.go b1)
      clear b1
      go_wp2
      go_ret
      exact ⟨rfl, BX1.out.b⟩
set_option maxHeartbeats 2000000 in
theorem ends_core (m : Bool) (v c : Nat) (S : ByteArray) (hS : S = ⟨(printD (m, v)).toArray⟩) (hSs : S.size ≤ 21) (hv : v < 18446744073709551616) (hc : ¬ (48 ≤ c ∧ c ≤ 57)) (h2 : c ≠ 46) (h3 : c ≠ 101) (h4 : c ≠ 69) (w : World) (hT : Tab w) :
    Calls Tryd.prog 5 #[.agg #[.bool m, .int .u64 v], .int .u8 c] w fun e w' => e = .returned (.bool true) ∧ Below w.heap.size w w' := by
  have BX0 := Lib.hid (bx_new m v hT 24)
  have PP := Lib.hid (fun w hT => print_lit m v S w hv hT hS)
  have hrun : Runs d0 (S.data.toList.drop 0) (prD (m, v)) := by
    rw [hS]
    simpa using runs_print (m, v)
  have HR := Lib.hid hrun
  have HE := Lib.hid (ends_step m v c hc h2 h3 h4)
  have HEE := Lib.hid (end_print (m, v) hv)
  have z1 : ((c : Int) == 46) = false := by rw [beq_eq_false_iff_ne]; omega
  have z2 : ((c : Int) == 101) = false := by rw [beq_eq_false_iff_ne]; omega
  have z3 : ((c : Int) == 69) = false := by rw [beq_eq_false_iff_ne]; omega
  clear hrun hS h2 h3 h4
  by_cases c48 : 48 ≤ c
  · have y1 : ((48 : Int) ≤ (c : Int)) = True := by simp; omega
    have y2 : ((c : Int) ≤ 57) = False := by simp; omega
    clear c48 hc
    go_enter Tryd.func5, Tryd.ntmps5
    go_wp2_with fail
    refine (alive_any _ BX0.out.t).mono ?_
    rintro e w1 ⟨rfl, b1⟩
    have BX1 := Lib.hid (BX0.out.go b1)
    have k0 := (BX1.out.alloc (.cells #[.int .i64 0, .int .i64 0, .bool false, .int .u64 0, .int .u64 0] 34)).c0
    have k1 := (BX1.out.alloc (.cells #[.int .i64 0, .int .i64 0, .bool false, .int .u64 0, .int .u64 0] 34)).c1
    have hl := BX1.out.lt
    clear b1
    go_wp2_with fail
    refine (PP.out _ (BX1.out.alloc _).t).mono ?_
    rintro e w2 ⟨rfl, b2⟩
    have hb : w2.heap[w1.heap.size]? = some (.cells #[.int .i64 0, .int .i64 0, .bool false, .int .u64 0, .int .u64 0] 34 (0, 0)) := (b2.block _ (by simp)).trans (heap_new w1 _)
    have H0 : Hid (EMid w m v S w1.heap.size 0 d0 w2) := Lib.hid ⟨(BX1.out.alloc _).go b2, hl, Nat.zero_le _, HR.out, (dat_new w1 34).below b2 (by simp)⟩
    clear b2 hb k0 k1 hl HR
    go_wp2
    go_loopw [7, 8, 9] (fun vi _ _ wr => ∃ (i : Nat) (st : Dec), vi = .int .i64 i ∧ Hid (EMid w m v S w1.heap.size i st wr)) (fun vi _ _ _ => S.size - (RowKit.intOf vi).toNat)
    case atStart => exact ⟨0, d0, rfl, H0⟩
    case round =>
      obtain ⟨i, st, rfl, HM⟩ := hrel
      have hle := HM.out.le
      by_cases hi : i < S.size
      · obtain ⟨q1, q2, _⟩ := HM.out.run.part _ _ (drop_at S i hi)
        have hS := dstep_at HM.out.num (S[i]'hi).toNat
        rw [q1, q2] at hS
        have hnew := fun w2 => em_step (w2 := w2) hT HM.out hi
        generalize (stepD st (S[i]'hi).toNat).1 = st2 at hS hnew
        have HS := Lib.hid hS
        have HN := Lib.hid hnew
        obtain ⟨x, hx⟩ : ∃ x, (S[i]'hi).toNat = x := ⟨_, rfl⟩
        rw [hx] at HS
        clear hS hnew q1 q2 HM H0
        go_wp2_with fail
        refine HS.out.mono ?_
        rintro e w3 ⟨rfl, hP⟩
        have HM2 := Lib.hid (HN.out w3 hP)
        clear hP HN HS
        go_wp2
        go_roundw
        case rel => exact ⟨i + 1, st2, by simp, HM2⟩
        case measure => simp only [RowKit.intOf]; omega
      · have hrun := HM.out.run
        rw [List.drop_of_length_le (by rw [list_size]; omega)] at hrun
        have hst := hrun.end_
        subst hst
        have hbx := HM.out.bx
        have hlo := HM.out.lo
        have hnum := HM.out.num
        obtain ⟨e1, e2⟩ := HE.out
        have hS := dstep_at hnum c
        rw [e1, e2] at hS
        have HS := Lib.hid hS
        have HB := Lib.hid hbx
        clear hS hrun hbx hnum HM H0 e1 e2 hle
        have hi' : ((i : Int) < (S.size : Int)) = False := by simp; omega
        clear hi
        go_wp2_with fail
        refine HS.out.mono ?_
        rintro e w3 ⟨rfl, hP⟩
        have HB3 := Lib.hid (bx_sub hT HB.out hlo hP.2)
        have hE := dend_at hP.1
        rw [HEE.out] at hE
        have HD := Lib.hid hP.1
        have hl3 := hP.1.lt
        have HE3 := Lib.hid hE
        clear hP hE HS HB
        go_wp2_with fail
        refine HE3.out.mono ?_
        rintro e w4 ⟨rfl, b4⟩
        have HB4 := Lib.hid (HB3.out.go b4)
        have hD4 : DAt (w4.alloc (.cells #[.bool m, .int .u64 v] 24)) w1.heap.size 0 (prD (m, v)) := (HD.out.below b4 hl3).below ((Below.refl w4.heap.size w4).alloc (Nat.le_refl _) _) (Nat.lt_of_lt_of_le hl3 b4.size)
        have hE := dend_at hD4
        rw [HEE.out] at hE
        have HE4 := Lib.hid hE
        clear b4 hD4 hE HD HE3
        go_wp2_with fail
        refine HE4.out.mono ?_
        rintro e w5 ⟨rfl, b5⟩
        obtain ⟨x0, _⟩ := new_cells b5 0 _ rfl
        obtain ⟨x1, _⟩ := new_cells b5 1 _ rfl
        have hl5 : w4.heap.size < w5.heap.size := by have := b5.size; simp at this; omega
        have HB5 := Lib.hid ((HB4.out.alloc _).go b5)
        have k0 := HB5.out.c0
        have k1 := HB5.out.c1
        have hl6 := HB5.out.lt
        clear b5 HE4
        go_wp2
        go_ret
        exact ⟨rfl, (HB5.out.alloc _).b⟩
  · have y1 : ((48 : Int) ≤ (c : Int)) = False := by simp; omega
    clear c48 hc
    go_enter Tryd.func5, Tryd.ntmps5
    go_wp2_with fail
    refine (alive_any _ BX0.out.t).mono ?_
    rintro e w1 ⟨rfl, b1⟩
    have BX1 := Lib.hid (BX0.out.go b1)
    have k0 := (BX1.out.alloc (.cells #[.int .i64 0, .int .i64 0, .bool false, .int .u64 0, .int .u64 0] 34)).c0
    have k1 := (BX1.out.alloc (.cells #[.int .i64 0, .int .i64 0, .bool false, .int .u64 0, .int .u64 0] 34)).c1
    have hl := BX1.out.lt
    clear b1
    go_wp2_with fail
    refine (PP.out _ (BX1.out.alloc _).t).mono ?_
    rintro e w2 ⟨rfl, b2⟩
    have hb : w2.heap[w1.heap.size]? = some (.cells #[.int .i64 0, .int .i64 0, .bool false, .int .u64 0, .int .u64 0] 34 (0, 0)) := (b2.block _ (by simp)).trans (heap_new w1 _)
    have H0 : Hid (EMid w m v S w1.heap.size 0 d0 w2) := Lib.hid ⟨(BX1.out.alloc _).go b2, hl, Nat.zero_le _, HR.out, (dat_new w1 34).below b2 (by simp)⟩
    clear b2 hb k0 k1 hl HR
    go_wp2
    go_loopw [7, 8, 9] (fun vi _ _ wr => ∃ (i : Nat) (st : Dec), vi = .int .i64 i ∧ Hid (EMid w m v S w1.heap.size i st wr)) (fun vi _ _ _ => S.size - (RowKit.intOf vi).toNat)
    case atStart => exact ⟨0, d0, rfl, H0⟩
    case round =>
      obtain ⟨i, st, rfl, HM⟩ := hrel
      have hle := HM.out.le
      by_cases hi : i < S.size
      · obtain ⟨q1, q2, _⟩ := HM.out.run.part _ _ (drop_at S i hi)
        have hS := dstep_at HM.out.num (S[i]'hi).toNat
        rw [q1, q2] at hS
        have hnew := fun w2 => em_step (w2 := w2) hT HM.out hi
        generalize (stepD st (S[i]'hi).toNat).1 = st2 at hS hnew
        have HS := Lib.hid hS
        have HN := Lib.hid hnew
        obtain ⟨x, hx⟩ : ∃ x, (S[i]'hi).toNat = x := ⟨_, rfl⟩
        rw [hx] at HS
        clear hS hnew q1 q2 HM H0
        go_wp2_with fail
        refine HS.out.mono ?_
        rintro e w3 ⟨rfl, hP⟩
        have HM2 := Lib.hid (HN.out w3 hP)
        clear hP HN HS
        go_wp2
        go_roundw
        case rel => exact ⟨i + 1, st2, by simp, HM2⟩
        case measure => simp only [RowKit.intOf]; omega
      · have hrun := HM.out.run
        rw [List.drop_of_length_le (by rw [list_size]; omega)] at hrun
        have hst := hrun.end_
        subst hst
        have hbx := HM.out.bx
        have hlo := HM.out.lo
        have hnum := HM.out.num
        obtain ⟨e1, e2⟩ := HE.out
        have hS := dstep_at hnum c
        rw [e1, e2] at hS
        have HS := Lib.hid hS
        have HB := Lib.hid hbx
        clear hS hrun hbx hnum HM H0 e1 e2 hle
        have hi' : ((i : Int) < (S.size : Int)) = False := by simp; omega
        clear hi
        go_wp2_with fail
        refine HS.out.mono ?_
        rintro e w3 ⟨rfl, hP⟩
        have HB3 := Lib.hid (bx_sub hT HB.out hlo hP.2)
        have hE := dend_at hP.1
        rw [HEE.out] at hE
        have HD := Lib.hid hP.1
        have hl3 := hP.1.lt
        have HE3 := Lib.hid hE
        clear hP hE HS HB
        go_wp2_with fail
        refine HE3.out.mono ?_
        rintro e w4 ⟨rfl, b4⟩
        have HB4 := Lib.hid (HB3.out.go b4)
        have hD4 : DAt (w4.alloc (.cells #[.bool m, .int .u64 v] 24)) w1.heap.size 0 (prD (m, v)) := (HD.out.below b4 hl3).below ((Below.refl w4.heap.size w4).alloc (Nat.le_refl _) _) (Nat.lt_of_lt_of_le hl3 b4.size)
        have hE := dend_at hD4
        rw [HEE.out] at hE
        have HE4 := Lib.hid hE
        clear b4 hD4 hE HD HE3
        go_wp2_with fail
        refine HE4.out.mono ?_
        rintro e w5 ⟨rfl, b5⟩
        obtain ⟨x0, _⟩ := new_cells b5 0 _ rfl
        obtain ⟨x1, _⟩ := new_cells b5 1 _ rfl
        have hl5 : w4.heap.size < w5.heap.size := by have := b5.size; simp at this; omega
        have HB5 := Lib.hid ((HB4.out.alloc _).go b5)
        have k0 := HB5.out.c0
        have k1 := HB5.out.c1
        have hl6 := HB5.out.lt
        clear b5 HE4
        go_wp2
        go_ret
        exact ⟨rfl, (HB5.out.alloc _).b⟩
theorem ends_any (m : Bool) (v : Nat) (c : Int) (hv : v < 18446744073709551616) (hc : 0 ≤ c ∧ c ≤ 255) (w : World) (hT : Tab w) :
    Calls Tryd.prog 5 #[.agg #[.bool m, .int .u64 v], .int .u8 c] w fun e w' => e = .returned (.bool true) ∧ Below w.heap.size w w' := by
  obtain ⟨c, rfl⟩ : ∃ n : Nat, c = n := ⟨c.toNat, by omega⟩
  by_cases h : 48 ≤ c ∧ c ≤ 57 ∨ c = 46 ∨ c = 101 ∨ c = 69
  · exact ends_out m v c h w hT
  · exact ends_core m v c _ rfl (by rw [size_of]; exact print_len (m, v) hv) hv (by omega) (by omega) (by omega) (by omega) w hT
end Go.Proofs.YtkaionchipljgaaDoor
