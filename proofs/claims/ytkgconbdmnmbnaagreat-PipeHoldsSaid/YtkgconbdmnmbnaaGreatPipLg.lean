/-
  LAW of chapter 18: PipeHolds.
-/
import Derived.Test.YtkgconbdmnmbnaaGreatPipHe
import Derived.BigQuiet
namespace Go.Proofs.YtkgconbdmnmbnaaGreat
open Go.RowKit
open Go.Lib
/-- In the loop: a Pipe behind j bytes. -/
structure HoI (w2 wr : World) (pb D S j : Nat) (F : List Nat) (sj : Pp) : Prop where
  pip : PipAt w2 wr pb D S F sj
  wf : WfPp D S j sj
theorem HoI.dr {w2 wr : World} {pb D S j : Nat} {F : List Nat} {sj : Pp} (h : HoI w2 wr pb D S j F sj) (n : Nat) : HoI w2 (wr.drewN n) pb D S j F sj := ⟨h.pip.keep (fun _ _ => rfl) (below_dr h.pip.bel n), h.wf⟩
theorem HoI.held {w2 wr : World} {pb D S j : Nat} {F : List Nat} {sj : Pp} (h : HoI w2 wr pb D S j F sj) (hD : D ≤ 16) (hS : S ≤ 2000) (n : Nat) :
    Calls Tryz.prog 16 #[.pointer (some ⟨pb, 0, none⟩)] (wr.drewN n) fun r w' => r = .returned (.int .i64 ((heldPp sj : Nat) : Int)) ∧ ∃ m, w' = (wr.drewN n).drewN m := piheld_any (h.dr n).pip h.wf hD hS
theorem HoI.over {w2 wr : World} {pb D S j : Nat} {F : List Nat} {sj : Pp} (h : HoI w2 wr pb D S j F sj) (n : Nat) :
    Calls Tryz.prog 17 #[.pointer (some ⟨pb, 0, none⟩)] (wr.drewN n) fun r w' => r = .returned (.bool (ovPp sj)) ∧ w' = wr.drewN n := (pov_any (h.dr n).pip).mono fun _ _ h => ⟨h.1, h.2.symm⟩
set_option maxRecDepth 100000 in
set_option maxHeartbeats 16000000 in
theorem holds_any (f t D S L : Int) (B : ByteArray) (w : World) (hP : PrintX w) :
    Calls Tryz.prog 4 #[suV f t D S L, .string B] w fun r w' => r = .returned (.bool true) ∧ Below w.heap.size w w' := by
  have HAL := Lib.hid (fun (W : World) (k : Below w.heap.size w W) => pialive_any (hP.up k))
  have H0 : Hid (SuI w (w.alloc (.cells #[.int .i64 f, .int .i64 t, .int .i64 D, .int .i64 S, .int .i64 L] 23)) f t D S L) := Lib.hid ⟨up_alloc (Below.refl _ _) _, blk_new _ _ _⟩
  by_cases hB : 300 < B.size
  · unfold suV
    clear hP
    go_enter Tryz.func4, Tryz.ntmps4
    go_wp2_with fail
    refine (HAL.out _ H0.out.bel).mono ?_
    rintro r w1 ⟨rfl, b1⟩
    have H1 := Lib.hid (H0.out.go b1)
    clear b1
    go_wp2
    go_ret
    exact ⟨rfl, H1.out.bel⟩
  by_cases hR : RightP f t D S L
  case neg =>
    have HR := Lib.hid (fun W => piright_any f t D S L W)
    rw [decide_eq_false hR] at HR
    have HN := Lib.hid (fun W => pinew_no f t D S L hR W)
    unfold suV at HR HN ⊢
    clear hP hR
    go_enter Tryz.func4, Tryz.ntmps4
    go_wp2_with fail
    refine (HAL.out _ H0.out.bel).mono ?_
    rintro r w1 ⟨rfl, b1⟩
    have H1 := Lib.hid (H0.out.go b1)
    obtain ⟨c0, c1, c2, c3, c4⟩ := (H0.out.go b1).cells
    clear b1
    go_wp2_with fail
    refine (HN.out _).mono ?_
    rintro r w2 ⟨rfl, b2⟩
    have H2 := Lib.hid (H1.out.go b2)
    obtain ⟨d0, d1, d2, d3, d4⟩ := (H1.out.go b2).cells
    clear b2 c0 c1 c2 c3 c4
    go_wp2_with fail
    refine (HR.out _).mono ?_
    rintro r w3 ⟨rfl, b3⟩
    have H3 := Lib.hid (H2.out.go b3)
    clear b3
    go_wp2
    go_ret
    exact ⟨rfl, H3.out.bel⟩
  obtain ⟨d, rfl⟩ : ∃ d : Nat, D = d := ⟨D.toNat, by have := hR.2.2.1; unfold inP3 at this; omega⟩
  obtain ⟨s, rfl⟩ : ∃ s : Nat, S = s := ⟨S.toNat, by have := hR.2.2.2.1; unfold inP3 at this; omega⟩
  have hD : 1 ≤ d ∧ d ≤ 16 := by have := hR.2.2.1; unfold inP3 at this; omega
  have hS : s ≤ 2000 := by have := hR.2.2.2.1; unfold inP3 at this; omega
  obtain ⟨pr, hPr, _⟩ := hP
  have HN := Lib.hid (fun (W : World) (k : Below w.heap.size w W) => pinew_ok (hPr.up k) f t L d s hR)
  have HW0 := Lib.hid (wfPp_0 d s pr f t)
  generalize pp0 pr f t = s0 at *
  have HDS := Lib.hid (And.intro hD hS)
  have hx : B.size ≤ 300 := by omega
  have e1 : IntKind.i64.wrap (200 + (s : Int)) = 200 + (s : Int) := by simp only [IntKind.wrap_i64]; omega
  have e2 : IntKind.i64.wrap (200 + (s : Int) + (d : Int)) = 200 + (s : Int) + (d : Int) := by simp only [IntKind.wrap_i64]; omega
  clear hR hPr hB
  unfold suV at HN ⊢
  go_enter Tryz.func4, Tryz.ntmps4
  go_wp2_with fail
  refine (HAL.out _ H0.out.bel).mono ?_
  rintro r w2 ⟨rfl, b2⟩
  have H2 := Lib.hid (H0.out.go b2)
  obtain ⟨c0, c1, c2, c3, c4⟩ := (H0.out.go b2).cells
  clear b2 H0
  go_wp2_with fail
  refine (HN.out _ H2.out.bel).mono ?_
  rintro r w3 ⟨pb, F0, rfl, hp⟩
  have HI0 : Hid (HoI w2 w3 pb d s 0 F0 s0) := Lib.hid ⟨hp, HW0.out⟩
  clear hp
  go_wp2
  go_loopw [6] (fun vi wr => ∃ (j : Nat) (F : List Nat) (sj : Pp), vi = .int .i64 j ∧ j ≤ B.size ∧ Hid (HoI w2 wr pb d s j F sj)) (fun vi _ => B.size - (RowKit.intOf vi).toNat)
  case atStart => exact ⟨0, _, _, rfl, by omega, HI0⟩
  case round =>
    obtain ⟨j, F, sj, rfl, hj, HI⟩ := hrel
    rename World => wr
    clear HI0 HW0 c0 c1 c2 c3 c4
    by_cases hlt : j < B.size
    · have hjM : j ≤ 430 := by omega
      obtain ⟨y, hy⟩ : ∃ y, B[j] = y := ⟨_, rfl⟩
      have HS := Lib.hid (pistep_any HI.out.pip HI.out.wf hjM HDS.out.1 HDS.out.2 y)
      have hwn := wfPp_step HDS.out.1.2 HDS.out.2 HI.out.wf y
      generalize stepPp d s sj y = Q at *
      obtain ⟨s2, T, e⟩ := Q
      simp only [PipR] at HS
      simp only at hwn
      have HH := Lib.hid hwn
      generalize (⟨T.toArray⟩ : ByteArray) = Z at *
      clear hwn hjM
      go_wp2_with fail
      refine HS.out.mono ?_
      rintro r w4 ⟨rfl, F2, hp2, hs2⟩
      have H4 : Hid (HoI w2 w4 pb d s (j + 1) F2 s2) := Lib.hid ⟨hp2, HH.out⟩
      obtain ⟨d0, d1, d2, d3, d4⟩ := (H2.out.go hp2.bel).cells
      have hbd := held_pp HDS.out.1.2 HH.out
      clear hp2 hs2 HS HH d0 d1 d4 HI
      have HE := Lib.hid (fun n => H4.out.held HDS.out.1.2 HDS.out.2 n)
      have HV := Lib.hid (fun n => H4.out.over n)
      cases s2 with
      | over x =>
        simp only [heldPp] at HE
        simp only [ovPp] at HV
        have g1 : decide ((((0 : Nat) : Int)) < 0) = false := by decide
        have g2 : decide (200 + (s : Int) + (d : Int) < ((0 : Nat) : Int)) = false := by rw [decide_eq_false_iff_not]; omega
        have g3 : (((0 : Nat) : Int) != 0) = false := by decide
        go_wp2
        go_quiet ((first | (go_at_call 16; exact Calls.quiet_of (HE.out _)) | (go_at_call 17; exact Calls.quiet_of_same (HV.out _))))
        have H5 := fun n => H4.out.dr n
        go_wp2
        refine ⟨⟨j + 1, _, _, rfl, hlt, Lib.hid (H5 _)⟩, ?_⟩
        simp [RowKit.intOf]
        omega
      | live r5 g5 q5 =>
        simp only [ovPp] at HV
        generalize heldPp (.live r5 g5 q5) = x at *
        have g1 : decide ((x : Int) < 0) = false := by rw [decide_eq_false_iff_not]; omega
        have g2 : decide (200 + (s : Int) + (d : Int) < (x : Int)) = false := by rw [decide_eq_false_iff_not]; omega
        go_wp2
        go_quiet ((first | (go_at_call 16; exact Calls.quiet_of (HE.out _)) | (go_at_call 17; exact Calls.quiet_of_same (HV.out _))))
        have H5 := fun n => H4.out.dr n
        go_wp2
        refine ⟨⟨j + 1, _, _, rfl, hlt, Lib.hid (H5 _)⟩, ?_⟩
        simp [RowKit.intOf]
        omega
    · have HB := Lib.hid (H2.out.go HI.out.pip.bel).bel
      go_wp2
      go_ret
      exact ⟨rfl, HB.out⟩
end Go.Proofs.YtkgconbdmnmbnaaGreat
