/-
  LAW of chapter 18: PipeOver.
-/
import Derived.Test.YtkgconbdmnmbnaaGreatG2c
import Derived.Test.YtkgconbdmnmbnaaGreatG1g
namespace Go.Proofs.YtkgconbdmnmbnaaGreat
open Go.RowKit
open Go.Lib
/-- In the first loop: a Pipe behind j bytes; the last error. -/
structure OvI (w2 wr : World) (pb D S j : Nat) (F : List Nat) (sj : Pp) (e : Nat) : Prop where
  pip : PipAt w2 wr pb D S F sj
  wf : WfPp D S j sj
  over : e ≠ 0 → ∃ x, sj = .over x ∧ overE x = e
theorem end_over (D lim : Nat) (s : Pp) : ∃ x, (endPp D lim s).1 = .over x ∧ overE x = if (endPp D lim s).2.2 = 0 then 14 else (endPp D lim s).2.2 := by
  cases s with
  | over e =>
    refine ⟨e, rfl, ?_⟩
    show overE e = if overE e = 0 then 14 else overE e
    unfold overE
    split <;> simp_all
  | live r g q => exact ⟨_, rfl, rfl⟩
set_option maxRecDepth 100000 in
set_option maxHeartbeats 16000000 in
theorem over_any (f t D S L : Int) (B C : ByteArray) (w : World) (hP : PrintX w) :
    Calls Tryz.prog 5 #[suV f t D S L, .string B, .string C] w fun r w' => r = .returned (.bool true) ∧ Below w.heap.size w w' := by
  have HAL := Lib.hid (fun (W : World) (k : Below w.heap.size w W) => pialive_any (hP.up k))
  have H0 : Hid (SuI w (w.alloc (.cells #[.int .i64 f, .int .i64 t, .int .i64 D, .int .i64 S, .int .i64 L] 23)) f t D S L) := Lib.hid ⟨up_alloc (Below.refl _ _) _, blk_new _ _ _⟩
  by_cases hB : 200 < B.size
  · unfold suV
    clear hP
    go_enter Tryz.func5, Tryz.ntmps5
    go_wp2_with fail
    refine (HAL.out _ H0.out.bel).mono ?_
    rintro r w1 ⟨rfl, b1⟩
    have H1 := Lib.hid (H0.out.go b1)
    clear b1
    go_wp2
    go_ret
    exact ⟨rfl, H1.out.bel⟩
  by_cases hC : 60 < C.size
  · unfold suV
    clear hP
    go_enter Tryz.func5, Tryz.ntmps5
    go_wp2_with fail
    refine (HAL.out _ H0.out.bel).mono ?_
    rintro r w1 ⟨rfl, b1⟩
    have H1 := Lib.hid (H0.out.go b1)
    clear b1
    go_wp2
    go_ret
    exact ⟨rfl, H1.out.bel⟩
  by_cases hR : RightP f t D S L
  case neg =>
    have HR := Lib.hid (fun W => piright_any f t D S L W)
    rw [decide_eq_false hR] at HR
    have HN := Lib.hid (fun W => pinew_no f t D S L hR W)
    unfold suV at HR HN ⊢
    clear hP hR
    go_enter Tryz.func5, Tryz.ntmps5
    go_wp2_with fail
    refine (HAL.out _ H0.out.bel).mono ?_
    rintro r w1 ⟨rfl, b1⟩
    have H1 := Lib.hid (H0.out.go b1)
    obtain ⟨c0, c1, c2, c3, c4⟩ := (H0.out.go b1).cells
    clear b1
    go_wp2_with fail
    refine (HN.out _).mono ?_
    rintro r w2 ⟨rfl, b2⟩
    have H2 := Lib.hid (H1.out.go b2)
    obtain ⟨d0, d1, d2, d3, d4⟩ := (H1.out.go b2).cells
    clear b2 c0 c1 c2 c3 c4
    go_wp2_with fail
    refine (HR.out _).mono ?_
    rintro r w3 ⟨rfl, b3⟩
    have H3 := Lib.hid (H2.out.go b3)
    clear b3
    go_wp2
    go_ret
    exact ⟨rfl, H3.out.bel⟩
  obtain ⟨d, rfl⟩ : ∃ d : Nat, D = d := ⟨D.toNat, by have := hR.2.2.1; unfold inP3 at this; omega⟩
  obtain ⟨s, rfl⟩ : ∃ s : Nat, S = s := ⟨S.toNat, by have := hR.2.2.2.1; unfold inP3 at this; omega⟩
  have hD : 1 ≤ d ∧ d ≤ 16 := by have := hR.2.2.1; unfold inP3 at this; omega
  have hS : s ≤ 2000 := by have := hR.2.2.2.1; unfold inP3 at this; omega
  obtain ⟨pr, hPr, _⟩ := hP
  have HN := Lib.hid (fun (W : World) (k : Below w.heap.size w W) => pinew_ok (hPr.up k) f t L d s hR)
  have HW0 := Lib.hid (wfPp_0 d s pr f t)
  generalize pp0 pr f t = s0 at *
  have HDS := Lib.hid (And.intro hD hS)
  have hx : B.size ≤ 200 := by omega
  have hz : C.size ≤ 60 := by omega
  clear hR hD hS hPr hB hC
  unfold suV at HN ⊢
  go_enter Tryz.func5, Tryz.ntmps5
  go_wp2_with fail
  refine (HAL.out _ H0.out.bel).mono ?_
  rintro r w2 ⟨rfl, b2⟩
  have H2 := Lib.hid (H0.out.go b2)
  obtain ⟨c0, c1, c2, c3, c4⟩ := (H0.out.go b2).cells
  clear b2 H0
  go_wp2_with fail
  refine (HN.out _ H2.out.bel).mono ?_
  rintro r w3 ⟨pb, F0, rfl, hp⟩
  have HI0 : Hid (OvI w2 w3 pb d s 0 F0 s0 0) := Lib.hid ⟨hp, HW0.out, fun h => absurd rfl h⟩
  clear hp
  go_wp2
  go_loopw [8, 9] (fun ve vi wr => ∃ (j e : Nat) (F : List Nat) (sj : Pp), ve = .int .i64 e ∧ vi = .int .i64 j ∧ j ≤ B.size ∧ (e ≠ 0 → 1 ≤ j) ∧ Hid (OvI w2 wr pb d s j F sj e)) (fun _ vi _ => B.size - (RowKit.intOf vi).toNat)
  case atStart => exact ⟨0, 0, _, _, rfl, rfl, by omega, fun h => absurd rfl h, HI0⟩
  case round =>
    obtain ⟨j, e, F, sj, rfl, rfl, hj, hj1, HI⟩ := hrel
    rename World => wr
    clear HI0 HW0
    by_cases he : e = 0
    · subst he
      have he0 : ((((0 : Nat) : Int)) == 0) = true := rfl
      by_cases hlt : j < B.size
      · have hjM : j ≤ 430 := by omega
        obtain ⟨y, hy⟩ : ∃ y, B[j] = y := ⟨_, rfl⟩
        have HS := Lib.hid (pistep_any HI.out.pip HI.out.wf hjM HDS.out.1 HDS.out.2 y)
        have hwn := wfPp_step HDS.out.1.2 HDS.out.2 HI.out.wf y
        have hov : (stepPp d s sj y).2.2 ≠ 0 → ∃ x, (stepPp d s sj y).1 = .over x ∧ overE x = (stepPp d s sj y).2.2 := fun h => step_err_over h
        generalize stepPp d s sj y = Q at *
        obtain ⟨s2, T, e2⟩ := Q
        simp only [PipR] at HS
        simp only at hwn hov
        have HH := Lib.hid (And.intro hwn hov)
        clear hwn hov hjM he0
        generalize (⟨T.toArray⟩ : ByteArray) = Z at *
        go_wp2_with fail
        refine HS.out.mono ?_
        rintro r w4 ⟨rfl, F2, hp2, hs2⟩
        have HN2 : Hid (OvI w2 w4 pb d s (j + 1) F2 s2 e2) := Lib.hid ⟨hp2, HH.out.1, HH.out.2⟩
        clear hp2 hs2 HS HH
        go_wp2
        refine ⟨⟨j + 1, e2, _, _, rfl, rfl, hlt, fun _ => by omega, HN2⟩, ?_⟩
        simp [RowKit.intOf]
        omega
      · have hjM : j ≤ 430 := by omega
        have HS := Lib.hid (piend_any HI.out.pip HI.out.wf hjM HDS.out.1 HDS.out.2)
        have hov := end_over d s sj
        generalize endPp d s sj = Q at *
        obtain ⟨s2, T, e2⟩ := Q
        simp only [PipR] at HS
        simp only at hov
        have HOV := Lib.hid hov
        generalize (⟨T.toArray⟩ : ByteArray) = Z at *
        clear hov hjM he0
        go_wp2_with fail
        refine HS.out.mono ?_
        rintro r w4 ⟨rfl, F2, hp2, hs2⟩
        obtain ⟨x, hx1, hx2⟩ := HOV.out
        subst hx1
        have HO := Lib.hid hp2
        clear hp2 hs2 HS HOV
        by_cases h0 : e2 = 0
        · subst h0
          rw [if_pos rfl] at hx2
          have HG := Lib.hid hx2
          clear hx2
          go_wp2
          go_loopw [10, 11, 12] (fun vi _ _ wq => ∃ (k : Nat) (F : List Nat), vi = .int .i64 k ∧ k ≤ C.size ∧ Hid (PipAt w2 wq pb d s F (.over x))) (fun vi _ _ _ => C.size - (RowKit.intOf vi).toNat)
          case atStart => exact ⟨0, _, rfl, by omega, HO⟩
          case round =>
            obtain ⟨k, F3, rfl, hk, HK⟩ := hrel
            rename World => wq
            clear HO
            by_cases hk2 : k < C.size
            · obtain ⟨y2, hy2⟩ : ∃ y, C[k] = y := ⟨_, rfl⟩
              have HS3 := Lib.hid (pistep_any HK.out trivial (Nat.zero_le 430) HDS.out.1 HDS.out.2 y2)
              simp only [stepPp, PipR] at HS3
              rw [HG.out] at HS3
              go_wp2_with fail
              refine HS3.out.mono ?_
              rintro r w6 ⟨rfl, F4, hp4, _⟩
              have HK2 := Lib.hid hp4
              clear hp4 HS3
              go_wp2
              refine ⟨⟨k + 1, _, rfl, hk2, HK2⟩, ?_⟩
              simp [RowKit.intOf]
              omega
            · have HE := Lib.hid (piend_any HK.out trivial (Nat.zero_le 430) HDS.out.1 HDS.out.2)
              simp only [endPp, PipR] at HE
              rw [HG.out] at HE
              go_wp2_with fail
              refine HE.out.mono ?_
              rintro r w6 ⟨rfl, F4, hp4, _⟩
              have HV := Lib.hid (pov_any hp4)
              have HB6 := Lib.hid (H2.out.go hp4.bel).bel
              simp only [ovPp] at HV
              clear hp4 HE
              go_wp2_with fail
              refine HV.out.mono ?_
              rintro r w7 ⟨rfl, rfl⟩
              go_wp2
              go_ret
              exact ⟨rfl, HB6.out⟩
        · have hne : ((e2 : Int) == 0) = false := by rw [beq_eq_false_iff_ne]; omega
          rw [if_neg h0] at hx2
          have HG := Lib.hid hx2
          clear hx2
          go_wp2
          go_loopw [10, 11, 12] (fun vi _ _ wq => ∃ (k : Nat) (F : List Nat), vi = .int .i64 k ∧ k ≤ C.size ∧ Hid (PipAt w2 wq pb d s F (.over x))) (fun vi _ _ _ => C.size - (RowKit.intOf vi).toNat)
          case atStart => exact ⟨0, _, rfl, by omega, HO⟩
          case round =>
            obtain ⟨k, F3, rfl, hk, HK⟩ := hrel
            rename World => wq
            clear HO
            by_cases hk2 : k < C.size
            · obtain ⟨y2, hy2⟩ : ∃ y, C[k] = y := ⟨_, rfl⟩
              have HS3 := Lib.hid (pistep_any HK.out trivial (Nat.zero_le 430) HDS.out.1 HDS.out.2 y2)
              simp only [stepPp, PipR] at HS3
              rw [HG.out] at HS3
              go_wp2_with fail
              refine HS3.out.mono ?_
              rintro r w6 ⟨rfl, F4, hp4, _⟩
              have HK2 := Lib.hid hp4
              clear hp4 HS3
              go_wp2
              refine ⟨⟨k + 1, _, rfl, hk2, HK2⟩, ?_⟩
              simp [RowKit.intOf]
              omega
            · have HE := Lib.hid (piend_any HK.out trivial (Nat.zero_le 430) HDS.out.1 HDS.out.2)
              simp only [endPp, PipR] at HE
              rw [HG.out] at HE
              go_wp2_with fail
              refine HE.out.mono ?_
              rintro r w6 ⟨rfl, F4, hp4, _⟩
              have HV := Lib.hid (pov_any hp4)
              have HB6 := Lib.hid (H2.out.go hp4.bel).bel
              simp only [ovPp] at HV
              clear hp4 HE
              go_wp2_with fail
              refine HV.out.mono ?_
              rintro r w7 ⟨rfl, rfl⟩
              go_wp2
              go_ret
              exact ⟨rfl, HB6.out⟩
    · have hne : ((e : Int) == 0) = false := by rw [beq_eq_false_iff_ne]; omega
      obtain ⟨x, hx1, hx2⟩ := HI.out.over he
      have HO := Lib.hid HI.out.pip
      subst hx1
      have HG := Lib.hid hx2
      clear HI hx2
      by_cases hlt : j < B.size
      · skip
        go_wp2
        go_loopw [10, 11, 12] (fun vi _ _ wq => ∃ (k : Nat) (F : List Nat), vi = .int .i64 k ∧ k ≤ C.size ∧ Hid (PipAt w2 wq pb d s F (.over x))) (fun vi _ _ _ => C.size - (RowKit.intOf vi).toNat)
        case atStart => exact ⟨0, _, rfl, by omega, HO⟩
        case round =>
          obtain ⟨k, F3, rfl, hk, HK⟩ := hrel
          rename World => wq
          clear HO
          by_cases hk2 : k < C.size
          · obtain ⟨y2, hy2⟩ : ∃ y, C[k] = y := ⟨_, rfl⟩
            have HS3 := Lib.hid (pistep_any HK.out trivial (Nat.zero_le 430) HDS.out.1 HDS.out.2 y2)
            simp only [stepPp, PipR] at HS3
            rw [HG.out] at HS3
            go_wp2_with fail
            refine HS3.out.mono ?_
            rintro r w6 ⟨rfl, F4, hp4, _⟩
            have HK2 := Lib.hid hp4
            clear hp4 HS3
            go_wp2
            refine ⟨⟨k + 1, _, rfl, hk2, HK2⟩, ?_⟩
            simp [RowKit.intOf]
            omega
          · have HE := Lib.hid (piend_any HK.out trivial (Nat.zero_le 430) HDS.out.1 HDS.out.2)
            simp only [endPp, PipR] at HE
            rw [HG.out] at HE
            go_wp2_with fail
            refine HE.out.mono ?_
            rintro r w6 ⟨rfl, F4, hp4, _⟩
            have HV := Lib.hid (pov_any hp4)
            have HB6 := Lib.hid (H2.out.go hp4.bel).bel
            simp only [ovPp] at HV
            clear hp4 HE
            go_wp2_with fail
            refine HV.out.mono ?_
            rintro r w7 ⟨rfl, rfl⟩
            go_wp2
            go_ret
            exact ⟨rfl, HB6.out⟩
      · skip
        go_wp2
        go_loopw [10, 11, 12] (fun vi _ _ wq => ∃ (k : Nat) (F : List Nat), vi = .int .i64 k ∧ k ≤ C.size ∧ Hid (PipAt w2 wq pb d s F (.over x))) (fun vi _ _ _ => C.size - (RowKit.intOf vi).toNat)
        case atStart => exact ⟨0, _, rfl, by omega, HO⟩
        case round =>
          obtain ⟨k, F3, rfl, hk, HK⟩ := hrel
          rename World => wq
          clear HO
          by_cases hk2 : k < C.size
          · obtain ⟨y2, hy2⟩ : ∃ y, C[k] = y := ⟨_, rfl⟩
            have HS3 := Lib.hid (pistep_any HK.out trivial (Nat.zero_le 430) HDS.out.1 HDS.out.2 y2)
            simp only [stepPp, PipR] at HS3
            rw [HG.out] at HS3
            go_wp2_with fail
            refine HS3.out.mono ?_
            rintro r w6 ⟨rfl, F4, hp4, _⟩
            have HK2 := Lib.hid hp4
            clear hp4 HS3
            go_wp2
            refine ⟨⟨k + 1, _, rfl, hk2, HK2⟩, ?_⟩
            simp [RowKit.intOf]
            omega
          · have HE := Lib.hid (piend_any HK.out trivial (Nat.zero_le 430) HDS.out.1 HDS.out.2)
            simp only [endPp, PipR] at HE
            rw [HG.out] at HE
            go_wp2_with fail
            refine HE.out.mono ?_
            rintro r w6 ⟨rfl, F4, hp4, _⟩
            have HV := Lib.hid (pov_any hp4)
            have HB6 := Lib.hid (H2.out.go hp4.bel).bel
            simp only [ovPp] at HV
            clear hp4 HE
            go_wp2_with fail
            refine HV.out.mono ?_
            rintro r w7 ⟨rfl, rfl⟩
            go_wp2
            go_ret
            exact ⟨rfl, HB6.out⟩
end Go.Proofs.YtkgconbdmnmbnaaGreat
