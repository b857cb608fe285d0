/-
  LAW of chapter 18: PipePrefix.
-/
import Derived.Test.YtkgconbdmnmbnaaGreatG2c
import Derived.Test.YtkgconbdmnmbnaaGreatG1g
namespace Go.Proofs.YtkgconbdmnmbnaaGreat
open Go.RowKit
open Go.Lib
/-- In the loop: a Pipe behind the first j bytes, what it told, all in a row. -/
structure PreI (w2 wr : World) (pb D S : Nat) (s0 : Pp) (a : List UInt8) (j : Nat) (F : List Nat) (O : ByteArray) : Prop where
  pip : PipAt w2 wr pb D S F (runPp D S s0 (a.take j)).1
  wf : WfPp D S j (runPp D S s0 (a.take j)).1
  out : O = ⟨(runPp D S s0 (a.take j)).2.toArray⟩
  len : O.size ≤ 80000000000 * j
theorem pre_start {w2 w3 : World} {pb D S : Nat} {s0 : Pp} {F : List Nat} (a : List UInt8) (h : PipAt w2 w3 pb D S F s0) (hw : WfPp D S 0 s0) : PreI w2 w3 pb D S s0 a 0 F ⟨#[]⟩ := by
  have e : runPp D S s0 (a.take 0) = (s0, []) := by rw [List.take_zero]; rfl
  exact ⟨by rw [e]; exact h, by rw [e]; exact hw, by rw [e], by decide⟩
theorem pre_step {w2 wr w4 : World} {pb D S : Nat} {s0 : Pp} {a : List UInt8} {j : Nat} {F F2 : List Nat} {O Z : ByteArray} (h : PreI w2 wr pb D S s0 a j F O) (hD : 1 ≤ D ∧ D ≤ 16) (hS : S ≤ 2000) (hj : j < a.length) (hM : j ≤ 430)
    (hp : PipAt w2 w4 pb D S F2 (stepPp D S (runPp D S s0 (a.take j)).1 a[j]).1) (hZ : Z = ⟨(stepPp D S (runPp D S s0 (a.take j)).1 a[j]).2.1.toArray⟩) : PreI w2 w4 pb D S s0 a (j + 1) F2 (O ++ Z) := by
  have e := runPp_take (D := D) (lim := S) (s := s0) hj
  refine ⟨by rw [e]; exact hp, by rw [e]; exact wfPp_step hD.2 hS h.wf a[j], ?_, ?_⟩
  · rw [e, h.out, hZ, cat_of]
  · have h1 := h.len
    have h2 := step_out h.wf hM hD.2 hS h.pip.prP a[j]
    have h3 : Z.size = (stepPp D S (runPp D S s0 (a.take j)).1 a[j]).2.1.length := by rw [hZ]; exact size_of _
    rw [ByteArray.size_append]
    omega
theorem extract_pre (x t : List UInt8) : (⟨(x ++ t).toArray⟩ : ByteArray).extract 0 (⟨x.toArray⟩ : ByteArray).size = ⟨x.toArray⟩ := by
  rw [size_of]
  apply ByteArray.ext
  simp
theorem pre_of (D S : Nat) (s0 : Pp) (a b : List UInt8) (O X : ByteArray) (hO : O = ⟨(runPp D S s0 a).2.toArray⟩) (hX : X = ⟨(batchPp D S s0 (a ++ b)).1.toArray⟩) : O.size ≤ X.size ∧ X.extract 0 O.size = O := by
  obtain ⟨t, ht⟩ := run_prefix D S b a s0
  rw [hO, hX, ht]
  refine ⟨?_, extract_pre _ _⟩
  rw [size_of, size_of]
  simp
set_option maxRecDepth 100000 in
set_option maxHeartbeats 8000000 in
theorem prefix_any (f t D S L : Int) (A B C : ByteArray) (bA : A.size ≤ 140737488351232) (bB : B.size ≤ 140737488351232) (bC : C.size ≤ 140737488351232) (w : World) (hP : PrintX w) :
    Calls Tryz.prog 3 #[suV f t D S L, .string A, .string B, .string C] w fun r w' => r = .returned (.bool true) ∧ Below w.heap.size w w' := by
  have HAL := Lib.hid (fun (W : World) (k : Below w.heap.size w W) => pialive_any (hP.up k))
  have H0 : Hid (SuI w (w.alloc (.cells #[.int .i64 f, .int .i64 t, .int .i64 D, .int .i64 S, .int .i64 L] 23)) f t D S L) := Lib.hid ⟨up_alloc (Below.refl _ _) _, blk_new _ _ _⟩
  by_cases hbig : 400 < A.size + B.size + C.size
  · unfold suV
    clear hP
    go_enter Tryz.func3, Tryz.ntmps3
    go_wp2_with fail
    refine (HAL.out _ H0.out.bel).mono ?_
    rintro r w1 ⟨rfl, b1⟩
    have H1 := Lib.hid (H0.out.go b1)
    clear b1
    go_wp2
    go_ret
    exact ⟨rfl, H1.out.bel⟩
  by_cases hR : RightP f t D S L
  case neg =>
    have HR := Lib.hid (fun W => piright_any f t D S L W)
    rw [decide_eq_false hR] at HR
    unfold suV at HR ⊢
    clear hP hR
    go_enter Tryz.func3, Tryz.ntmps3
    go_wp2_with fail
    refine (HR.out _).mono ?_
    rintro r w1 ⟨rfl, b1⟩
    have H1 := Lib.hid (H0.out.go b1)
    clear b1
    go_wp2_with fail
    refine (HAL.out _ H1.out.bel).mono ?_
    rintro r w2 ⟨rfl, b2⟩
    have H2 := Lib.hid (H1.out.go b2)
    clear b2
    go_wp2
    go_ret
    exact ⟨rfl, H2.out.bel⟩
  have HR := Lib.hid (fun W => piright_any f t D S L W)
  rw [decide_eq_true hR] at HR
  obtain ⟨d, rfl⟩ : ∃ d : Nat, D = d := ⟨D.toNat, by have := hR.2.2.1; unfold inP3 at this; omega⟩
  obtain ⟨s, rfl⟩ : ∃ s : Nat, S = s := ⟨S.toNat, by have := hR.2.2.2.1; unfold inP3 at this; omega⟩
  have hD : 1 ≤ d ∧ d ≤ 16 := by have := hR.2.2.1; unfold inP3 at this; omega
  have hS : s ≤ 2000 := by have := hR.2.2.2.1; unfold inP3 at this; omega
  obtain ⟨pr, hPr, _⟩ := hP
  obtain ⟨a, rfl⟩ : ∃ a : List UInt8, A = ⟨a.toArray⟩ := ⟨A.data.toList, by simp⟩
  obtain ⟨b, rfl⟩ : ∃ b : List UInt8, B = ⟨b.toArray⟩ := ⟨B.data.toList, by simp⟩
  obtain ⟨c, rfl⟩ : ∃ c : List UInt8, C = ⟨c.toArray⟩ := ⟨C.data.toList, by simp⟩
  rw [size_of, size_of, size_of] at hbig
  have HN := Lib.hid (fun (W : World) (k : Below w.heap.size w W) => pinew_ok (hPr.up k) f t L d s hR)
  have HB1 := Lib.hid (fun (W : World) (k : Below w.heap.size w W) => pibatch_any (hPr.up k) f t L d s hR (a ++ b) (by rw [List.length_append]; omega))
  have HB2 := Lib.hid (fun (W : World) (k : Below w.heap.size w W) => pibatch_any (hPr.up k) f t L d s hR (a ++ c) (by rw [List.length_append]; omega))
  have HW0 := Lib.hid (wfPp_0 d s pr f t)
  have E1 : (⟨a.toArray⟩ : ByteArray) ++ ⟨b.toArray⟩ = ⟨(a ++ b).toArray⟩ := cat_of a b
  have E2 : (⟨a.toArray⟩ : ByteArray) ++ ⟨c.toArray⟩ = ⟨(a ++ c).toArray⟩ := cat_of a c
  have Q1 := fun O h => pre_of d s (pp0 pr f t) a b O _ h rfl
  have Q2 := fun O h => pre_of d s (pp0 pr f t) a c O _ h rfl
  generalize pp0 pr f t = s0 at *
  generalize hX1 : (⟨(batchPp d s s0 (a ++ b)).1.toArray⟩ : ByteArray) = X1 at *
  generalize hX2 : (⟨(batchPp d s s0 (a ++ c)).1.toArray⟩ : ByteArray) = X2 at *
  generalize (batchPp d s s0 (a ++ b)).2 = e1 at *
  generalize (batchPp d s s0 (a ++ c)).2 = e2 at *
  generalize hA : (⟨a.toArray⟩ : ByteArray) = A at *
  generalize hB : (⟨b.toArray⟩ : ByteArray) = B at *
  generalize hC : (⟨c.toArray⟩ : ByteArray) = C at *
  generalize hAB : (⟨(a ++ b).toArray⟩ : ByteArray) = AB at *
  generalize hAC : (⟨(a ++ c).toArray⟩ : ByteArray) = AC at *
  have sA : A.size = a.length := by rw [← hA]; exact size_of a
  have sB : B.size = b.length := by rw [← hB]; exact size_of b
  have sC : C.size = c.length := by rw [← hC]; exact size_of c
  have zAB : (A ++ B).size ≤ 400 := by rw [ByteArray.size_append]; omega
  have zAC : (A ++ C).size ≤ 400 := by rw [ByteArray.size_append]; omega
  have hx : A.size ≤ 400 ∧ B.size ≤ 400 ∧ C.size ≤ 400 ∧ A.size + B.size + C.size ≤ 400 := by omega
  have hget : ∀ (i : Nat) (h : i < A.size) (h' : i < a.length), A[i] = a[i]'h' := by subst hA; intro i h h'; rfl
  have HGET := Lib.hid hget
  have HSA := Lib.hid sA
  have HDS := Lib.hid (And.intro hD hS)
  have HQ := Lib.hid (And.intro Q1 Q2)
  have HE := Lib.hid (And.intro E1 E2)
  clear sA sB sC bA bB bC hget hA hB hC hAB hAC hX1 hX2 hR hD hS hPr hbig Q1 Q2 E1 E2
  unfold suV at HR HN HB1 HB2 ⊢
  obtain ⟨x1, x2, x3, x4⟩ := hx
  go_enter Tryz.func3, Tryz.ntmps3
  go_wp2_with fail
  refine (HR.out _).mono ?_
  rintro r w1 ⟨rfl, b1⟩
  have H1 := Lib.hid (H0.out.go b1)
  clear b1 H0
  go_wp2_with fail
  refine (HAL.out _ H1.out.bel).mono ?_
  rintro r w2 ⟨rfl, b2⟩
  have H2 := Lib.hid (H1.out.go b2)
  obtain ⟨c0, c1, c2, c3, c4⟩ := (H1.out.go b2).cells
  clear b2 H1
  go_wp2_with fail
  refine (HN.out _ H2.out.bel).mono ?_
  rintro r w3 ⟨pb, F0, rfl, hp⟩
  have HI0 := Lib.hid (pre_start a hp HW0.out)
  clear hp
  go_wp2
  go_loopw [10, 11, 12, 13] (fun vo vi _ _ wr => ∃ (j : Nat) (F : List Nat) (O : ByteArray), vo = .string O ∧ vi = .int .i64 j ∧ j ≤ A.size ∧ Hid (PreI w2 wr pb d s s0 a j F O)) (fun _ vi _ _ _ => A.size - (RowKit.intOf vi).toNat)
  case atStart => exact ⟨0, _, _, rfl, rfl, by omega, HI0⟩
  case round =>
    obtain ⟨j, F, O, rfl, rfl, hj, HI⟩ := hrel
    clear HI0
    by_cases hlt : j < A.size
    · have hjl : j < a.length := by rw [← HSA.out]; exact hlt
      have hy := HGET.out j hlt hjl
      have hjM : j ≤ 430 := by omega
      have HS := Lib.hid (pistep_any HI.out.pip HI.out.wf hjM HDS.out.1 HDS.out.2 a[j])
      have hst := fun F2 w4 Z hp hZ => pre_step (F2 := F2) (w4 := w4) (Z := Z) HI.out HDS.out.1 HDS.out.2 hjl hjM hp hZ
      have hso := step_out HI.out.wf hjM HDS.out.1.2 HDS.out.2 HI.out.pip.prP a[j]
      have hol := HI.out.len
      obtain ⟨y, hyy⟩ : ∃ y, a[j] = y := ⟨_, rfl⟩
      rw [hyy] at hy HS hst hso
      generalize stepPp d s (runPp d s s0 (a.take j)).1 y = Q at *
      obtain ⟨s2, T, e⟩ := Q
      simp only [PipR] at HS
      simp only at hst hso
      obtain ⟨Z, hZ⟩ : ∃ Z : ByteArray, (⟨T.toArray⟩ : ByteArray) = Z := ⟨_, rfl⟩
      have hsZ : Z.size ≤ 80000000000 := by rw [← hZ, size_of]; exact hso
      have hsO : O.size ≤ 32000000000000 := by
        have : 80000000000 * j ≤ 80000000000 * 400 := Nat.mul_le_mul_left _ (by omega)
        omega
      have hsum : (O ++ Z).size ≤ 100000000000000 := by
        rw [ByteArray.size_append]
        omega
      rw [hZ] at HS
      have HST := Lib.hid (fun F2 w4 hp => hst F2 w4 Z hp hZ.symm)
      clear hZ hst hso hol hjM hjl hyy
      go_wp2_with fail
      refine HS.out.mono ?_
      rintro r w4 ⟨rfl, F2, hp2, hs2⟩
      have HN2 := Lib.hid (HST.out F2 w4 hp2)
      clear hp2 hs2 HS HST
      go_wp2
      refine ⟨⟨j + 1, _, _, rfl, rfl, hlt, HN2⟩, ?_⟩
      simp [RowKit.intOf]
      omega
    · have hje : j = A.size := by omega
      have hO : O = ⟨(runPp d s s0 a).2.toArray⟩ := by
        have := HI.out.out
        rw [List.take_of_length_le (by rw [← HSA.out]; omega)] at this
        exact this
      obtain ⟨l1, e1'⟩ := HQ.out.1 O hO
      obtain ⟨l2, e2'⟩ := HQ.out.2 O hO
      have sl1 := fun W => slice_str_hi X1 O.size l1 W
      have sl2 := fun W => slice_str_hi X2 O.size l2 W
      rw [e1'] at sl1
      rw [e2'] at sl2
      have H3 := Lib.hid (H2.out.go HI.out.pip.bel)
      obtain ⟨d0, d1, d2, d3, d4⟩ := (H2.out.go HI.out.pip.bel).cells
      clear hO e1' e2' hje c0 c1 c2 c3 c4
      go_wp2_with fail
      rw [HE.out.1]
      refine (HB1.out _ H3.out.bel).mono ?_
      rintro r w4 ⟨rfl, b4⟩
      have H4 := Lib.hid (H3.out.go b4)
      obtain ⟨f0, f1, f2, f3, f4⟩ := (H3.out.go b4).cells
      clear b4 H3 d0 d1 d2 d3 d4
      go_wp2_with fail
      rw [HE.out.2]
      refine (HB2.out _ H4.out.bel).mono ?_
      rintro r w5 ⟨rfl, b5⟩
      have H5 := Lib.hid (H4.out.go b5)
      clear b5 H4
      go_wp2
      go_ret
      exact ⟨rfl, H5.out.bel⟩
end Go.Proofs.YtkgconbdmnmbnaaGreat
