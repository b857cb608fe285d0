/-
  LAWS of chapter 16: PackoutTells.
-/
import Derived.Test.YtonjdnahplphhaaG2a
/-
  LAWS of chapter 16: PackoutTells.
-/
namespace Go.Proofs.Ytonjdnahplphhaa
open Go.RowKit
open Go.Lib
theorem rint_none (W : World) : Calls Try.prog 39 #[.iface 3 (.int .i64 5)] W fun r w' => r = .returned (.tuple #[evV evZ, .bool false]) ∧ Below W.heap.size W w' :=
  plain_other 3 (by decide) (by decide) (by decide) (by decide) (by decide) (by decide) _ W
set_option maxRecDepth 100000 in
set_option maxHeartbeats 16000000 in
theorem rtells_in (A : Option Addr) (n cp : Nat) (E : Nat → Ev) (w : World) (hT : NoTaR w) (hE : EvsAt w w.heap.size A n E) (hok : ∀ i, i < n → EvOk (E i)) (hn : n ≤ 100) :
    Calls Try.prog 3 #[.slice A n cp] w fun r w' => r = .returned (.bool true) ∧ Below w.heap.size w w' := by
  have t1 : ((100 : Int) < (n : Int)) = False := by simp; omega
  have HAL := Lib.hid (roalive_any w hT)
  have HT := Lib.hid (fun w' (k : Below w.heap.size w w') => hT.below k)
  have HE := Lib.hid hE
  have HOK := Lib.hid hok
  have hLn : (pre E n).length = n := pre_length E n
  have hget : ∀ j (h : j < n) (h' : j < (pre E n).length), (pre E n)[j]'h' = E j := by
    intro j h h'
    simp [pre]
  have HG := Lib.hid hget
  have HLN := Lib.hid hLn
  have HAL2 : Hid (∀ (hsm : ∀ i, i < n → (E i).t.size ≤ 1000) (W : World) g off cap (h : EvsAt W W.heap.size (some ⟨g, off, none⟩) n (getE (pre E n ++ [evMark]))) (hT : NoTaR W), Calls Try.prog 18 #[.slice (some ⟨g, off, none⟩) n cap] W fun r w' => r = .returned (.tuple #[.string ⟨(allR ⟨[], false⟩ (pre E n)).1.toArray⟩, .int .i64 ((allR ⟨[], false⟩ (pre E n)).2 : Nat)]) ∧ Below W.heap.size W w') := Lib.hid (fun hsm W g off cap h hT => by
    have hx : ∀ i, i < n → getE (pre E n ++ [evMark]) i = E i := fun i hi => by simp [getE, pre, List.getElem?_append, hi]
    have := rall_small (some ⟨g, off, none⟩) n cap (getE (pre E n ++ [evMark])) W (by omega) h (fun i hi => by rw [hx i hi]; exact ⟨hok i hi, hsm i hi⟩)
    rwa [pre_ext (F := E) hx] at this)
  clear hT hE hok hget hLn
  go_enter Try.func3, Try.ntmps3
  go_wp2_with fail
  refine HAL.out.mono ?_
  rintro r w1 ⟨rfl, b1⟩
  have B1 := Lib.hid b1
  have E1 := Lib.hid (HE.out.grow b1)
  have TW1 := Lib.hid (HT.out _ b1)
  have H0 := Lib.hid (rtel_new w1)
  clear b1
  go_wp2
  go_loopw [5, 6, 7, 8, 9, 10, 11] (fun i _ _ _ _ _ _ wr => ∃ (j : Nat) (q : Kq) (F : List Nat), i = .int .i64 j ∧ j ≤ n ∧ Hid (RTelI w1 wr j q F) ∧ Hid (∀ i, i < j → (E i).t.size ≤ 400)) (fun i _ _ _ _ _ _ _ => n - (RowKit.intOf i).toNat)
  case atStart => exact ⟨0, _, _, rfl, by omega, H0, Lib.hid (fun i hi => absurd hi (Nat.not_lt_zero i))⟩
  case round =>
    obtain ⟨j, q, F, rfl, hj, HI, HSM⟩ := hrel
    clear H0
    by_cases hlt : j < n
    · have hOKe := HOK.out j hlt
      have HCE := Lib.hid (fun W' (kb : Below w1.heap.size w1 W') => (E1.out.below kb).cells hlt)
      by_cases ht : (E j).t.size ≤ 400
      · have t2 : ((400 : Int) < ((E j).t.size : Int)) = False := by simp; omega
        have HSM2 : Hid (∀ i, i < j + 1 → (E i).t.size ≤ 400) := Lib.hid (fun i hi => by
          by_cases e : i = j
          · subst e; exact ht
          · exact HSM.out i (by omega))
        have HO := Lib.hid (fun W => of_any (E j) W)
        have HTD := Lib.hid (fun W => tidy_ref (E j) W)
        have HR := Lib.hid (fun W' F' (h : RTelH w1 W' j q (stepR q (E j)).2 F') => h.step (E j) (by omega) hOKe (by omega))
        by_cases hm : mayE (E j)
        · rw [if_pos hm, decide_eq_true hm] at HO
          have HS := Lib.hid (fun W' (kb : Below wr.heap.size wr W') => (HI.out.go kb).step TW1.out (by omega) (E j) hm hOKe (by omega))
          generalize valE (E j) = V at HO HS
          generalize stepR q (E j) = Q at HS HR
          obtain ⟨⟨bs, n0⟩, q'⟩ := Q
          simp only at HS HR
          generalize (⟨bs.toArray⟩ : ByteArray) = Z at HS HR
          generalize E j = ej at HO HTD HCE ht t2 HR
          obtain ⟨k, y, m, t, c⟩ := ej
          generalize tidyE ⟨k, y, m, t, c⟩ = T at HTD HR
          obtain ⟨kk, yy, mm, tt, cc⟩ := T
          simp only [evV] at HO HTD HCE HR t2
          obtain ⟨g, off, ha2, hgb, x0, x1, x2, x3, x4⟩ := HCE.out _ HI.out.jw.bel
          subst ha2
          have hgb2 := Nat.lt_of_lt_of_le hgb HI.out.jw.bel.size
          have hz1 : (Z.toList != Z.toList) = false := by simp
          have hz2 : ((n0 : Int) != (n0 : Int)) = false := by simp
          clear hgb hm ht hOKe
          go_wp2_with fail
          refine (HO.out _).mono ?_
          rintro r w3 ⟨rfl, b3⟩
          have B3 := Lib.hid b3
          clear b3 x0 x1 x2 x3 x4 hgb2
          go_wp2_with fail
          refine (HS.out _ B3.out).mono ?_
          rintro r w4 ⟨rfl, F4, h4⟩
          have H4 := Lib.hid h4
          obtain ⟨g', off', ha2, hgb, x0, x1, x2, x3, x4⟩ := HCE.out _ h4.jw.bel
          injection ha2 with ha2
          injection ha2 with hg1 hg2
          subst hg1 hg2
          have hgb2 := Nat.lt_of_lt_of_le hgb h4.jw.bel.size
          clear h4 hgb
          go_wp2_with fail
          refine (HTD.out _).mono ?_
          rintro r w5 ⟨rfl, b5⟩
          have H5 := Lib.hid (H4.out.go b5)
          clear b5 x0 x1 x2 x3 x4 hgb2
          go_wp2_with fail
          refine (HR.out _ _ H5.out).mono ?_
          rintro r w6 ⟨rfl, h6⟩
          have H6 := Lib.hid h6
          obtain ⟨a6, c6, hA6, _⟩ := h6.rf.cells
          have rd := (at_three hA6).2.2.1
          have HD : Hid (∀ p, Calls Try.prog 15 #[.pointer (some ⟨w1.heap.size, 0, none⟩)] (w6.drewN p) fun r w' => r = .returned (.bool q'.dn) ∧ w' = w6.drewN p) := Lib.hid (fun p => (doneR (h6.jw.at_.drewN p)).mono (by
            rintro r w' ⟨a, b⟩
            exact ⟨a, b.symm⟩))
          have HGO : Hid (∀ p, RTelI w1 (w6.drewN p) (j + 1) q' F4) := Lib.hid (fun p => h6.go (below_drewN (Below.refl _ _) p))
          obtain ⟨D, hD⟩ : ∃ D, q'.dn = D := ⟨_, rfl⟩
          rw [hD] at HD rd
          have hz5 : (D != D) = false := by simp
          clear h6 hA6 hD
          go_wp2_with fail
          go_quiet ((first | (go_at_call 15; exact Calls.quiet_of_same (HD.out _))))
          go_wp2
          go_roundw
          case rel => exact ⟨j + 1, _, _, rfl, hlt, HGO.out _, HSM2⟩
          case measure => simp [RowKit.intOf]; omega
        · rw [if_neg hm, decide_eq_false hm] at HO
          have HS := Lib.hid (fun W' (kb : Below wr.heap.size wr W') => (HI.out.go kb).noPart (E j) hm (.iface 3 (.int .i64 5)) rint_none)
          generalize stepR q (E j) = Q at HS HR
          obtain ⟨⟨bs, n0⟩, q'⟩ := Q
          simp only at HS HR
          generalize (⟨bs.toArray⟩ : ByteArray) = Z at HS HR
          generalize E j = ej at HO HTD HCE ht t2 HR
          obtain ⟨k, y, m, t, c⟩ := ej
          generalize tidyE ⟨k, y, m, t, c⟩ = T at HTD HR
          obtain ⟨kk, yy, mm, tt, cc⟩ := T
          simp only [evV] at HO HTD HCE HR t2
          obtain ⟨g, off, ha2, hgb, x0, x1, x2, x3, x4⟩ := HCE.out _ HI.out.jw.bel
          subst ha2
          have hgb2 := Nat.lt_of_lt_of_le hgb HI.out.jw.bel.size
          have hz1 : (Z.toList != Z.toList) = false := by simp
          have hz2 : ((n0 : Int) != (n0 : Int)) = false := by simp
          clear hgb hm ht hOKe
          go_wp2_with fail
          refine (HO.out _).mono ?_
          rintro r w3 ⟨rfl, b3⟩
          have B3 := Lib.hid b3
          clear b3 x0 x1 x2 x3 x4 hgb2
          go_wp2_with fail
          refine (HS.out _ B3.out).mono ?_
          rintro r w4 ⟨rfl, F4, h4⟩
          have H4 := Lib.hid h4
          obtain ⟨g', off', ha2, hgb, x0, x1, x2, x3, x4⟩ := HCE.out _ h4.jw.bel
          injection ha2 with ha2
          injection ha2 with hg1 hg2
          subst hg1 hg2
          have hgb2 := Nat.lt_of_lt_of_le hgb h4.jw.bel.size
          clear h4 hgb
          go_wp2_with fail
          refine (HTD.out _).mono ?_
          rintro r w5 ⟨rfl, b5⟩
          have H5 := Lib.hid (H4.out.go b5)
          clear b5 x0 x1 x2 x3 x4 hgb2
          go_wp2_with fail
          refine (HR.out _ _ H5.out).mono ?_
          rintro r w6 ⟨rfl, h6⟩
          have H6 := Lib.hid h6
          obtain ⟨a6, c6, hA6, _⟩ := h6.rf.cells
          have rd := (at_three hA6).2.2.1
          have HD : Hid (∀ p, Calls Try.prog 15 #[.pointer (some ⟨w1.heap.size, 0, none⟩)] (w6.drewN p) fun r w' => r = .returned (.bool q'.dn) ∧ w' = w6.drewN p) := Lib.hid (fun p => (doneR (h6.jw.at_.drewN p)).mono (by
            rintro r w' ⟨a, b⟩
            exact ⟨a, b.symm⟩))
          have HGO : Hid (∀ p, RTelI w1 (w6.drewN p) (j + 1) q' F4) := Lib.hid (fun p => h6.go (below_drewN (Below.refl _ _) p))
          obtain ⟨D, hD⟩ : ∃ D, q'.dn = D := ⟨_, rfl⟩
          rw [hD] at HD rd
          have hz5 : (D != D) = false := by simp
          clear h6 hA6 hD
          go_wp2_with fail
          go_quiet ((first | (go_at_call 15; exact Calls.quiet_of_same (HD.out _))))
          go_wp2
          go_roundw
          case rel => exact ⟨j + 1, _, _, rfl, hlt, HGO.out _, HSM2⟩
          case measure => simp [RowKit.intOf]; omega
      · have t2 : ((400 : Int) < ((E j).t.size : Int)) = True := by simp; omega
        obtain ⟨g, off, ha2, hgb, x0, x1, x2, x3, x4⟩ := HCE.out _ HI.out.jw.bel
        subst ha2
        have hgb2 := Nat.lt_of_lt_of_le hgb HI.out.jw.bel.size
        clear hgb
        go_wp2
        go_ret
        exact ⟨rfl, B1.out.trans (HI.out.jw.bel.mono B1.out.size)⟩
    · obtain rfl : j = n := by omega
      have HAL3 := Lib.hid (HAL2.out (fun i hi => Nat.le_trans (HSM.out i hi) (by omega)))
      clear HAL2
      have BW0 := Lib.hid HI.out.jw.bel
      have E2 := Lib.hid (E1.out.grow HI.out.jw.bel)
      have H5 : Hid (RTelR wr (wr.alloc (.cells #[.int .i64 3, .slice none 0 0, .bool false] 32)) (pre E j) 0 0 []) := Lib.hid (.inl ⟨rfl, _, rtelj_new wr (pre E j)⟩)
      obtain ⟨L, hLL⟩ : ∃ L, pre E j = L := ⟨_, rfl⟩
      have HLL := Lib.hid hLL
      rw [hLL] at HAL3 H5 HG HLN
      clear hLL
      have HSM4 := Lib.hid (fun i (hi : i < j) => Nat.le_trans (HSM.out i hi) (show 400 ≤ 1000 by omega))
      clear HSM
      go_wp2
      go_loopw [13, 14, 15, 16, 17] (fun s b i _ _ wx => ∃ (i' bad : Nat) (acc : List UInt8) (S : ByteArray), s = .string S ∧ b = .int .i64 bad ∧ i = .int .i64 i' ∧ i' ≤ j ∧ Hid (S = ⟨acc.toArray⟩) ∧ Hid (RTelR wr wx L i' bad acc)) (fun _ _ i _ _ _ => j - (RowKit.intOf i).toNat)
      case atStart => exact ⟨0, 0, [], ⟨#[]⟩, rfl, rfl, rfl, by omega, Lib.hid rfl, H5⟩
      case round =>
        obtain ⟨i, bad, acc, S, rfl, rfl, rfl, hi, HSS, HTR⟩ := hrel
        clear H5
        rcases HTR.out with ⟨rfl, q2, hJ⟩ | ⟨hbad, hR, hbel, hal⟩
        · have HJ := Lib.hid hJ
          clear hJ HTR
          by_cases hli : i < j
          · have hiL : i < L.length := by rw [HLN.out]; exact hli
            have hLe : L[i] = E i := HG.out i hli hiL
            have hOKe := HOK.out i hli
            have hsm := HSM4.out i hli
            have HM := Lib.hid (fun W => may_any (E i) W)
            obtain ⟨g, off, ha2, hgb, x0, x1, x2, x3, x4⟩ := (E2.out.below HJ.out.bel).cells hli
            subst ha2
            have HCE := Lib.hid (fun W' (kb : Below _ _ W') => (E2.out.below kb).cells hli)
            have hgb2 := Nat.lt_of_lt_of_le hgb HJ.out.bel.size
            by_cases hm : mayE (E i)
            · rw [decide_eq_true hm] at HM
              have hal := HJ.out.len
              have hSs : S.size = acc.length := by rw [HSS.out]; exact size_of acc
              have HS := Lib.hid (fun W' (kb : Below wr.heap.size wr W') => (HJ.out.go kb).step hiL (by omega) (by rw [hLe]; exact hm) (by rw [hLe]; exact hOKe) (by rw [hLe]; exact hsm))
              rw [hLe] at HS
              have hzs := rstep_small q2 (E i) hsm
              generalize stepR q2 (E i) = Q at HS hzs
              obtain ⟨⟨bs, n0⟩, q'⟩ := Q
              simp only at HS hzs
              obtain ⟨Z, hZ⟩ : ∃ Z : ByteArray, (⟨bs.toArray⟩ : ByteArray) = Z := ⟨_, rfl⟩
              have hZs : Z.size ≤ 2000 := by rw [← hZ, size_of]; exact hzs
              have HNS : Hid (S ++ Z = ⟨(acc ++ bs).toArray⟩) := Lib.hid (by rw [HSS.out, ← hZ]; exact cat_of acc bs)
              rw [hZ] at HS
              have s1 : ¬ 9223372036854775807 < S.size + Z.size := by omega
              generalize E i = ei at HM HS x0 x1 x2 x3 x4 HCE
              obtain ⟨k, y, m, t, c⟩ := ei
              simp only [evV] at HM HS x0 x1 x2 x3 x4 HCE
              clear hLe hOKe hsm hm hal hSs hzs hZ hZs hiL hgb
              go_wp2_with fail
              refine (HM.out _).mono ?_
              rintro r w7 ⟨rfl, b7⟩
              have B7 := Lib.hid b7
              obtain ⟨g', off', ha2, hgb, z0, z1, z2, z3, z4⟩ := HCE.out _ (HJ.out.bel.trans (b7.mono HJ.out.bel.size))
              injection ha2 with ha2
              injection ha2 with hg1 hg2
              subst hg1 hg2
              have hgb3 := Nat.lt_of_lt_of_le hgb (HJ.out.bel.trans (b7.mono HJ.out.bel.size)).size
              clear b7 x0 x1 x2 x3 x4 hgb hgb2
              go_wp2_with fail
              refine (HS.out _ B7.out).mono ?_
              rintro r w8 ⟨rfl, h8⟩
              have H8 := Lib.hid h8
              clear h8
              go_wp2
              go_roundw
              case rel => exact ⟨i + 1, n0, _, _, rfl, rfl, rfl, hli, HNS, H8⟩
              case measure => simp [RowKit.intOf]; omega
            · have HR := Lib.hid (HJ.out.noPart hiL (by rw [hLe]; exact hm))
              rw [decide_eq_false hm] at HM
              generalize E i = ei at HM x0 x1 x2 x3 x4 hsm hOKe
              obtain ⟨k, y, m, t, c⟩ := ei
              simp only [evV] at HM x0 x1 x2 x3 x4
              clear hm hLe hOKe hsm hiL hgb HCE
              go_wp2_with fail
              refine (HM.out _).mono ?_
              rintro r w7 ⟨rfl, b7⟩
              have B7 := Lib.hid (HJ.out.bel.trans (b7.mono HJ.out.bel.size))
              clear b7 x0 x1 x2 x3 x4 hgb2
              have BX := Lib.hid (BW0.out.trans (B7.out.mono BW0.out.size))
              have EX := Lib.hid (E2.out.grow B7.out)
              have HALL := Lib.hid (fun (W : World) g off cap (h : EvsAt W W.heap.size (some ⟨g, off, none⟩) j (getE (L ++ [evMark]))) (hT : NoTaR W) => HAL3.out W g off cap h hT)
              rw [HR.out] at HALL
              simp only [← HSS.out] at HALL
              have hz3 : (S.toList == S.toList) = true := by simp
              go_wp2_with fail
              refine (lent_any _ _ _ _ _ (by omega) EX.out).mono ?_
              rintro r w21 ⟨g, off, cap, rfl, hc1, hc2, hM⟩
              have E21 := Lib.hid (EX.out.grow hM.1)
              have M21 := Lib.hid hM
              have HW21 := Lib.hid (show EvsAt w21 w21.heap.size (some ⟨g, off, none⟩) j (getE (L ++ [evMark])) from evs_win (by have h := hM.2.1; rw [HLL.out] at h; exact h) (by simp [HLN.out]))
              have HC := Lib.hid (And.intro hc1 hc2)
              have B21 := Lib.hid (BX.out.trans (hM.1.mono BX.out.size))
              clear hM hc1 hc2
              go_wp2_with fail
              refine (HALL.out _ _ _ _ HW21.out (TW1.out.below B21.out)).mono ?_
              rintro r w22 ⟨rfl, b22⟩
              have B22 := Lib.hid (B21.out.trans (b22.mono B21.out.size))
              have E22 := Lib.hid (E21.out.grow b22)
              have M22 := Lib.hid (M21.out.go b22)
              clear b22
              go_wp2_with fail
              refine (rstep_nil _ _).mono ?_
              rintro r w23 ⟨rfl, rfl⟩
              go_wp2_with fail
              refine (stays_any _ _ _ _ _ _ _ _ (by omega) HC.out.1 M22.out.2.1 E22.out).mono ?_
              rintro r w24 ⟨rfl, b24⟩
              have B24 := Lib.hid (B22.out.trans (b24.mono B22.out.size))
              clear b24
              go_wp2_with fail
              refine (rdone_nil _).mono ?_
              rintro r w25 ⟨rfl, rfl⟩
              go_wp2
              go_ret
              exact ⟨rfl, B1.out.trans (B24.out.mono B1.out.size)⟩
          · obtain rfl : j = i := by omega
            have hR := HJ.out.over (by rw [HLN.out]; exact Nat.le_refl _)
            obtain ⟨a6, c6, hA6, _⟩ := HJ.out.rf.cells
            have rd := (at_three hA6).2.2.1
            have B7 := Lib.hid HJ.out.bel
            obtain ⟨D, hD⟩ : ∃ D, q2.dn = D := ⟨_, rfl⟩
            rw [hD] at hR rd
            clear hD hA6
            cases D with
            | true =>
              have HR : Hid (allR ⟨[], false⟩ L = (acc, 0)) := Lib.hid hR
              clear hR
              have BX := Lib.hid (BW0.out.trans (B7.out.mono BW0.out.size))
              have EX := Lib.hid (E2.out.grow B7.out)
              have HALL := Lib.hid (fun (W : World) g off cap (h : EvsAt W W.heap.size (some ⟨g, off, none⟩) j (getE (L ++ [evMark]))) (hT : NoTaR W) => HAL3.out W g off cap h hT)
              rw [HR.out] at HALL
              simp only [← HSS.out] at HALL
              have hz3 : (S.toList == S.toList) = true := by simp
              go_wp2_with fail
              refine (lent_any _ _ _ _ _ (by omega) EX.out).mono ?_
              rintro r w21 ⟨g, off, cap, rfl, hc1, hc2, hM⟩
              have E21 := Lib.hid (EX.out.grow hM.1)
              have M21 := Lib.hid hM
              have HW21 := Lib.hid (show EvsAt w21 w21.heap.size (some ⟨g, off, none⟩) j (getE (L ++ [evMark])) from evs_win (by have h := hM.2.1; rw [HLL.out] at h; exact h) (by simp [HLN.out]))
              have HC := Lib.hid (And.intro hc1 hc2)
              have B21 := Lib.hid (BX.out.trans (hM.1.mono BX.out.size))
              clear hM hc1 hc2
              go_wp2_with fail
              refine (HALL.out _ _ _ _ HW21.out (TW1.out.below B21.out)).mono ?_
              rintro r w22 ⟨rfl, b22⟩
              have B22 := Lib.hid (B21.out.trans (b22.mono B21.out.size))
              have E22 := Lib.hid (E21.out.grow b22)
              have M22 := Lib.hid (M21.out.go b22)
              clear b22
              go_wp2_with fail
              refine (rstep_nil _ _).mono ?_
              rintro r w23 ⟨rfl, rfl⟩
              go_wp2_with fail
              refine (stays_any _ _ _ _ _ _ _ _ (by omega) HC.out.1 M22.out.2.1 E22.out).mono ?_
              rintro r w24 ⟨rfl, b24⟩
              have B24 := Lib.hid (B22.out.trans (b24.mono B22.out.size))
              clear b24
              go_wp2_with fail
              refine (rdone_nil _).mono ?_
              rintro r w25 ⟨rfl, rfl⟩
              go_wp2
              go_ret
              exact ⟨rfl, B1.out.trans (B24.out.mono B1.out.size)⟩
            | false =>
              have HR : Hid (allR ⟨[], false⟩ L = (acc, 3)) := Lib.hid hR
              clear hR
              have BX := Lib.hid (BW0.out.trans (B7.out.mono BW0.out.size))
              have EX := Lib.hid (E2.out.grow B7.out)
              have HALL := Lib.hid (fun (W : World) g off cap (h : EvsAt W W.heap.size (some ⟨g, off, none⟩) j (getE (L ++ [evMark]))) (hT : NoTaR W) => HAL3.out W g off cap h hT)
              rw [HR.out] at HALL
              simp only [← HSS.out] at HALL
              have hz3 : (S.toList == S.toList) = true := by simp
              go_wp2_with fail
              refine (lent_any _ _ _ _ _ (by omega) EX.out).mono ?_
              rintro r w21 ⟨g, off, cap, rfl, hc1, hc2, hM⟩
              have E21 := Lib.hid (EX.out.grow hM.1)
              have M21 := Lib.hid hM
              have HW21 := Lib.hid (show EvsAt w21 w21.heap.size (some ⟨g, off, none⟩) j (getE (L ++ [evMark])) from evs_win (by have h := hM.2.1; rw [HLL.out] at h; exact h) (by simp [HLN.out]))
              have HC := Lib.hid (And.intro hc1 hc2)
              have B21 := Lib.hid (BX.out.trans (hM.1.mono BX.out.size))
              clear hM hc1 hc2
              go_wp2_with fail
              refine (HALL.out _ _ _ _ HW21.out (TW1.out.below B21.out)).mono ?_
              rintro r w22 ⟨rfl, b22⟩
              have B22 := Lib.hid (B21.out.trans (b22.mono B21.out.size))
              have E22 := Lib.hid (E21.out.grow b22)
              have M22 := Lib.hid (M21.out.go b22)
              clear b22
              go_wp2_with fail
              refine (rstep_nil _ _).mono ?_
              rintro r w23 ⟨rfl, rfl⟩
              go_wp2_with fail
              refine (stays_any _ _ _ _ _ _ _ _ (by omega) HC.out.1 M22.out.2.1 E22.out).mono ?_
              rintro r w24 ⟨rfl, b24⟩
              have B24 := Lib.hid (B22.out.trans (b24.mono B22.out.size))
              clear b24
              go_wp2_with fail
              refine (rdone_nil _).mono ?_
              rintro r w25 ⟨rfl, rfl⟩
              go_wp2
              go_ret
              exact ⟨rfl, B1.out.trans (B24.out.mono B1.out.size)⟩
        · have HR := Lib.hid hR
          have B7 := Lib.hid hbel
          have hb1 : ((bad : Int) == 0) = false := by rw [beq_eq_false_iff_ne]; omega
          have hb2 : ((bad : Int) == (bad : Int)) = true := by simp
          clear hR hbel hbad hal HTR
          by_cases hli : i < j
          · have BX := Lib.hid (BW0.out.trans (B7.out.mono BW0.out.size))
            have EX := Lib.hid (E2.out.grow B7.out)
            have HALL := Lib.hid (fun (W : World) g off cap (h : EvsAt W W.heap.size (some ⟨g, off, none⟩) j (getE (L ++ [evMark]))) (hT : NoTaR W) => HAL3.out W g off cap h hT)
            rw [HR.out] at HALL
            simp only [← HSS.out] at HALL
            have hz3 : (S.toList == S.toList) = true := by simp
            go_wp2_with fail
            refine (lent_any _ _ _ _ _ (by omega) EX.out).mono ?_
            rintro r w21 ⟨g, off, cap, rfl, hc1, hc2, hM⟩
            have E21 := Lib.hid (EX.out.grow hM.1)
            have M21 := Lib.hid hM
            have HW21 := Lib.hid (show EvsAt w21 w21.heap.size (some ⟨g, off, none⟩) j (getE (L ++ [evMark])) from evs_win (by have h := hM.2.1; rw [HLL.out] at h; exact h) (by simp [HLN.out]))
            have HC := Lib.hid (And.intro hc1 hc2)
            have B21 := Lib.hid (BX.out.trans (hM.1.mono BX.out.size))
            clear hM hc1 hc2
            go_wp2_with fail
            refine (HALL.out _ _ _ _ HW21.out (TW1.out.below B21.out)).mono ?_
            rintro r w22 ⟨rfl, b22⟩
            have B22 := Lib.hid (B21.out.trans (b22.mono B21.out.size))
            have E22 := Lib.hid (E21.out.grow b22)
            have M22 := Lib.hid (M21.out.go b22)
            clear b22
            go_wp2_with fail
            refine (rstep_nil _ _).mono ?_
            rintro r w23 ⟨rfl, rfl⟩
            go_wp2_with fail
            refine (stays_any _ _ _ _ _ _ _ _ (by omega) HC.out.1 M22.out.2.1 E22.out).mono ?_
            rintro r w24 ⟨rfl, b24⟩
            have B24 := Lib.hid (B22.out.trans (b24.mono B22.out.size))
            clear b24
            go_wp2_with fail
            refine (rdone_nil _).mono ?_
            rintro r w25 ⟨rfl, rfl⟩
            go_wp2
            go_ret
            exact ⟨rfl, B1.out.trans (B24.out.mono B1.out.size)⟩
          · have BX := Lib.hid (BW0.out.trans (B7.out.mono BW0.out.size))
            have EX := Lib.hid (E2.out.grow B7.out)
            have HALL := Lib.hid (fun (W : World) g off cap (h : EvsAt W W.heap.size (some ⟨g, off, none⟩) j (getE (L ++ [evMark]))) (hT : NoTaR W) => HAL3.out W g off cap h hT)
            rw [HR.out] at HALL
            simp only [← HSS.out] at HALL
            have hz3 : (S.toList == S.toList) = true := by simp
            go_wp2_with fail
            refine (lent_any _ _ _ _ _ (by omega) EX.out).mono ?_
            rintro r w21 ⟨g, off, cap, rfl, hc1, hc2, hM⟩
            have E21 := Lib.hid (EX.out.grow hM.1)
            have M21 := Lib.hid hM
            have HW21 := Lib.hid (show EvsAt w21 w21.heap.size (some ⟨g, off, none⟩) j (getE (L ++ [evMark])) from evs_win (by have h := hM.2.1; rw [HLL.out] at h; exact h) (by simp [HLN.out]))
            have HC := Lib.hid (And.intro hc1 hc2)
            have B21 := Lib.hid (BX.out.trans (hM.1.mono BX.out.size))
            clear hM hc1 hc2
            go_wp2_with fail
            refine (HALL.out _ _ _ _ HW21.out (TW1.out.below B21.out)).mono ?_
            rintro r w22 ⟨rfl, b22⟩
            have B22 := Lib.hid (B21.out.trans (b22.mono B21.out.size))
            have E22 := Lib.hid (E21.out.grow b22)
            have M22 := Lib.hid (M21.out.go b22)
            clear b22
            go_wp2_with fail
            refine (rstep_nil _ _).mono ?_
            rintro r w23 ⟨rfl, rfl⟩
            go_wp2_with fail
            refine (stays_any _ _ _ _ _ _ _ _ (by omega) HC.out.1 M22.out.2.1 E22.out).mono ?_
            rintro r w24 ⟨rfl, b24⟩
            have B24 := Lib.hid (B22.out.trans (b24.mono B22.out.size))
            clear b24
            go_wp2_with fail
            refine (rdone_nil _).mono ?_
            rintro r w25 ⟨rfl, rfl⟩
            go_wp2
            go_ret
            exact ⟨rfl, B1.out.trans (B24.out.mono B1.out.size)⟩
set_option maxRecDepth 100000 in
set_option maxHeartbeats 2000000 in
theorem rtells_row (A : Option Addr) (n cp : Nat) (E : Nat → Ev) (w : World) (hT : NoTaR w) (hE : EvsAt w w.heap.size A n E) (hok : ∀ i, i < n → EvOk (E i)) :
    Calls Try.prog 3 #[.slice A n cp] w fun r w' => r = .returned (.bool true) ∧ Below w.heap.size w w' := by
  by_cases hn : n ≤ 100
  · exact rtells_in A n cp E w hT hE hok hn
  · have t1 : ((100 : Int) < (n : Int)) = True := by simp; omega
    have HA := Lib.hid (roalive_any w hT)
    clear hT hE hok hn
    go_enter Try.func3, Try.ntmps3
    go_wp2_with fail
    refine HA.out.mono ?_
    rintro r w1 ⟨rfl, b1⟩
    have B1 := Lib.hid b1
    clear b1
    go_wp2
    go_ret
    exact ⟨rfl, B1.out⟩
end Go.Proofs.Ytonjdnahplphhaa
