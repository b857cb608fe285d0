/-
  LAWS of chapter 7: HeadRuns.
-/
import Derived.Test.YtkclpolgadlbhaaHeadLawsA
namespace Go.Proofs.Ytkclpolgadlbhaa
open Go.RowKit
open Go.Lib
set_option maxHeartbeats 1000000 in
theorem runs_long (A : Option Addr) (n c : Nat) (hn : ¬ n ≤ 20) (w : World) :
    Calls Try.prog 7 #[.slice A n c] w fun e w' => e = .returned (.bool true) ∧ Below w.heap.size w w' := by
  have c1 : ((20 : Int) < (n : Int)) = True := by simp only [eq_iff_iff, iff_true]; omega
  clear hn
  go_enter Try.func7, Try.ntmps7
  go_wp2_with fail
  refine (alive_any _).mono ?_
  rintro e w1 ⟨rfl, b1⟩
  go_wp2
  go_ret
  exact ⟨rfl, b1⟩
set_option maxRecDepth 100000 in
set_option maxHeartbeats 4000000 in
theorem runs_main (A : Option Addr) (n c : Nat) (zs : List Nat) (w : World) (hl : zs.length = n) (hR : Reads w w.heap.size 1 A n (zs.map fun z : Nat => Value.int .u64 (z : Int))) (hn : n ≤ 20) (hz : ∀ z ∈ zs, z < 18446744073709551616) :
    Calls Try.prog 7 #[.slice A n c] w fun e w' => e = .returned (.bool true) ∧ Below w.heap.size w w' := by
  have HR := Lib.hid hR
  have HZ := Lib.hid hz
  have c1 : ((20 : Int) < (n : Int)) = False := by simp only [eq_iff_iff, iff_false]; omega
  clear hR hz
  go_enter Try.func7, Try.ntmps7
  go_wp2_with fail
  refine (alive_any _).mono ?_
  rintro e w1 ⟨rfl, b1⟩
  have B1 := Lib.hid b1
  clear b1
  obtain ⟨b, hb⟩ : ∃ b, b = w1.heap.size := ⟨_, rfl⟩
  have H0 : Hid (HMid w b [] 0 (w1.alloc (.cells hdZero 28))) := Lib.hid (by
    rw [hb]
    exact ⟨hat_new w1, B1.out.alloc B1.out.size _, B1.out.size⟩)
  have HBn := Lib.hid hb
  clear hb B1
  go_wp2
  rw [← HBn.out]
  clear HBn
  go_loopw [22] (fun i wr => ∃ k : Nat, k ≤ n ∧ i = .int .i64 k ∧ Hid (HMid w b [] 0 wr)) (fun i _ => n - (RowKit.intOf i).toNat)
  case atStart => exact ⟨0, Nat.zero_le _, rfl, H0⟩
  case round =>
    obtain ⟨k, hk, rfl, HE⟩ := hrel
    clear H0
    by_cases hlt : k < n
    · have hkz : k < zs.length := by omega
      obtain ⟨ad, u, rfl, hb0, hu, hcell⟩ := (HR.out.below HE.out.bl).at_ hlt
      rw [List.getElem?_map, List.getElem?_eq_getElem hkz, Option.map_some, Option.some.injEq] at hu
      subst hu
      have hzb := HZ.out _ (List.getElem_mem hkz)
      obtain ⟨v, hv⟩ : ∃ v, zs[k]'hkz = v := ⟨_, rfl⟩
      rw [hv] at hcell hzb
      obtain ⟨m, hm⟩ : ∃ m, ((k : Int) % 8).toNat = m := ⟨_, rfl⟩
      have hm8 : m < 8 := by omega
      have hmod : (k : Int).tmod 8 = (m : Int) := by rw [Int.tmod_eq_emod_of_nonneg (by omega)]; omega
      have hO := hok_head m v hm8 hzb
      have hP := fun W => put_any (k : Int) v hzb W
      rw [hm] at hP
      obtain ⟨l, hl'⟩ : ∃ l, headB m v = l := ⟨_, rfl⟩
      rw [hl'] at hO hP
      obtain ⟨B, hB⟩ : ∃ B : ByteArray, B = ⟨l.toArray⟩ := ⟨_, rfl⟩
      rw [← hB] at hP
      have hsz : B.size = l.length := by rw [hB]; rfl
      have h9 : B.size ≤ 9 := by rw [hsz]; exact hO.le
      have HA := Lib.hid (str_at l B hB)
      have HO := Lib.hid hO
      have HZl := Lib.hid hsz
      have HP := Lib.hid hP
      clear hv hO hP hl' hB hsz hm hm8 hzb
      go_wp2_with fail
      refine (HP.out _).mono ?_
      rintro e w2 ⟨rfl, b2⟩
      have HE1 : Hid (HMid w b l 0 w2) := Lib.hid ⟨HE.out.at_.below b2 HE.out.at_.lt, HE.out.bl.trans (b2.mono HE.out.bl.size), HE.out.le⟩
      clear b2 HE hcell hb0
      clear HP
      go_wp2_with fail
      go_loopw [7] (fun i wi => ∃ q : Nat, q ≤ B.size ∧ i = .int .i64 q ∧ Hid (HMid w b l q wi)) (fun i _ => B.size - (RowKit.intOf i).toNat)
      case atStart => exact ⟨0, Nat.zero_le _, rfl, HE1⟩
      case round =>
        obtain ⟨q, hq, rfl, HE⟩ := hrel
        clear HE1
        by_cases hlq : q < B.size
        · obtain ⟨x, hx⟩ : ∃ x, B[q]'hlq = x := ⟨_, rfl⟩
          have hlk := HA.out q hlq
          rw [hx] at hlk
          obtain ⟨o1, o2, _, o4⟩ := HO.out.ok q x hlk
          have hS := hstep_at (byte_lt x) HE.out.at_
          have hle := HZl.out
          have HL := Lib.hid hlk
          by_cases hend : q + 1 = B.size
          · have hdt : decide (q + 1 = l.length) = true := decide_eq_true (by omega)
            have hdec : ((q : Int) == (B.size : Int) - 1) = true := by rw [beq_iff_eq]; omega
            rw [o1, o2, hdt] at hS
            have HS := Lib.hid hS
            clear hlk o1 o2 o4 hS hle hdt
            go_wp2_with fail
            refine HS.out.mono ?_
            rintro e w3 ⟨rfl, hP⟩
            have HE2 := Lib.hid (HE.out.go x HL.out hP)
            clear hP HE HS HL
            go_wp2
            go_roundw
            case rel => exact ⟨q + 1, by omega, by go_num, HE2⟩
            case measure => simp [RowKit.intOf]; omega
          · have hdt : decide (q + 1 = l.length) = false := decide_eq_false (by omega)
            have hdec : ((q : Int) == (B.size : Int) - 1) = false := by rw [beq_eq_false_iff_ne]; omega
            rw [o1, o2, hdt] at hS
            have HS := Lib.hid hS
            have HV := Lib.hid (o4 (by omega))
            clear hlk o1 o2 o4 hS hle hdt
            go_wp2_with fail
            refine HS.out.mono ?_
            rintro e w3 ⟨rfl, hP⟩
            have hv3 := value_at hP.1
            have ho3 := open_at hP.1
            rw [HV.out.1] at hv3
            rw [HV.out.2] at ho3
            have HV3 := Lib.hid hv3
            have HO3 := Lib.hid ho3
            have HE2 := Lib.hid (HE.out.go x HL.out hP)
            clear hP HE HS HL hv3 ho3 HV
            go_wp2_with fail
            refine HV3.out.mono ?_
            rintro e w4 ⟨rfl, rfl⟩
            go_wp2_with fail
            refine HO3.out.mono ?_
            rintro e w4 ⟨rfl, rfl⟩
            go_wp2
            go_roundw
            case rel => exact ⟨q + 1, by omega, by go_num, HE2⟩
            case measure => simp [RowKit.intOf]; omega
        · have hfin := HE.out.at_
          rw [List.take_of_length_le (by have := HZl.out; omega), HO.out.fin] at hfin
          have HV := Lib.hid (value_at hfin)
          have HM := Lib.hid (major_at hfin)
          have HC := Lib.hid (clear_at hfin)
          clear hfin
          go_wp2_with fail
          refine HV.out.mono ?_
          rintro e w3 ⟨rfl, rfl⟩
          go_wp2_with fail
          refine HM.out.mono ?_
          rintro e w3 ⟨rfl, rfl⟩
          simp only [majH]
          have hvv : ((v : Int) != v) = false := by simp
          have hmm : ((m : Int) != m) = false := by simp
          go_wp2_with fail
          refine HC.out.mono ?_
          rintro e w3 ⟨rfl, hP⟩
          have HV2 := Lib.hid (value_at hP.1)
          have HM2 := Lib.hid (major_at hP.1)
          have HE2 : Hid (HMid w b [] 0 w3) := Lib.hid ⟨hP.1, HE.out.bl.trans (hP.below HE.out.le HE.out.bl.size), HE.out.le⟩
          clear hP HC HV HM HE
          go_wp2_with fail
          refine HV2.out.mono ?_
          rintro e w4 ⟨rfl, rfl⟩
          go_wp2_with fail
          refine HM2.out.mono ?_
          rintro e w4 ⟨rfl, rfl⟩
          simp only [majH]
          go_wp2
          go_roundw
          case rel => exact ⟨k + 1, by omega, by go_num, HE2⟩
          case measure => simp [RowKit.intOf]; omega
    · go_wp2
      go_ret
      exact ⟨rfl, HE.out.bl⟩
theorem runs_any (A : Option Addr) (n c : Nat) (zs : List Nat) (w : World) (hl : zs.length = n) (hR : Reads w w.heap.size 1 A n (zs.map fun z : Nat => Value.int .u64 (z : Int))) (hz : ∀ z ∈ zs, z < 18446744073709551616) :
    Calls Try.prog 7 #[.slice A n c] w fun e w' => e = .returned (.bool true) ∧ Below w.heap.size w w' := by
  by_cases hn : n ≤ 20
  · exact runs_main A n c zs w hl hR hn hz
  · exact runs_long A n c hn w
end Go.Proofs.Ytkclpolgadlbhaa
