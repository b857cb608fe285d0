/-
  CONTRACT of the documents own Write: the inside of a text's string.
-/
import Derived.Test.YteonbajndghfcaaRune
import Derived.Test.YteonbajndghfcaaBits
import Derived.Test.YteonbajndghfcaaEscPure
import Derived.Test.YteonbajndghfcaaUp
namespace Go.Proofs.Yteonbajndghfcaa
open Go.RowKit
open Go.Lib
theorem slice_one (s : ByteArray) (k : Nat) (h : k < s.size) (x : UInt8) (hx : s[k]'h = x) (W : World) : (Instr.slice 9 (.string s) (some (.int .i64 (k : Int))) (some (.int .i64 ((k : Int) + 1))) none).run Try.prog W = .ok (.string ⟨#[x]⟩) W := by
  have h1 := slice_str_lh s k (k + 1) (by omega) (by omega) W
  rw [show (((k + 1 : Nat) : Int)) = (k : Int) + 1 by omega] at h1
  rw [h1]
  have : s.extract k (k + 1) = ⟨#[x]⟩ := by
    apply ByteArray.ext
    apply Array.ext'
    rw [ext_list, List.take_add_one, List.getElem?_eq_getElem (by rw [size_list]; exact h), List.drop_append_of_le_length (by rw [List.length_take, size_list]; omega)]
    have : s.data.toList[k]'(by rw [size_list]; exact h) = x := hx
    rw [this, List.drop_of_length_le (by rw [List.length_take, size_list]; omega)]
    rfl
  rw [this]
theorem lit_hex : ∀ (n : Fin 16) (h : n.val < (⟨#[48, 49, 50, 51, 52, 53, 54, 55, 56, 57, 97, 98, 99, 100, 101, 102]⟩ : ByteArray).size), (⟨#[48, 49, 50, 51, 52, 53, 54, 55, 56, 57, 97, 98, 99, 100, 101, 102]⟩ : ByteArray)[n.val]'h = hexD n.val := by decide +kernel
/-- Where the document's Write stands: the text so far. -/
def WrM (l : List UInt8) (q : Nat) (T : ByteArray) : Prop := T = ⟨(escW (l.take q)).toArray⟩
theorem wrm_size {l : List UInt8} {q : Nat} {T : ByteArray} (h : WrM l q T) : T.size ≤ 6 * q := by
  rw [h, size_of]
  have := escW_len (l.take q)
  rw [List.length_take] at this
  omega
theorem wrm_next {l : List UInt8} {q : Nat} {T : ByteArray} (h : WrM l q T) (hq : q < l.length) {x : UInt8} (hx : l[q] = x) : WrM l (q + 1) (T ++ ⟨(escB x).toArray⟩) := by
  unfold WrM at h ⊢
  rw [h, cat_of, List.take_add_one, List.getElem?_eq_getElem hq, hx, escW_append]
  simp [escW]
set_option maxRecDepth 100000 in
set_option maxHeartbeats 4000000 in
theorem rwrite_any (S : ByteArray) (hS : S.size ≤ 1000) (w : World) :
    Calls Try.prog 11 #[.string S] w fun e w' => e = .returned (.string ⟨(escW S.data.toList).toArray⟩) ∧ Below w.heap.size w w' := by
  obtain ⟨R, hR⟩ : ∃ R : ByteArray, (⟨(escW S.data.toList).toArray⟩ : ByteArray) = R := ⟨_, rfl⟩
  rw [hR]
  have HR := Lib.hid hR
  clear hR
  go_enter Try.func11, Try.ntmps11
  go_wp2
  go_loopw [3, 4, 5] (fun t i _ wr => ∃ (q : Nat) (T : ByteArray), t = .string T ∧ i = .int .i64 q ∧ q ≤ S.size ∧ Hid (WrM S.data.toList q T ∧ Below w.heap.size w wr)) (fun _ i _ _ => S.size - (RowKit.intOf i).toNat)
  case atStart => exact ⟨0, ⟨#[]⟩, rfl, rfl, by omega, Lib.hid ⟨rfl, Below.refl _ _⟩⟩
  case round =>
    obtain ⟨q, T, rfl, rfl, hq, HM⟩ := hrel
    have hT6 : T.size ≤ 6000 := by have := wrm_size HM.out.1; omega
    by_cases hlt : q < S.size
    · obtain ⟨x, hx⟩ : ∃ x, S[q]'hlt = x := ⟨_, rfl⟩
      have hql : q < S.data.toList.length := by rw [size_list]; exact hlt
      have hlq : S.data.toList[q] = x := hx
      have HN := Lib.hid (wrm_next HM.out.1 hql hlq)
      have HB := Lib.hid HM.out.2
      have hsl := slice_one S q hlt x hx
      clear HM hql hlq
      by_cases c1 : x.toNat = 34 ∨ x.toNat = 92
      · have he : escB x = [92, x] := by unfold escB; rw [if_pos c1]
        obtain ⟨X, hX⟩ : ∃ X : ByteArray, (⟨#[x]⟩ : ByteArray) = X := ⟨_, rfl⟩
        obtain ⟨U, hU⟩ : ∃ U : ByteArray, T ++ ⟨#[92]⟩ = U := ⟨_, rfl⟩
        obtain ⟨Z, hZ⟩ : ∃ Z : ByteArray, U ++ X = Z := ⟨_, rfl⟩
        have hXs : X.size = 1 := by rw [← hX]; rfl
        have hUs : U.size ≤ 6001 := by rw [← hU, ByteArray.size_append]; show T.size + 1 ≤ 6001; omega
        have HNZ : Hid (WrM S.data.toList (q + 1) Z) := Lib.hid (by
          have h := HN.out
          rw [he] at h
          rw [← hZ, ← hU, ← hX, ByteArray.append_assoc]
          exact h)
        simp only [hX] at hsl
        clear hX he HN
        rcases c1 with c1 | c1
        · have n34 : ((x.toNat : Int) == 34) = true := by rw [beq_iff_eq]; omega
          clear c1
          go_wp2
          go_roundw
          case rel => exact ⟨q + 1, Z, rfl, by go_num, by omega, Lib.hid ⟨HNZ.out, HB.out⟩⟩
          case measure => simp [RowKit.intOf]; omega
        · have n34 : ((x.toNat : Int) == 34) = false := by rw [beq_eq_false_iff_ne]; omega
          have n92 : ((x.toNat : Int) == 92) = true := by rw [beq_iff_eq]; omega
          clear c1
          go_wp2
          go_roundw
          case rel => exact ⟨q + 1, Z, rfl, by go_num, by omega, Lib.hid ⟨HNZ.out, HB.out⟩⟩
          case measure => simp [RowKit.intOf]; omega
      have n34 : ((x.toNat : Int) == 34) = false := by rw [beq_eq_false_iff_ne]; omega
      have n92 : ((x.toNat : Int) == 92) = false := by rw [beq_eq_false_iff_ne]; omega
      by_cases k8 : x.toNat = 8
      · have n8 : ((x.toNat : Int) == 8) = true := by rw [beq_iff_eq]; omega
        have he : escB x = [92, 98] := by unfold escB; rw [if_neg c1]; rw [if_pos k8]
        obtain ⟨Z, hZ⟩ : ∃ Z : ByteArray, T ++ ⟨#[92, 98]⟩ = Z := ⟨_, rfl⟩
        have HNZ : Hid (WrM S.data.toList (q + 1) Z) := Lib.hid (by
          have h := HN.out
          rw [he] at h
          rw [← hZ]
          exact h)
        clear hsl he HN c1 k8
        go_wp2
        go_roundw
        case rel => exact ⟨q + 1, Z, rfl, by go_num, by omega, Lib.hid ⟨HNZ.out, HB.out⟩⟩
        case measure => simp [RowKit.intOf]; omega
      have n8 : ((x.toNat : Int) == 8) = false := by rw [beq_eq_false_iff_ne]; omega
      by_cases k12 : x.toNat = 12
      · have n12 : ((x.toNat : Int) == 12) = true := by rw [beq_iff_eq]; omega
        have he : escB x = [92, 102] := by unfold escB; rw [if_neg c1]; rw [if_neg k8]; rw [if_pos k12]
        obtain ⟨Z, hZ⟩ : ∃ Z : ByteArray, T ++ ⟨#[92, 102]⟩ = Z := ⟨_, rfl⟩
        have HNZ : Hid (WrM S.data.toList (q + 1) Z) := Lib.hid (by
          have h := HN.out
          rw [he] at h
          rw [← hZ]
          exact h)
        clear hsl he HN c1 k8 k12
        go_wp2
        go_roundw
        case rel => exact ⟨q + 1, Z, rfl, by go_num, by omega, Lib.hid ⟨HNZ.out, HB.out⟩⟩
        case measure => simp [RowKit.intOf]; omega
      have n12 : ((x.toNat : Int) == 12) = false := by rw [beq_eq_false_iff_ne]; omega
      by_cases k10 : x.toNat = 10
      · have n10 : ((x.toNat : Int) == 10) = true := by rw [beq_iff_eq]; omega
        have he : escB x = [92, 110] := by unfold escB; rw [if_neg c1]; rw [if_neg k8]; rw [if_neg k12]; rw [if_pos k10]
        obtain ⟨Z, hZ⟩ : ∃ Z : ByteArray, T ++ ⟨#[92, 110]⟩ = Z := ⟨_, rfl⟩
        have HNZ : Hid (WrM S.data.toList (q + 1) Z) := Lib.hid (by
          have h := HN.out
          rw [he] at h
          rw [← hZ]
          exact h)
        clear hsl he HN c1 k8 k12 k10
        go_wp2
        go_roundw
        case rel => exact ⟨q + 1, Z, rfl, by go_num, by omega, Lib.hid ⟨HNZ.out, HB.out⟩⟩
        case measure => simp [RowKit.intOf]; omega
      have n10 : ((x.toNat : Int) == 10) = false := by rw [beq_eq_false_iff_ne]; omega
      by_cases k13 : x.toNat = 13
      · have n13 : ((x.toNat : Int) == 13) = true := by rw [beq_iff_eq]; omega
        have he : escB x = [92, 114] := by unfold escB; rw [if_neg c1]; rw [if_neg k8]; rw [if_neg k12]; rw [if_neg k10]; rw [if_pos k13]
        obtain ⟨Z, hZ⟩ : ∃ Z : ByteArray, T ++ ⟨#[92, 114]⟩ = Z := ⟨_, rfl⟩
        have HNZ : Hid (WrM S.data.toList (q + 1) Z) := Lib.hid (by
          have h := HN.out
          rw [he] at h
          rw [← hZ]
          exact h)
        clear hsl he HN c1 k8 k12 k10 k13
        go_wp2
        go_roundw
        case rel => exact ⟨q + 1, Z, rfl, by go_num, by omega, Lib.hid ⟨HNZ.out, HB.out⟩⟩
        case measure => simp [RowKit.intOf]; omega
      have n13 : ((x.toNat : Int) == 13) = false := by rw [beq_eq_false_iff_ne]; omega
      by_cases k9 : x.toNat = 9
      · have n9 : ((x.toNat : Int) == 9) = true := by rw [beq_iff_eq]; omega
        have he : escB x = [92, 116] := by unfold escB; rw [if_neg c1]; rw [if_neg k8]; rw [if_neg k12]; rw [if_neg k10]; rw [if_neg k13]; rw [if_pos k9]
        obtain ⟨Z, hZ⟩ : ∃ Z : ByteArray, T ++ ⟨#[92, 116]⟩ = Z := ⟨_, rfl⟩
        have HNZ : Hid (WrM S.data.toList (q + 1) Z) := Lib.hid (by
          have h := HN.out
          rw [he] at h
          rw [← hZ]
          exact h)
        clear hsl he HN c1 k8 k12 k10 k13 k9
        go_wp2
        go_roundw
        case rel => exact ⟨q + 1, Z, rfl, by go_num, by omega, Lib.hid ⟨HNZ.out, HB.out⟩⟩
        case measure => simp [RowKit.intOf]; omega
      have n9 : ((x.toNat : Int) == 9) = false := by rw [beq_eq_false_iff_ne]; omega
      by_cases k32 : x.toNat < 32
      · have n32 : (((x.toNat : Nat) : Int) < 32) = True := by simp only [eq_iff_iff, iff_true]; omega
        have he : escB x = [92, 117, 48, 48, hexD (x.toNat / 16), hexD (x.toNat % 16)] := by unfold escB; rw [if_neg c1]; rw [if_neg k8]; rw [if_neg k12]; rw [if_neg k10]; rw [if_neg k13]; rw [if_neg k9]; rw [if_pos k32]
        obtain ⟨U, hU⟩ : ∃ U : ByteArray, T ++ ⟨#[92, 117, 48, 48]⟩ = U := ⟨_, rfl⟩
        obtain ⟨H, hH⟩ : ∃ H : ByteArray, (⟨#[hexD (x.toNat / 16), hexD (x.toNat % 16)]⟩ : ByteArray) = H := ⟨_, rfl⟩
        obtain ⟨Z, hZ⟩ : ∃ Z : ByteArray, U ++ H = Z := ⟨_, rfl⟩
        have hHs : H.size = 2 := by rw [← hH]; rfl
        have hUs : U.size ≤ 6004 := by rw [← hU, ByteArray.size_append]; show T.size + 4 ≤ 6004; omega
        have HNZ : Hid (WrM S.data.toList (q + 1) Z) := Lib.hid (by
          have h := HN.out
          rw [he] at h
          rw [← hZ, ← hU, ← hH, ByteArray.append_assoc]
          exact h)
        have hcv : ∀ W : World, (convert 53 9 (.slice (some ⟨W.heap.size, 0, none⟩) 2 2)).run Try.prog (W.alloc (.cells #[.int .u8 (hexD (x.toNat / 16)).toNat, .int .u8 (hexD (x.toNat % 16)).toNat] 5)) = .ok (.string H) (W.alloc (.cells #[.int .u8 (hexD (x.toNat / 16)).toNat, .int .u8 (hexD (x.toNat % 16)).toNat] 5)) :=
          fun W => conv_new W [hexD (x.toNat / 16), hexD (x.toNat % 16)] _ 2 rfl rfl H hH.symm
        have hd : x.toNat % 16 < 16 := by omega
        have hda : x.toNat / 16 < 16 := by omega
        have h1 : ∀ h, (⟨#[48, 49, 50, 51, 52, 53, 54, 55, 56, 57, 97, 98, 99, 100, 101, 102]⟩ : ByteArray)[x.toNat / 16]'h = hexD (x.toNat / 16) := fun h => lit_hex ⟨x.toNat / 16, by omega⟩ h
        have h2 : ∀ h, (⟨#[48, 49, 50, 51, 52, 53, 54, 55, 56, 57, 97, 98, 99, 100, 101, 102]⟩ : ByteArray)[x.toNat % 16]'h = hexD (x.toNat % 16) := fun h => lit_hex ⟨x.toNat % 16, hd⟩ h
        clear hsl he HN c1 k8 k12 k10 k13 k9 k32 hH
        obtain ⟨a, hae⟩ : ∃ a, x.toNat / 16 = a := ⟨_, rfl⟩
        obtain ⟨d, hde⟩ : ∃ d, x.toNat % 16 = d := ⟨_, rfl⟩
        have i1 : (x.toNat : Int) / 16 = (a : Int) := by omega
        have i2 : (x.toNat : Int) % 16 = (d : Int) := by omega
        rw [hae] at hcv h1 hda
        rw [hde] at hcv h2 hd
        generalize hexD a = A at *
        generalize hexD d = D at *
        have z1 : ¬ 9223372036854775807 < T.size + 4 := by omega
        have z2 : ¬ 9223372036854775807 < U.size + H.size := by omega
        have z3 : ¬ 9223372036854775807 < U.size + 2 := by omega
        have hcd : ∀ W : World, (convert 53 9 (.slice (some ⟨W.heap.size, 0, none⟩) 2 2)).run Try.prog ((W.alloc (.cells #[.int .u8 A.toNat, .int .u8 D.toNat] 5)).drew) = .ok (.string H) ((W.alloc (.cells #[.int .u8 A.toNat, .int .u8 D.toNat] 5)).drew) := fun W => hcv W.drew
        clear hae hde
        go_wp2
        go_region
        go_wp2
        go_roundw
        case rel => exact ⟨q + 1, Z, rfl, by go_num, by omega, Lib.hid ⟨HNZ.out, below_drw (HB.out.alloc HB.out.size _)⟩⟩
        case measure => simp [RowKit.intOf]; omega
      have n32 : (((x.toNat : Nat) : Int) < 32) = False := by simp only [eq_iff_iff, iff_false]; omega
      have he : escB x = [x] := by unfold escB; rw [if_neg c1]; rw [if_neg k8]; rw [if_neg k12]; rw [if_neg k10]; rw [if_neg k13]; rw [if_neg k9]; rw [if_neg k32]
      obtain ⟨X, hX⟩ : ∃ X : ByteArray, (⟨#[x]⟩ : ByteArray) = X := ⟨_, rfl⟩
      obtain ⟨Z, hZ⟩ : ∃ Z : ByteArray, T ++ X = Z := ⟨_, rfl⟩
      have hXs : X.size = 1 := by rw [← hX]; rfl
      have HNZ : Hid (WrM S.data.toList (q + 1) Z) := Lib.hid (by
        have h := HN.out
        rw [he] at h
        rw [← hZ, ← hX]
        exact h)
      simp only [hX] at hsl
      clear hX he HN c1 k8 k12 k10 k13 k9 k32
      go_wp2
      go_roundw
      case rel => exact ⟨q + 1, Z, rfl, by go_num, by omega, Lib.hid ⟨HNZ.out, HB.out⟩⟩
      case measure => simp [RowKit.intOf]; omega
    · have hTR : T = R := by
        rw [← HR.out, HM.out.1, List.take_of_length_le (by rw [size_list]; omega)]
      have HB := Lib.hid (And.intro hTR HM.out.2)
      clear HM hTR
      go_wp2
      go_ret
      exact ⟨by rw [HB.out.1]; rfl, HB.out.2⟩
end Go.Proofs.Yteonbajndghfcaa
