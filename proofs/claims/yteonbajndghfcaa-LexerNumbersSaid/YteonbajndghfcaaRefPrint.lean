/-
  CONTRACTS of the documents own Digits and Print.
-/
import Derived.Test.YteonbajndghfcaaRune
import Derived.Test.YteonbajndghfcaaDecNum
import Derived.Test.YteonbajndghfcaaDecLex
import Derived.Test.YteonbajndghfcaaUp
namespace Go.Proofs.Yteonbajndghfcaa
open Go.RowKit
open Go.Lib
/-- An empty text counts one. -/
def emptyV : Value → Nat
  | .string s => if s.size = 0 then 1 else 0
  | _ => 0
/-- Of a number's digits the last ones are there. -/
def DigMid (v v' : Nat) (s : List UInt8) : Prop := (s = [] ∧ v' = v) ∨ (s ≠ [] ∧ decDigits v = (if v' = 0 then [] else decDigits v') ++ s)
theorem dig_next {v v' : Nat} {s : List UInt8} (h : DigMid v v' s) (hg : 0 < v' ∨ s = []) : DigMid v (v' / 10) (UInt8.ofNat (48 + v' % 10) :: s) := by
  right
  refine ⟨by simp, ?_⟩
  have one : ∀ u : Nat, decDigits u = (if u / 10 = 0 then [] else decDigits (u / 10)) ++ [UInt8.ofNat (48 + u % 10)] := by
    intro u
    by_cases hu : u < 10
    · rw [decDigits_one (i := u) hu, if_pos (by omega), show u % 10 = u by omega]
      rfl
    · rw [if_neg (by omega), ← dec_big (by omega)]
  rcases h with ⟨rfl, rfl⟩ | ⟨hs, he⟩
  · exact one _
  · have hv : v' ≠ 0 := by
      rcases hg with h | h
      · omega
      · exact absurd h hs
    rw [he, if_neg hv, one v', List.append_assoc]
    rfl
theorem dig_len {v v' : Nat} {s : List UInt8} (hv : v < 18446744073709551617) (h : DigMid v v' s) : s.length ≤ 20 := by
  have hl : (decDigits v).length ≤ 20 := by
    rw [decDigits_length]
    exact nDigits_le v (by omega)
  rcases h with ⟨rfl, _⟩ | ⟨_, he⟩
  · simp
  · rw [he, List.length_append] at hl
    omega
set_option maxHeartbeats 1000000 in
theorem rdigits_any (v : Nat) (hv : v < 18446744073709551616) (w : World) :
    Calls Try.prog 17 #[.int .u64 v] w fun e w' => e = .returned (.string ⟨(decDigits v).toArray⟩) ∧ Below w.heap.size w w' := by
  obtain ⟨R, hR⟩ : ∃ R : ByteArray, (⟨(decDigits v).toArray⟩ : ByteArray) = R := ⟨_, rfl⟩
  rw [hR]
  have HR := Lib.hid hR
  clear hR
  go_enter Try.func17, Try.ntmps17
  go_wp2
  go_loopw [0, 3] (fun x s wr => ∃ (v' : Nat) (l : List UInt8) (S : ByteArray), x = .int .u64 v' ∧ s = .string S ∧ v' ≤ v ∧ Hid (S = ⟨l.toArray⟩ ∧ DigMid v v' l ∧ Below w.heap.size w wr)) (fun x s _ => 2 * (RowKit.intOf x).toNat + emptyV s)
  case atStart => exact ⟨v, [], ⟨#[]⟩, rfl, rfl, Nat.le_refl _, Lib.hid ⟨rfl, .inl ⟨rfl, rfl⟩, Below.refl _ _⟩⟩
  case round =>
    obtain ⟨v', l, S, rfl, rfl, hle, HM⟩ := hrel
    have hSl : S.size = l.length := by rw [HM.out.1]; exact size_of l
    have h20 : S.size ≤ 20 := by rw [hSl]; exact dig_len (by omega) HM.out.2.1
    by_cases hgo : 0 < v' ∨ l = []
    · have hc := conv_new wr [UInt8.ofNat (48 + v' % 10)] #[.int .u8 (48 + (v' : Int) % 10)] 1 rfl (by
        simp only [Lib.byteCells, List.map_cons, List.map_nil, toNat_ofNat (48 + v' % 10) (by omega)]
        congr 2) ⟨#[UInt8.ofNat (48 + v' % 10)]⟩ rfl
      obtain ⟨Y, hY⟩ : ∃ Y : ByteArray, Y = ⟨#[UInt8.ofNat (48 + v' % 10)]⟩ := ⟨_, rfl⟩
      rw [← hY] at hc
      have hYs : Y.size = 1 := by rw [hY]; rfl
      have hZ : Y ++ S = ⟨(UInt8.ofNat (48 + v' % 10) :: l).toArray⟩ := by rw [hY, HM.out.1]; exact cat_of [_] l
      obtain ⟨Z, hZZ⟩ : ∃ Z, Y ++ S = Z := ⟨_, rfl⟩
      have hZs : Z.size ≠ 0 := by rw [← hZZ, hZ, size_of]; simp
      have HN : Hid (Z = ⟨(UInt8.ofNat (48 + v' % 10) :: l).toArray⟩ ∧ DigMid v (v' / 10) (UInt8.ofNat (48 + v' % 10) :: l) ∧ Below w.heap.size w (wr.alloc (.cells #[.int .u8 (48 + (v' : Int) % 10)] 5))) :=
        Lib.hid ⟨by rw [← hZZ]; exact hZ, dig_next HM.out.2.1 hgo, HM.out.2.2.alloc HM.out.2.2.size _⟩
      have hem : emptyV (.string Z) = 0 := by simp only [emptyV]; rw [if_neg hZs]
      have HE := Lib.hid hem
      have hHS : emptyV (.string S) = if S.size = 0 then 1 else 0 := rfl
      have HHS := Lib.hid (And.intro hHS (And.intro hSl hgo))
      clear hem hHS hZ hY hZs hSl
      by_cases h0 : 0 < v'
      · have h0' : ((0 : Int) < (v' : Int)) = True := by simp only [eq_iff_iff, iff_true]; omega
        clear hgo
        go_wp2
        go_roundw
        case rel => exact ⟨v' / 10, _, Z, by go_num, rfl, by omega, HN⟩
        case measure => rw [HE.out]; simp [RowKit.intOf]; omega
      · obtain rfl : v' = 0 := by omega
        have hl0 : l = [] := by rcases hgo with h | h; omega; exact h
        have hS0 : S.size = 0 := by rw [HHS.out.2.1, hl0]; rfl
        have e1 : (S.toList = []) = True := by
          simp only [eq_iff_iff, iff_true]
          rw [ByteArray.toList_eq, ← List.length_eq_zero_iff, size_list]
          exact hS0
        have e2 : S.toList.isEmpty = true := by rw [List.isEmpty_iff]; simpa using e1
        have HS0 := Lib.hid hS0
        have hc0 : (convert 53 9 (.slice (some ⟨wr.heap.size, 0, none⟩) 1 1)).run Try.prog (wr.alloc (.cells #[.int .u8 48] 5)) = .ok (.string Y) (wr.alloc (.cells #[.int .u8 48] 5)) := hc
        have HN0 : Hid (Z = ⟨(UInt8.ofNat (48 + 0 % 10) :: l).toArray⟩ ∧ DigMid v 0 (UInt8.ofNat (48 + 0 % 10) :: l) ∧ Below w.heap.size w (wr.alloc (.cells #[.int .u8 48] 5))) := HN
        clear hgo hl0 hS0 h0 hc
        go_wp2
        go_roundw
        case rel => exact ⟨0, _, Z, by go_num, rfl, by omega, HN0⟩
        case measure => rw [HE.out, HHS.out.1, if_pos HS0.out]; simp [RowKit.intOf]
    · have hv0 : v' = 0 := by omega
      have hl0 : l ≠ [] := fun h => hgo (.inr h)
      have hne : S.size ≠ 0 := by rw [hSl]; exact fun h => hl0 (List.length_eq_zero_iff.1 h)
      have e1 : (S.toList = []) = False := by
        simp only [eq_iff_iff, iff_false]
        rw [ByteArray.toList_eq, ← List.length_eq_zero_iff, size_list]
        exact hne
      have e2 : S.toList.isEmpty = false := by
        rw [Bool.eq_false_iff]
        intro h
        rw [List.isEmpty_iff] at h
        simp [h] at e1
      have hRS : S = R := by
        rw [← HR.out, HM.out.1]
        rcases HM.out.2.1 with ⟨h, _⟩ | ⟨_, h⟩
        · exact absurd h hl0
        · rw [h, if_pos hv0]
          rfl
      subst hv0
      have HB := Lib.hid (And.intro hRS HM.out.2.2)
      clear hgo hl0 hne hSl HM hRS
      go_wp2
      go_ret
      exact ⟨by rw [HB.out.1]; rfl, HB.out.2⟩
theorem dec_top : decDigits 18446744073709551616 = [49, 56, 52, 52, 54, 55, 52, 52, 48, 55, 51, 55, 48, 57, 53, 53, 49, 54, 49, 54] := by
  simp [decDigits]
set_option maxHeartbeats 1000000 in
theorem rprint_any (m : Bool) (v : Nat) (hv : v < 18446744073709551616) (w : World) :
    Calls Try.prog 13 #[.agg #[.bool m, .int .u64 v]] w fun e w' => e = .returned (.string ⟨(printD (m, v)).toArray⟩) ∧ Below w.heap.size w w' := by
  cases m with
  | false =>
    have HD : Hid (∀ W, Calls Try.prog 17 #[.int .u64 v] W fun e w' => e = .returned (.string ⟨(printD (false, v)).toArray⟩) ∧ Below W.heap.size W w') := Lib.hid (fun W => rdigits_any v hv W)
    have HB := Lib.hid (fun x => (Below.refl w.heap.size w).alloc (Nat.le_refl _) x)
    generalize (⟨(printD (false, v)).toArray⟩ : ByteArray) = Z at *
    go_enter Try.func13, Try.ntmps13
    go_wp2_with fail
    refine (HD.out _).mono ?_
    rintro e w1 ⟨rfl, hb⟩
    have HB1 := Lib.hid (up_trans (HB.out _) hb)
    clear hb
    go_wp2
    go_ret
    exact ⟨rfl, HB1.out⟩
  | true =>
    by_cases hm : v = 18446744073709551615
    · subst hm
      have hz : (⟨(printD (true, 18446744073709551615)).toArray⟩ : ByteArray) = ⟨#[45, 49, 56, 52, 52, 54, 55, 52, 52, 48, 55, 51, 55, 48, 57, 53, 53, 49, 54, 49, 54]⟩ := by
        show (⟨(45 :: decDigits 18446744073709551616).toArray⟩ : ByteArray) = _
        rw [dec_top]
      rw [hz]
      have HB := Lib.hid (fun x => (Below.refl w.heap.size w).alloc (Nat.le_refl _) x)
      clear hz
      go_enter Try.func13, Try.ntmps13
      go_wp2
      go_ret
      exact ⟨rfl, HB.out _⟩
    · have hz : ((v : Int) == 18446744073709551615) = false := by rw [beq_eq_false_iff_ne]; omega
      have hw : IntKind.u64.wrap ((v : Int) + 1) = ((v + 1 : Nat) : Int) := by rw [wrap_u64_of _ (by omega) (by omega)]; omega
      have HD := Lib.hid (fun W => rdigits_any (v + 1) (by omega) W)
      have hcat : (⟨#[45]⟩ : ByteArray) ++ ⟨(decDigits (v + 1)).toArray⟩ = ⟨(printD (true, v)).toArray⟩ := cat_of [45] _
      have hsz : (⟨(decDigits (v + 1)).toArray⟩ : ByteArray).size ≤ 20 := by rw [size_of, decDigits_length]; exact nDigits_le _ (by omega)
      have HB := Lib.hid (fun x => (Below.refl w.heap.size w).alloc (Nat.le_refl _) x)
      generalize (⟨(decDigits (v + 1)).toArray⟩ : ByteArray) = Y at *
      generalize (⟨(printD (true, v)).toArray⟩ : ByteArray) = Z at *
      generalize v + 1 = v1 at *
      have HC := Lib.hid hcat
      clear hcat
      go_enter Try.func13, Try.ntmps13
      go_wp2_with fail
      refine (HD.out _).mono ?_
      rintro e w1 ⟨rfl, hb⟩
      have HB1 := Lib.hid (up_trans (HB.out _) hb)
      clear hb
      have hcat := HC.out
      go_wp2
      go_ret
      exact ⟨rfl, HB1.out⟩
end Go.Proofs.Yteonbajndghfcaa
