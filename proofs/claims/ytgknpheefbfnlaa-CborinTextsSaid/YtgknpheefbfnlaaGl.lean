/-
  The document's own Writer in a block.
-/
import Derived.Test.YtgknpheefbfnlaaGa
import Derived.OwnWalk
import Derived.BigCall
import Derived.BigGuard
import Derived.Test.YtgknpheefbfnlaaGd
import Derived.Test.YtgknpheefbfnlaaGc
/-
  CONTRACTS of the documents own Digits and Print.
-/
namespace Go.Proofs.Ytgknpheefbfnlaa
open Go.RowKit
open Go.Lib
/-- An empty text counts one. -/
def emptyV : Value → Nat
  | .string s => if s.size = 0 then 1 else 0
  | _ => 0
/-- Of a number's digits the last ones are there. -/
def DigMid (v v' : Nat) (s : List UInt8) : Prop := (s = [] ∧ v' = v) ∨ (s ≠ [] ∧ decDigits v = (if v' = 0 then [] else decDigits v') ++ s)
theorem dig_next {v v' : Nat} {s : List UInt8} (h : DigMid v v' s) (hg : 0 < v' ∨ s = []) : DigMid v (v' / 10) (UInt8.ofNat (48 + v' % 10) :: s) := by
  right
  refine ⟨by simp, ?_⟩
  have one : ∀ u : Nat, decDigits u = (if u / 10 = 0 then [] else decDigits (u / 10)) ++ [UInt8.ofNat (48 + u % 10)] := by
    intro u
    by_cases hu : u < 10
    · rw [decDigits_one (i := u) hu, if_pos (by omega), show u % 10 = u by omega]
      rfl
    · rw [if_neg (by omega), ← dec_big (by omega)]
  rcases h with ⟨rfl, rfl⟩ | ⟨hs, he⟩
  · exact one _
  · have hv : v' ≠ 0 := by
      rcases hg with h | h
      · omega
      · exact absurd h hs
    rw [he, if_neg hv, one v', List.append_assoc]
    rfl
theorem dig_len {v v' : Nat} {s : List UInt8} (hv : v < 18446744073709551617) (h : DigMid v v' s) : s.length ≤ 20 := by
  have hl : (decDigits v).length ≤ 20 := by
    rw [decDigits_length]
    exact nDigits_le v (by omega)
  rcases h with ⟨rfl, _⟩ | ⟨_, he⟩
  · simp
  · rw [he, List.length_append] at hl
    omega
set_option maxHeartbeats 1000000 in
theorem rdigits_any (v : Nat) (hv : v < 18446744073709551616) (w : World) :
    Calls Try.prog 53 #[.int .u64 v] w fun e w' => e = .returned (.string ⟨(decDigits v).toArray⟩) ∧ Below w.heap.size w w' := by
  obtain ⟨R, hR⟩ : ∃ R : ByteArray, (⟨(decDigits v).toArray⟩ : ByteArray) = R := ⟨_, rfl⟩
  rw [hR]
  have HR := Lib.hid hR
  clear hR
  go_enter Try.func53, Try.ntmps53
  go_wp2
  go_loopw [0, 3] (fun x s wr => ∃ (v' : Nat) (l : List UInt8) (S : ByteArray), x = .int .u64 v' ∧ s = .string S ∧ v' ≤ v ∧ Hid (S = ⟨l.toArray⟩ ∧ DigMid v v' l ∧ Below w.heap.size w wr)) (fun x s _ => 2 * (RowKit.intOf x).toNat + emptyV s)
  case atStart => exact ⟨v, [], ⟨#[]⟩, rfl, rfl, Nat.le_refl _, Lib.hid ⟨rfl, .inl ⟨rfl, rfl⟩, Below.refl _ _⟩⟩
  case round =>
    obtain ⟨v', l, S, rfl, rfl, hle, HM⟩ := hrel
    have hSl : S.size = l.length := by rw [HM.out.1]; exact size_of l
    have h20 : S.size ≤ 20 := by rw [hSl]; exact dig_len (by omega) HM.out.2.1
    by_cases hgo : 0 < v' ∨ l = []
    · have hc := conv_new wr [UInt8.ofNat (48 + v' % 10)] #[.int .u8 (48 + (v' : Int) % 10)] 1 rfl (by
        simp only [Lib.byteCells, List.map_cons, List.map_nil, toNat_ofNat (48 + v' % 10) (by omega)]
        congr 2) ⟨#[UInt8.ofNat (48 + v' % 10)]⟩ rfl
      obtain ⟨Y, hY⟩ : ∃ Y : ByteArray, Y = ⟨#[UInt8.ofNat (48 + v' % 10)]⟩ := ⟨_, rfl⟩
      rw [← hY] at hc
      have hYs : Y.size = 1 := by rw [hY]; rfl
      have hZ : Y ++ S = ⟨(UInt8.ofNat (48 + v' % 10) :: l).toArray⟩ := by rw [hY, HM.out.1]; exact cat_of [_] l
      obtain ⟨Z, hZZ⟩ : ∃ Z, Y ++ S = Z := ⟨_, rfl⟩
      have hZs : Z.size ≠ 0 := by rw [← hZZ, hZ, size_of]; simp
      have HN : Hid (Z = ⟨(UInt8.ofNat (48 + v' % 10) :: l).toArray⟩ ∧ DigMid v (v' / 10) (UInt8.ofNat (48 + v' % 10) :: l) ∧ Below w.heap.size w (wr.alloc (.cells #[.int .u8 (48 + (v' : Int) % 10)] 5))) :=
        Lib.hid ⟨by rw [← hZZ]; exact hZ, dig_next HM.out.2.1 hgo, HM.out.2.2.alloc HM.out.2.2.size _⟩
      have hem : emptyV (.string Z) = 0 := by simp only [emptyV]; rw [if_neg hZs]
      have HE := Lib.hid hem
      have hHS : emptyV (.string S) = if S.size = 0 then 1 else 0 := rfl
      have HHS := Lib.hid (And.intro hHS (And.intro hSl hgo))
      clear hem hHS hZ hY hZs hSl
      by_cases h0 : 0 < v'
      · have h0' : ((0 : Int) < (v' : Int)) = True := by simp only [eq_iff_iff, iff_true]; omega
        clear hgo
        go_wp2
        go_roundw
        case rel => exact ⟨v' / 10, _, Z, by go_num, rfl, by omega, HN⟩
        case measure => rw [HE.out]; simp [RowKit.intOf]; omega
      · obtain rfl : v' = 0 := by omega
        have hl0 : l = [] := by rcases hgo with h | h; omega; exact h
        have hS0 : S.size = 0 := by rw [HHS.out.2.1, hl0]; rfl
        have e1 : (S.toList = []) = True := by
          simp only [eq_iff_iff, iff_true]
          rw [ByteArray.toList_eq, ← List.length_eq_zero_iff, size_list]
          exact hS0
        have e2 : S.toList.isEmpty = true := by rw [List.isEmpty_iff]; simpa using e1
        have HS0 := Lib.hid hS0
        have hc0 : (convert 43 9 (.slice (some ⟨wr.heap.size, 0, none⟩) 1 1)).run Try.prog (wr.alloc (.cells #[.int .u8 48] 5)) = .ok (.string Y) (wr.alloc (.cells #[.int .u8 48] 5)) := hc
        have HN0 : Hid (Z = ⟨(UInt8.ofNat (48 + 0 % 10) :: l).toArray⟩ ∧ DigMid v 0 (UInt8.ofNat (48 + 0 % 10) :: l) ∧ Below w.heap.size w (wr.alloc (.cells #[.int .u8 48] 5))) := HN
        clear hgo hl0 hS0 h0 hc
        go_wp2
        go_roundw
        case rel => exact ⟨0, _, Z, by go_num, rfl, by omega, HN0⟩
        case measure => rw [HE.out, HHS.out.1, if_pos HS0.out]; simp [RowKit.intOf]
    · have hv0 : v' = 0 := by omega
      have hl0 : l ≠ [] := fun h => hgo (.inr h)
      have hne : S.size ≠ 0 := by rw [hSl]; exact fun h => hl0 (List.length_eq_zero_iff.1 h)
      have e1 : (S.toList = []) = False := by
        simp only [eq_iff_iff, iff_false]
        rw [ByteArray.toList_eq, ← List.length_eq_zero_iff, size_list]
        exact hne
      have e2 : S.toList.isEmpty = false := by
        rw [Bool.eq_false_iff]
        intro h
        rw [List.isEmpty_iff] at h
        simp [h] at e1
      have hRS : S = R := by
        rw [← HR.out, HM.out.1]
        rcases HM.out.2.1 with ⟨h, _⟩ | ⟨_, h⟩
        · exact absurd h hl0
        · rw [h, if_pos hv0]
          rfl
      subst hv0
      have HB := Lib.hid (And.intro hRS HM.out.2.2)
      clear hgo hl0 hne hSl HM hRS
      go_wp2
      go_ret
      exact ⟨by rw [HB.out.1]; rfl, HB.out.2⟩
theorem dec_top : decDigits 18446744073709551616 = [49, 56, 52, 52, 54, 55, 52, 52, 48, 55, 51, 55, 48, 57, 53, 53, 49, 54, 49, 54] := by
  simp [decDigits]
set_option maxHeartbeats 1000000 in
theorem rprint_any (m : Bool) (v : Nat) (hv : v < 18446744073709551616) (w : World) :
    Calls Try.prog 43 #[.agg #[.bool m, .int .u64 v]] w fun e w' => e = .returned (.string ⟨(printD (m, v)).toArray⟩) ∧ Below w.heap.size w w' := by
  cases m with
  | false =>
    have HD : Hid (∀ W, Calls Try.prog 53 #[.int .u64 v] W fun e w' => e = .returned (.string ⟨(printD (false, v)).toArray⟩) ∧ Below W.heap.size W w') := Lib.hid (fun W => rdigits_any v hv W)
    have HB := Lib.hid (fun x => (Below.refl w.heap.size w).alloc (Nat.le_refl _) x)
    generalize (⟨(printD (false, v)).toArray⟩ : ByteArray) = Z at *
    go_enter Try.func43, Try.ntmps43
    go_wp2_with fail
    refine (HD.out _).mono ?_
    rintro e w1 ⟨rfl, hb⟩
    have HB1 := Lib.hid (up_trans (HB.out _) hb)
    clear hb
    go_wp2
    go_ret
    exact ⟨rfl, HB1.out⟩
  | true =>
    by_cases hm : v = 18446744073709551615
    · subst hm
      have hz : (⟨(printD (true, 18446744073709551615)).toArray⟩ : ByteArray) = ⟨#[45, 49, 56, 52, 52, 54, 55, 52, 52, 48, 55, 51, 55, 48, 57, 53, 53, 49, 54, 49, 54]⟩ := by
        show (⟨(45 :: decDigits 18446744073709551616).toArray⟩ : ByteArray) = _
        rw [dec_top]
      rw [hz]
      have HB := Lib.hid (fun x => (Below.refl w.heap.size w).alloc (Nat.le_refl _) x)
      clear hz
      go_enter Try.func43, Try.ntmps43
      go_wp2
      go_ret
      exact ⟨rfl, HB.out _⟩
    · have hz : ((v : Int) == 18446744073709551615) = false := by rw [beq_eq_false_iff_ne]; omega
      have hw : IntKind.u64.wrap ((v : Int) + 1) = ((v + 1 : Nat) : Int) := by rw [wrap_u64_of _ (by omega) (by omega)]; omega
      have HD := Lib.hid (fun W => rdigits_any (v + 1) (by omega) W)
      have hcat : (⟨#[45]⟩ : ByteArray) ++ ⟨(decDigits (v + 1)).toArray⟩ = ⟨(printD (true, v)).toArray⟩ := cat_of [45] _
      have hsz : (⟨(decDigits (v + 1)).toArray⟩ : ByteArray).size ≤ 20 := by rw [size_of, decDigits_length]; exact nDigits_le _ (by omega)
      have HB := Lib.hid (fun x => (Below.refl w.heap.size w).alloc (Nat.le_refl _) x)
      generalize (⟨(decDigits (v + 1)).toArray⟩ : ByteArray) = Y at *
      generalize (⟨(printD (true, v)).toArray⟩ : ByteArray) = Z at *
      generalize v + 1 = v1 at *
      have HC := Lib.hid hcat
      clear hcat
      go_enter Try.func43, Try.ntmps43
      go_wp2_with fail
      refine (HD.out _).mono ?_
      rintro e w1 ⟨rfl, hb⟩
      have HB1 := Lib.hid (up_trans (HB.out _) hb)
      clear hb
      have hcat := HC.out
      go_wp2
      go_ret
      exact ⟨rfl, HB1.out⟩
end Go.Proofs.Ytgknpheefbfnlaa
/-
  CONTRACT of the documents own Write: the inside of a text's string.
-/
namespace Go.Proofs.Ytgknpheefbfnlaa
open Go.RowKit
open Go.Lib
theorem slice_one (s : ByteArray) (k : Nat) (h : k < s.size) (x : UInt8) (hx : s[k]'h = x) (W : World) : (Instr.slice 9 (.string s) (some (.int .i64 (k : Int))) (some (.int .i64 ((k : Int) + 1))) none).run Try.prog W = .ok (.string ⟨#[x]⟩) W := by
  have h1 := slice_str_lh s k (k + 1) (by omega) (by omega) W
  rw [show (((k + 1 : Nat) : Int)) = (k : Int) + 1 by omega] at h1
  rw [h1]
  have : s.extract k (k + 1) = ⟨#[x]⟩ := by
    apply ByteArray.ext
    apply Array.ext'
    rw [ext_list, List.take_add_one, List.getElem?_eq_getElem (by rw [size_list]; exact h), List.drop_append_of_le_length (by rw [List.length_take, size_list]; omega)]
    have : s.data.toList[k]'(by rw [size_list]; exact h) = x := hx
    rw [this, List.drop_of_length_le (by rw [List.length_take, size_list]; omega)]
    rfl
  rw [this]
theorem lit_hex : ∀ (n : Fin 16) (h : n.val < (⟨#[48, 49, 50, 51, 52, 53, 54, 55, 56, 57, 97, 98, 99, 100, 101, 102]⟩ : ByteArray).size), (⟨#[48, 49, 50, 51, 52, 53, 54, 55, 56, 57, 97, 98, 99, 100, 101, 102]⟩ : ByteArray)[n.val]'h = hexD n.val := by decide +kernel
/-- Where the document's Write stands: the text so far. -/
def WrM (l : List UInt8) (q : Nat) (T : ByteArray) : Prop := T = ⟨(escW (l.take q)).toArray⟩
theorem wrm_size {l : List UInt8} {q : Nat} {T : ByteArray} (h : WrM l q T) : T.size ≤ 6 * q := by
  rw [h, size_of]
  have := escW_len (l.take q)
  rw [List.length_take] at this
  omega
theorem wrm_next {l : List UInt8} {q : Nat} {T : ByteArray} (h : WrM l q T) (hq : q < l.length) {x : UInt8} (hx : l[q] = x) : WrM l (q + 1) (T ++ ⟨(escB x).toArray⟩) := by
  unfold WrM at h ⊢
  rw [h, cat_of, List.take_add_one, List.getElem?_eq_getElem hq, hx, escW_append]
  simp [escW]
set_option maxRecDepth 100000 in
set_option maxHeartbeats 4000000 in
theorem rwrite_any (S : ByteArray) (hS : S.size ≤ 1000) (w : World) :
    Calls Try.prog 44 #[.string S] w fun e w' => e = .returned (.string ⟨(escW S.data.toList).toArray⟩) ∧ Below w.heap.size w w' := by
  obtain ⟨R, hR⟩ : ∃ R : ByteArray, (⟨(escW S.data.toList).toArray⟩ : ByteArray) = R := ⟨_, rfl⟩
  rw [hR]
  have HR := Lib.hid hR
  clear hR
  go_enter Try.func44, Try.ntmps44
  go_wp2
  go_loopw [3, 4, 5] (fun t i _ wr => ∃ (q : Nat) (T : ByteArray), t = .string T ∧ i = .int .i64 q ∧ q ≤ S.size ∧ Hid (WrM S.data.toList q T ∧ Below w.heap.size w wr)) (fun _ i _ _ => S.size - (RowKit.intOf i).toNat)
  case atStart => exact ⟨0, ⟨#[]⟩, rfl, rfl, by omega, Lib.hid ⟨rfl, Below.refl _ _⟩⟩
  case round =>
    obtain ⟨q, T, rfl, rfl, hq, HM⟩ := hrel
    have hT6 : T.size ≤ 6000 := by have := wrm_size HM.out.1; omega
    by_cases hlt : q < S.size
    · obtain ⟨x, hx⟩ : ∃ x, S[q]'hlt = x := ⟨_, rfl⟩
      have hql : q < S.data.toList.length := by rw [size_list]; exact hlt
      have hlq : S.data.toList[q] = x := hx
      have HN := Lib.hid (wrm_next HM.out.1 hql hlq)
      have HB := Lib.hid HM.out.2
      have hsl := slice_one S q hlt x hx
      clear HM hql hlq
      by_cases c1 : x.toNat = 34 ∨ x.toNat = 92
      · have he : escB x = [92, x] := by unfold escB; rw [if_pos c1]
        obtain ⟨X, hX⟩ : ∃ X : ByteArray, (⟨#[x]⟩ : ByteArray) = X := ⟨_, rfl⟩
        obtain ⟨U, hU⟩ : ∃ U : ByteArray, T ++ ⟨#[92]⟩ = U := ⟨_, rfl⟩
        obtain ⟨Z, hZ⟩ : ∃ Z : ByteArray, U ++ X = Z := ⟨_, rfl⟩
        have hXs : X.size = 1 := by rw [← hX]; rfl
        have hUs : U.size ≤ 6001 := by rw [← hU, ByteArray.size_append]; show T.size + 1 ≤ 6001; omega
        have HNZ : Hid (WrM S.data.toList (q + 1) Z) := Lib.hid (by
          have h := HN.out
          rw [he] at h
          rw [← hZ, ← hU, ← hX, ByteArray.append_assoc]
          exact h)
        simp only [hX] at hsl
        clear hX he HN
        rcases c1 with c1 | c1
        · have n34 : ((x.toNat : Int) == 34) = true := by rw [beq_iff_eq]; omega
          clear c1
          go_wp2
          go_roundw
          case rel => exact ⟨q + 1, Z, rfl, by go_num, by omega, Lib.hid ⟨HNZ.out, HB.out⟩⟩
          case measure => simp [RowKit.intOf]; omega
        · have n34 : ((x.toNat : Int) == 34) = false := by rw [beq_eq_false_iff_ne]; omega
          have n92 : ((x.toNat : Int) == 92) = true := by rw [beq_iff_eq]; omega
          clear c1
          go_wp2
          go_roundw
          case rel => exact ⟨q + 1, Z, rfl, by go_num, by omega, Lib.hid ⟨HNZ.out, HB.out⟩⟩
          case measure => simp [RowKit.intOf]; omega
      have n34 : ((x.toNat : Int) == 34) = false := by rw [beq_eq_false_iff_ne]; omega
      have n92 : ((x.toNat : Int) == 92) = false := by rw [beq_eq_false_iff_ne]; omega
      by_cases k8 : x.toNat = 8
      · have n8 : ((x.toNat : Int) == 8) = true := by rw [beq_iff_eq]; omega
        have he : escB x = [92, 98] := by unfold escB; rw [if_neg c1]; rw [if_pos k8]
        obtain ⟨Z, hZ⟩ : ∃ Z : ByteArray, T ++ ⟨#[92, 98]⟩ = Z := ⟨_, rfl⟩
        have HNZ : Hid (WrM S.data.toList (q + 1) Z) := Lib.hid (by
          have h := HN.out
          rw [he] at h
          rw [← hZ]
          exact h)
        clear hsl he HN c1 k8
        go_wp2
        go_roundw
        case rel => exact ⟨q + 1, Z, rfl, by go_num, by omega, Lib.hid ⟨HNZ.out, HB.out⟩⟩
        case measure => simp [RowKit.intOf]; omega
      have n8 : ((x.toNat : Int) == 8) = false := by rw [beq_eq_false_iff_ne]; omega
      by_cases k12 : x.toNat = 12
      · have n12 : ((x.toNat : Int) == 12) = true := by rw [beq_iff_eq]; omega
        have he : escB x = [92, 102] := by unfold escB; rw [if_neg c1]; rw [if_neg k8]; rw [if_pos k12]
        obtain ⟨Z, hZ⟩ : ∃ Z : ByteArray, T ++ ⟨#[92, 102]⟩ = Z := ⟨_, rfl⟩
        have HNZ : Hid (WrM S.data.toList (q + 1) Z) := Lib.hid (by
          have h := HN.out
          rw [he] at h
          rw [← hZ]
          exact h)
        clear hsl he HN c1 k8 k12
        go_wp2
        go_roundw
        case rel => exact ⟨q + 1, Z, rfl, by go_num, by omega, Lib.hid ⟨HNZ.out, HB.out⟩⟩
        case measure => simp [RowKit.intOf]; omega
      have n12 : ((x.toNat : Int) == 12) = false := by rw [beq_eq_false_iff_ne]; omega
      by_cases k10 : x.toNat = 10
      · have n10 : ((x.toNat : Int) == 10) = true := by rw [beq_iff_eq]; omega
        have he : escB x = [92, 110] := by unfold escB; rw [if_neg c1]; rw [if_neg k8]; rw [if_neg k12]; rw [if_pos k10]
        obtain ⟨Z, hZ⟩ : ∃ Z : ByteArray, T ++ ⟨#[92, 110]⟩ = Z := ⟨_, rfl⟩
        have HNZ : Hid (WrM S.data.toList (q + 1) Z) := Lib.hid (by
          have h := HN.out
          rw [he] at h
          rw [← hZ]
          exact h)
        clear hsl he HN c1 k8 k12 k10
        go_wp2
        go_roundw
        case rel => exact ⟨q + 1, Z, rfl, by go_num, by omega, Lib.hid ⟨HNZ.out, HB.out⟩⟩
        case measure => simp [RowKit.intOf]; omega
      have n10 : ((x.toNat : Int) == 10) = false := by rw [beq_eq_false_iff_ne]; omega
      by_cases k13 : x.toNat = 13
      · have n13 : ((x.toNat : Int) == 13) = true := by rw [beq_iff_eq]; omega
        have he : escB x = [92, 114] := by unfold escB; rw [if_neg c1]; rw [if_neg k8]; rw [if_neg k12]; rw [if_neg k10]; rw [if_pos k13]
        obtain ⟨Z, hZ⟩ : ∃ Z : ByteArray, T ++ ⟨#[92, 114]⟩ = Z := ⟨_, rfl⟩
        have HNZ : Hid (WrM S.data.toList (q + 1) Z) := Lib.hid (by
          have h := HN.out
          rw [he] at h
          rw [← hZ]
          exact h)
        clear hsl he HN c1 k8 k12 k10 k13
        go_wp2
        go_roundw
        case rel => exact ⟨q + 1, Z, rfl, by go_num, by omega, Lib.hid ⟨HNZ.out, HB.out⟩⟩
        case measure => simp [RowKit.intOf]; omega
      have n13 : ((x.toNat : Int) == 13) = false := by rw [beq_eq_false_iff_ne]; omega
      by_cases k9 : x.toNat = 9
      · have n9 : ((x.toNat : Int) == 9) = true := by rw [beq_iff_eq]; omega
        have he : escB x = [92, 116] := by unfold escB; rw [if_neg c1]; rw [if_neg k8]; rw [if_neg k12]; rw [if_neg k10]; rw [if_neg k13]; rw [if_pos k9]
        obtain ⟨Z, hZ⟩ : ∃ Z : ByteArray, T ++ ⟨#[92, 116]⟩ = Z := ⟨_, rfl⟩
        have HNZ : Hid (WrM S.data.toList (q + 1) Z) := Lib.hid (by
          have h := HN.out
          rw [he] at h
          rw [← hZ]
          exact h)
        clear hsl he HN c1 k8 k12 k10 k13 k9
        go_wp2
        go_roundw
        case rel => exact ⟨q + 1, Z, rfl, by go_num, by omega, Lib.hid ⟨HNZ.out, HB.out⟩⟩
        case measure => simp [RowKit.intOf]; omega
      have n9 : ((x.toNat : Int) == 9) = false := by rw [beq_eq_false_iff_ne]; omega
      by_cases k32 : x.toNat < 32
      · have n32 : (((x.toNat : Nat) : Int) < 32) = True := by simp only [eq_iff_iff, iff_true]; omega
        have he : escB x = [92, 117, 48, 48, hexD (x.toNat / 16), hexD (x.toNat % 16)] := by unfold escB; rw [if_neg c1]; rw [if_neg k8]; rw [if_neg k12]; rw [if_neg k10]; rw [if_neg k13]; rw [if_neg k9]; rw [if_pos k32]
        obtain ⟨U, hU⟩ : ∃ U : ByteArray, T ++ ⟨#[92, 117, 48, 48]⟩ = U := ⟨_, rfl⟩
        obtain ⟨H, hH⟩ : ∃ H : ByteArray, (⟨#[hexD (x.toNat / 16), hexD (x.toNat % 16)]⟩ : ByteArray) = H := ⟨_, rfl⟩
        obtain ⟨Z, hZ⟩ : ∃ Z : ByteArray, U ++ H = Z := ⟨_, rfl⟩
        have hHs : H.size = 2 := by rw [← hH]; rfl
        have hUs : U.size ≤ 6004 := by rw [← hU, ByteArray.size_append]; show T.size + 4 ≤ 6004; omega
        have HNZ : Hid (WrM S.data.toList (q + 1) Z) := Lib.hid (by
          have h := HN.out
          rw [he] at h
          rw [← hZ, ← hU, ← hH, ByteArray.append_assoc]
          exact h)
        have hcv : ∀ W : World, (convert 43 9 (.slice (some ⟨W.heap.size, 0, none⟩) 2 2)).run Try.prog (W.alloc (.cells #[.int .u8 (hexD (x.toNat / 16)).toNat, .int .u8 (hexD (x.toNat % 16)).toNat] 5)) = .ok (.string H) (W.alloc (.cells #[.int .u8 (hexD (x.toNat / 16)).toNat, .int .u8 (hexD (x.toNat % 16)).toNat] 5)) :=
          fun W => conv_new W [hexD (x.toNat / 16), hexD (x.toNat % 16)] _ 2 rfl rfl H hH.symm
        have hd : x.toNat % 16 < 16 := by omega
        have hda : x.toNat / 16 < 16 := by omega
        have h1 : ∀ h, (⟨#[48, 49, 50, 51, 52, 53, 54, 55, 56, 57, 97, 98, 99, 100, 101, 102]⟩ : ByteArray)[x.toNat / 16]'h = hexD (x.toNat / 16) := fun h => lit_hex ⟨x.toNat / 16, by omega⟩ h
        have h2 : ∀ h, (⟨#[48, 49, 50, 51, 52, 53, 54, 55, 56, 57, 97, 98, 99, 100, 101, 102]⟩ : ByteArray)[x.toNat % 16]'h = hexD (x.toNat % 16) := fun h => lit_hex ⟨x.toNat % 16, hd⟩ h
        clear hsl he HN c1 k8 k12 k10 k13 k9 k32 hH
        obtain ⟨a, hae⟩ : ∃ a, x.toNat / 16 = a := ⟨_, rfl⟩
        obtain ⟨d, hde⟩ : ∃ d, x.toNat % 16 = d := ⟨_, rfl⟩
        have i1 : (x.toNat : Int) / 16 = (a : Int) := by omega
        have i2 : (x.toNat : Int) % 16 = (d : Int) := by omega
        rw [hae] at hcv h1 hda
        rw [hde] at hcv h2 hd
        generalize hexD a = A at *
        generalize hexD d = D at *
        have z1 : ¬ 9223372036854775807 < T.size + 4 := by omega
        have z2 : ¬ 9223372036854775807 < U.size + H.size := by omega
        have z3 : ¬ 9223372036854775807 < U.size + 2 := by omega
        have hcd : ∀ W : World, (convert 43 9 (.slice (some ⟨W.heap.size, 0, none⟩) 2 2)).run Try.prog ((W.alloc (.cells #[.int .u8 A.toNat, .int .u8 D.toNat] 5)).drew) = .ok (.string H) ((W.alloc (.cells #[.int .u8 A.toNat, .int .u8 D.toNat] 5)).drew) := fun W => hcv W.drew
        clear hae hde
        go_wp2
        go_region
        go_wp2
        go_roundw
        case rel => exact ⟨q + 1, Z, rfl, by go_num, by omega, Lib.hid ⟨HNZ.out, below_drw (HB.out.alloc HB.out.size _)⟩⟩
        case measure => simp [RowKit.intOf]; omega
      have n32 : (((x.toNat : Nat) : Int) < 32) = False := by simp only [eq_iff_iff, iff_false]; omega
      have he : escB x = [x] := by unfold escB; rw [if_neg c1]; rw [if_neg k8]; rw [if_neg k12]; rw [if_neg k10]; rw [if_neg k13]; rw [if_neg k9]; rw [if_neg k32]
      obtain ⟨X, hX⟩ : ∃ X : ByteArray, (⟨#[x]⟩ : ByteArray) = X := ⟨_, rfl⟩
      obtain ⟨Z, hZ⟩ : ∃ Z : ByteArray, T ++ X = Z := ⟨_, rfl⟩
      have hXs : X.size = 1 := by rw [← hX]; rfl
      have HNZ : Hid (WrM S.data.toList (q + 1) Z) := Lib.hid (by
        have h := HN.out
        rw [he] at h
        rw [← hZ, ← hX]
        exact h)
      simp only [hX] at hsl
      clear hX he HN c1 k8 k12 k10 k13 k9 k32
      go_wp2
      go_roundw
      case rel => exact ⟨q + 1, Z, rfl, by go_num, by omega, Lib.hid ⟨HNZ.out, HB.out⟩⟩
      case measure => simp [RowKit.intOf]; omega
    · have hTR : T = R := by
        rw [← HR.out, HM.out.1, List.take_of_length_le (by rw [size_list]; omega)]
      have HB := Lib.hid (And.intro hTR HM.out.2)
      clear HM hTR
      go_wp2
      go_ret
      exact ⟨by rw [HB.out.1]; rfl, HB.out.2⟩
end Go.Proofs.Ytgknpheefbfnlaa
/-
  CONTRACT of the document's own plain, for JSON: what is written of a part that is no container, nor an end.
-/
namespace Go.Proofs.Ytgknpheefbfnlaa
open Go.RowKit
open Go.Lib
set_option maxHeartbeats 2000000 in
theorem rplain_any (e : Ev) (hk : e.k = 0 ∨ e.k = 1 ∨ e.k = 2 ∨ e.k = 3) (hm : e.m < 18446744073709551616) (ht : e.t.size ≤ 1000) (w : World) :
    Calls Try.prog 35 #[.int .i64 1, evV e] w fun r w' => r = .returned (.tuple #[.string ⟨(outW e).toArray⟩, .int .i64 0]) ∧ Below w.heap.size w w' := by
  obtain ⟨k, y, m, t, c⟩ := e
  simp only [evV] at *
  have HB := Lib.hid (fun x => (Below.refl w.heap.size w).alloc (Nat.le_refl _) x)
  rcases hk with rfl | rfl | rfl | rfl
  · have ho : outW ⟨0, y, m, t, c⟩ = [110, 117, 108, 108] := by simp [outW]
    rw [ho]
    clear ho
    go_enter Try.func35, Try.ntmps35
    go_wp2
    go_ret2
    exact ⟨rfl, HB.out _⟩
  · cases y with
    | true =>
      have ho : outW ⟨1, true, m, t, c⟩ = [116, 114, 117, 101] := by simp [outW]
      rw [ho]
      clear ho
      go_enter Try.func35, Try.ntmps35
      go_wp2
      go_ret2
      exact ⟨rfl, HB.out _⟩
    | false =>
      have ho : outW ⟨1, false, m, t, c⟩ = [102, 97, 108, 115, 101] := by simp [outW]
      rw [ho]
      clear ho
      go_enter Try.func35, Try.ntmps35
      go_wp2
      go_ret2
      exact ⟨rfl, HB.out _⟩
  · have ho : outW ⟨2, y, m, t, c⟩ = printD (y, m) := by simp [outW]
    rw [ho]
    have HP := Lib.hid (fun W => rprint_any y m hm W)
    generalize (⟨(printD (y, m)).toArray⟩ : ByteArray) = Z at *
    clear ho
    go_enter Try.func35, Try.ntmps35
    go_wp2_with fail
    refine (HP.out _).mono ?_
    rintro r w1 ⟨rfl, hb⟩
    have HB1 := Lib.hid (up_trans (HB.out _) hb)
    clear hb
    go_wp2
    go_ret2
    exact ⟨rfl, HB1.out⟩
  · have ho : outW ⟨3, y, m, t, c⟩ = 34 :: escW t.data.toList ++ [34] := by simp [outW]
    rw [ho]
    have hWr := fun W0 => rwrite_any t ht W0
    obtain ⟨X, hX⟩ : ∃ X : ByteArray, (⟨(escW t.data.toList).toArray⟩ : ByteArray) = X := ⟨_, rfl⟩
    have hXs : X.size ≤ 6000 := by
      rw [← hX, size_of]
      have h1 := escW_len t.data.toList
      rw [size_list] at h1
      omega
    obtain ⟨U, hU⟩ : ∃ U, (⟨#[34]⟩ : ByteArray) ++ X = U := ⟨_, rfl⟩
    obtain ⟨Y, hY⟩ : ∃ Y, U ++ (⟨#[34]⟩ : ByteArray) = Y := ⟨_, rfl⟩
    have hUs : U.size ≤ 6001 := by rw [← hU, ByteArray.size_append]; show 1 + X.size ≤ 6001; omega
    have hYe : (⟨(34 :: escW t.data.toList ++ [34]).toArray⟩ : ByteArray) = Y := by
      rw [← hY, ← hU, ← hX]
      have e1 := cat_of [34] (escW t.data.toList)
      have e2 := cat_of ([34] ++ escW t.data.toList) [34]
      exact (by rw [show (⟨#[34]⟩ : ByteArray) = ⟨[(34 : UInt8)].toArray⟩ from rfl, e1, e2]; rfl)
    rw [hYe]
    rw [hX] at hWr
    have HWr := Lib.hid hWr
    have z1 : ¬ 9223372036854775807 < 1 + X.size := by omega
    have z2 : ¬ 9223372036854775807 < U.size + 1 := by omega
    clear ho hWr hX hYe
    go_enter Try.func35, Try.ntmps35
    go_wp2_with fail
    refine (HWr.out _).mono ?_
    rintro r w1 ⟨rfl, hb⟩
    have HB1 := Lib.hid (up_trans (HB.out _) hb)
    clear hb
    go_wp2
    go_ret2
    exact ⟨rfl, HB1.out⟩
end Go.Proofs.Ytgknpheefbfnlaa
/-
  CONTRACT of the document's own Writer, for JSON: an end; a value; a container that begins.
-/
namespace Go.Proofs.Ytgknpheefbfnlaa
open Go.RowKit
open Go.Lib
/-- A Writer of JSON in block b: the containers that are open, whether the document is at its end. -/
structure WrAt (M B : Nat) (w : World) (b : Nat) (s : List Bx) (dn : Bool) : Prop where
  cells : ∃ a cp, At w b 0 [.int .i64 1, .slice a s.length cp, .bool dn] ∧ Stk M 0 w s (.slice a s.length cp)
  blk : ∃ cs, w.heap[b]? = some (.cells cs 35 (0, 0))
  low : B ≤ w.heap.size
theorem WrAt.lt {M B : Nat} {w : World} {b : Nat} {s : List Bx} {dn : Bool} (h : WrAt M B w b s dn) : b < w.heap.size := by
  obtain ⟨cs, hc⟩ := h.blk
  exact (Array.getElem?_eq_some_iff.1 hc).1
theorem WrAt.go {M B : Nat} {w w' : World} {b : Nat} {s : List Bx} {dn : Bool} (h : WrAt M B w b s dn) (k : Below w.heap.size w w') : WrAt M B w' b s dn := by
  have hk := k.block b h.lt
  obtain ⟨a, cp, h1, h2⟩ := h.cells
  obtain ⟨cs, hc⟩ := h.blk
  exact ⟨⟨a, cp, h1.keep hk, h2.go k⟩, ⟨cs, hk.trans hc⟩, Nat.le_trans h.low k.size⟩
theorem WrAt.at_ {M B C : Nat} {w : World} {b : Nat} {s : List Bx} {dn : Bool} (h : WrAt M B w b s dn) (hC : C ≤ w.heap.size) : WrAt M C w b s dn := ⟨h.cells, h.blk, hC⟩
theorem at_three {w : World} {b : Nat} {v0 v1 v2 : Value} (h : At w b 0 [v0, v1, v2]) :
    (w.cell? ⟨b, 0, none⟩ = some v0 ∧ w.frozen? ⟨b, 0, none⟩ = false) ∧ (w.cell? ⟨b, 1, none⟩ = some v1 ∧ w.frozen? ⟨b, 1, none⟩ = false) ∧ (w.cell? ⟨b, 2, none⟩ = some v2 ∧ w.frozen? ⟨b, 2, none⟩ = false) :=
  ⟨h 0 v0 rfl, h 1 v1 rfl, h 2 v2 rfl⟩
theorem WrAt.fin {M B : Nat} {w : World} {b : Nat} {s : List Bx} {dn : Bool} (h : WrAt M B w b s dn) (q : Bool) : WrAt M B (w.setCell ⟨b, 2, none⟩ (.bool q)) b s q ∧ Bew B b w (w.setCell ⟨b, 2, none⟩ (.bool q)) := by
  obtain ⟨a, cp, h1, h2⟩ := h.cells
  obtain ⟨cs, hc⟩ := h.blk
  have hap : b ∉ Value.owner (.slice a s.length cp) := h2.win.apart (t := 35) hc (by decide)
  have hset := h1.set 2 (by simp) (.bool q)
  refine ⟨⟨⟨a, cp, by simpa using hset, ⟨h2.win.setCell_far hap _, h2.vB, h2.ok, h2.deep, h2.most⟩⟩, ⟨_, heap_setCell_at w ⟨b, 2, none⟩ _ _ _ _ rfl hc⟩, by simpa [World.setCell] using h.low⟩, (Below.refl B w).bew.set _ _⟩
set_option maxRecDepth 100000 in
set_option maxHeartbeats 4000000 in
theorem wr_end {M B b : Nat} {w : World} {bx : Bx} {r : List Bx} (h : WrAt M B w b (bx :: r) false) (y : Bool) (m : Nat) (t : ByteArray) (c : Int) (hodd : ¬ (bx.map = true ∧ bx.have_ % 2 = 1)) :
    Calls Try.prog 18 #[.pointer (some ⟨b, 0, none⟩), evV ⟨7, y, m, t, c⟩] w fun q w' => q = .returned (.tuple #[.string ⟨(writeW (bx :: r) ⟨7, y, m, t, c⟩).toArray⟩, .int .i64 0]) ∧ WrAt M B w' b r (decide (r = [])) ∧ Bew B b w w' := by
  have hw : writeW (bx :: r) ⟨7, y, m, t, c⟩ = if bx.map = true then [125] else [93] := by simp [writeW]
  rw [hw]
  have hlen : (bx :: r).length = r.length + 1 := rfl
  obtain ⟨a, cp, hA, hS⟩ := h.cells
  rw [hlen] at hA hS
  have hBw : B ≤ w.heap.size := h.low
  have HM : Hid (∀ X, Calls Try.prog 33 #[evV ⟨7, y, m, t, c⟩] (w.alloc X) fun r w' => r = .returned (.bool true) ∧ Below (w.alloc X).heap.size (w.alloc X) w') := Lib.hid fun X => by
    have := may_any ⟨7, y, m, t, c⟩ (w.alloc X)
    rwa [decide_eq_true (show mayE ⟨7, y, m, t, c⟩ from ⟨by simp, by simp, by simp⟩)] at this
  simp only [evV] at HM ⊢
  have HH := Lib.hid h
  have HS := Lib.hid hS
  have HA := Lib.hid hA
  have hA0 := (hA.alloc (by simp) (.cells #[.int .i64 7, .bool y, .int .u64 m, .string t, .int .i64 c] 40))
  obtain ⟨⟨k0, _⟩, ⟨k1, _⟩, ⟨k2, _⟩⟩ := at_three hA0
  obtain ⟨n', hn'⟩ : ∃ n', r.length = n' := ⟨_, rfl⟩
  rw [hn'] at k1
  have Hn := Lib.hid hn'
  have hn15 : n' ≤ 799 := by have := hS.deep; simp only [List.length_cons] at this; omega
  clear h hA hS hw hlen hA0 hn'
  go_enter Try.func18, Try.ntmps18
  go_wp2_with fail
  refine (HM.out _).mono ?_
  rintro e w1 ⟨rfl, hb1⟩
  have E1 := Lib.hid ((blk_new w _ _).go hb1)
  obtain ⟨⟨e0, e1, e2, e3, e4⟩, ef⟩ := E1.out.ev
  have hbw1 := up_trans (up_alloc (Below.refl w.heap.size w) (.cells #[.int .i64 7, .bool y, .int .u64 m, .string t, .int .i64 c] 40)) hb1
  have HB1 := Lib.hid hbw1
  have A1 := Lib.hid (HA.out.keep (hbw1.block b HH.out.lt))
  have D1 := Lib.hid (HS.out.go hbw1)
  rw [Hn.out] at A1
  clear hb1 ef k0 k1 k2 hbw1
  obtain ⟨⟨k0, q0⟩, ⟨k1, q1⟩, ⟨k2, q2⟩⟩ := at_three A1.out
  obtain ⟨g, off, N, cap', hv, hNa, hNb, ⟨y0, y1, y2⟩, _⟩ := D1.out.last
  injection hv with hv1 hv2 hv3
  subst hv1
  rw [Hn.out] at y0 y1 y2
  have hbh : bx.have_ ≤ 1000 := Nat.le_trans (D1.out.ok bx (by simp)).2 D1.out.most
  obtain ⟨bm, bc, bh⟩ := bx
  simp only at y0 y1 y2 hodd hbh
  have kk0 : ∀ x, (w1.alloc x).cell? ⟨b, 0, none⟩ = some (.int .i64 1) := fun x => (at_three (A1.out.alloc (by simp) x)).1.1
  have kk1 : ∀ x, (w1.alloc x).cell? ⟨b, 1, none⟩ = some (.slice (some ⟨g, off, none⟩) (n' + 1) cp) := fun x => (at_three (A1.out.alloc (by simp) x)).2.1.1
  obtain ⟨v', hsl, hw', ho'⟩ := D1.out.win.hi (P := Try.prog) (t := 33) Try.underlying33 (fun w => by kernel_rfl) r.length (by simp)
  rw [bxsL, ← bxsL_length, List.take_left, Hn.out] at hw'
  rw [Hn.out] at hsl
  obtain ⟨a', cap2, rfl, _, _⟩ := hw'.slice_form
  have HW := Lib.hid (fun x => hw'.alloc x)
  have hl1 : ((n' : Int) + 1 == 1) = decide (r = []) := by
    have h1 := Hn.out
    cases r with
    | nil => simp at h1; subst h1; rfl
    | cons x r => simp at h1; simp; omega
  generalize hR : decide (r = []) = R at hl1
  have HR := Lib.hid hR
  have hn1 : ((n' : Int) + 1 == 0) = false := by rw [beq_eq_false_iff_ne]; omega
  clear hw' ho' hNa hNb hv2 hv3 hR
  have hz : bm = true → (((bh : Int) % 2) != 0) = false := fun e => by
    simp only [bne_eq_false_iff_eq]
    have : ¬ bh % 2 = 1 := fun h2 => hodd ⟨e, h2⟩
    omega
  clear hodd
  have fin : ∀ (v3 : Value) (w3 : World), Win w3 74 3 v3 n' (bxsL r) → (w1.alloc (.cells #[.bool bm, .int .i64 bc, .int .i64 (bh : Int)] 74)).grownBy w3 (Value.slice none 0 0).ownBlock →
      (v3.ownBlock = (Value.slice none 0 0).ownBlock ∨ v3.ownBlock = some (w1.heap.size + 1) ∧ w1.heap.size + 1 < w3.heap.size) →
      (w3.cell? ⟨b, 0, none⟩ = some (.int .i64 1) ∧ (w3.cell? ⟨b, 1, none⟩ = some (.slice (some ⟨g, off, none⟩) (n' + 1) cp) ∧ w3.frozen? ⟨b, 1, none⟩ = false) ∧ (w3.cell? ⟨b, 2, none⟩ = some (.bool false) ∧ w3.frozen? ⟨b, 2, none⟩ = false)) ∧
      w3.cell? ⟨w1.heap.size, 0, none⟩ = some (.bool bm) ∧ b ≠ w1.heap.size ∧
      (∀ a3 c3, v3 = .slice a3 n' c3 → WrAt M B ((w3.setCell ⟨b, 1, none⟩ (.slice a3 n' c3)).setCell ⟨b, 2, none⟩ (.bool R)) b r R ∧ Bew B b w ((w3.setCell ⟨b, 1, none⟩ (.slice a3 n' c3)).setCell ⟨b, 2, none⟩ (.bool R))) := by
    intro v3 w3 hW3 hG3 hO3
    have hbw1 : b < w1.heap.size := Nat.lt_of_lt_of_le HH.out.lt HB1.out.size
    have hB1 : B ≤ w1.heap.size := Nat.le_trans HH.out.low HB1.out.size
    have hK := stk_new (M := M) (B := B) (s := r) (w := w1.alloc (.cells #[.bool bm, .int .i64 bc, .int .i64 (bh : Int)] 74)) (by simp; omega) (by simp [Value.owner]) Hn.out.symm rfl hW3 hG3 (by simpa using hO3) (fun x hx => D1.out.ok x (List.mem_cons_of_mem _ hx)) (by rw [Hn.out]; omega) D1.out.most
    have hblk : w3.heap[b]? = w1.heap[b]? := (hG3.block b (by simp; omega) (by simp [Value.ownBlock])).trans (Below.heap_alloc w1 _ b hbw1)
    have A3 := A1.out.keep hblk
    obtain ⟨⟨p0, _⟩, ⟨p1, p1'⟩, ⟨p2, p2'⟩⟩ := at_three A3
    have hbox : w3.cell? ⟨w1.heap.size, 0, none⟩ = some (.bool bm) := ((blk_new w1 #[.bool bm, .int .i64 bc, .int .i64 (bh : Int)] 74).lift hG3 (by simp [Value.ownBlock])).cell 0
    refine ⟨⟨p0, ⟨p1, p1'⟩, ⟨p2, p2'⟩⟩, hbox, by omega, ?_⟩
    rintro a3 c3 rfl
    obtain ⟨cs, hcs⟩ := HH.out.blk
    have hw3 : w3.heap[b]? = some (.cells cs 35 (0, 0)) := hblk.trans ((HB1.out.block b HH.out.lt).trans hcs)
    have hap : b ∉ Value.owner (.slice a3 n' c3) := hK.1.win.apart (t := 35) hw3 (by decide)
    have hset := (A3.set 1 (by simp) (.slice a3 n' c3)).set 2 (by simp) (.bool R)
    have hS3 : Stk M 0 ((w3.setCell ⟨b, 1, none⟩ (.slice a3 n' c3)).setCell ⟨b, 2, none⟩ (.bool R)) r (.slice a3 n' c3) := ⟨(hK.1.win.setCell_far hap _).setCell_far hap _, fun _ _ => Nat.zero_le _, hK.1.ok, hK.1.deep, hK.1.most⟩
    refine ⟨⟨⟨a3, c3, ?_, ?_⟩, ⟨_, heap_setCell_at _ ⟨b, 2, none⟩ _ _ _ _ rfl (heap_setCell_at w3 ⟨b, 1, none⟩ _ _ _ _ rfl hw3)⟩, by
      have := hK.2.size
      simp only [World.setCell, Array.size_modify]
      simp at this
      omega⟩, ?_⟩
    · rw [Hn.out]
      simpa using hset
    · rw [Hn.out]
      exact hS3
    · have b1 : Below B w w1 := HB1.out.mono hBw
      have b2 : Below B w (w1.alloc (.cells #[.bool bm, .int .i64 bc, .int .i64 (bh : Int)] 74)) := b1.alloc hB1 _
      exact ((b2.trans hK.2).bew.set _ _).set _ _
  have FIN := Lib.hid fin
  clear fin
  cases bm with
  | false =>
    clear hz
    go_wp2_with (at_builtin; refine wpList_append_win rfl _ _ _ rfl Try.underlying33 info_rbox rfl rfl (Win.nil_ _ _ _) _ rfl n' _ (Win.src (HW.out _) Try.underlying33 (bxsL_one _)) ?e1 ?e2 ?_)
    case e1 => unfold maxLen; omega
    case e2 => omega
    intro v3 w3 hW3 hG3 hO3
    obtain ⟨⟨p0, ⟨p1, p1'⟩, ⟨p2, p2'⟩⟩, hbox, hne, hfin⟩ := FIN.out v3 w3 (by simpa using hW3.out) hG3.out (by simpa using hO3.out)
    obtain ⟨a3, c3, rfl, _, _⟩ := Win.slice_form hW3.out
    have HFI := Lib.hid hfin
    clear hW3 hG3 hO3 hfin
    go_wp2
    go_ret2
    exact ⟨rfl, by rw [HR.out]; exact HFI.out _ _ rfl⟩
  | true =>
    have hz1 := hz rfl
    clear hz
    go_wp2_with (at_builtin; refine wpList_append_win rfl _ _ _ rfl Try.underlying33 info_rbox rfl rfl (Win.nil_ _ _ _) _ rfl n' _ (Win.src (HW.out _) Try.underlying33 (bxsL_one _)) ?e1 ?e2 ?_)
    case e1 => unfold maxLen; omega
    case e2 => omega
    intro v3 w3 hW3 hG3 hO3
    obtain ⟨⟨p0, ⟨p1, p1'⟩, ⟨p2, p2'⟩⟩, hbox, hne, hfin⟩ := FIN.out v3 w3 (by simpa using hW3.out) hG3.out (by simpa using hO3.out)
    obtain ⟨a3, c3, rfl, _, _⟩ := Win.slice_form hW3.out
    have HFI := Lib.hid hfin
    clear hW3 hG3 hO3 hfin
    go_wp2
    go_ret2
    exact ⟨rfl, by rw [HR.out]; exact HFI.out _ _ rfl⟩
end Go.Proofs.Ytgknpheefbfnlaa
/-
  CONTRACT of the document's own Writer, for CBOR (written from XRefWr): an end.
-/
namespace Go.Proofs.Ytgknpheefbfnlaa
open Go.RowKit
open Go.Lib
/-- A Writer of CBOR in block b: the containers that are open, whether the document is at its end. -/
structure WkAt (M B : Nat) (w : World) (b : Nat) (s : List Bx) (dn : Bool) : Prop where
  cells : ∃ a cp, At w b 0 [.int .i64 2, .slice a s.length cp, .bool dn] ∧ Stk M 0 w s (.slice a s.length cp)
  blk : ∃ cs, w.heap[b]? = some (.cells cs 35 (0, 0))
  low : B ≤ w.heap.size
theorem WkAt.lt {M B : Nat} {w : World} {b : Nat} {s : List Bx} {dn : Bool} (h : WkAt M B w b s dn) : b < w.heap.size := by
  obtain ⟨cs, hc⟩ := h.blk
  exact (Array.getElem?_eq_some_iff.1 hc).1
theorem WkAt.go {M B : Nat} {w w' : World} {b : Nat} {s : List Bx} {dn : Bool} (h : WkAt M B w b s dn) (k : Below w.heap.size w w') : WkAt M B w' b s dn := by
  have hk := k.block b h.lt
  obtain ⟨a, cp, h1, h2⟩ := h.cells
  obtain ⟨cs, hc⟩ := h.blk
  exact ⟨⟨a, cp, h1.keep hk, h2.go k⟩, ⟨cs, hk.trans hc⟩, Nat.le_trans h.low k.size⟩
theorem WkAt.at_ {M B C : Nat} {w : World} {b : Nat} {s : List Bx} {dn : Bool} (h : WkAt M B w b s dn) (hC : C ≤ w.heap.size) : WkAt M C w b s dn := ⟨h.cells, h.blk, hC⟩
theorem WkAt.fin {M B : Nat} {w : World} {b : Nat} {s : List Bx} {dn : Bool} (h : WkAt M B w b s dn) (q : Bool) : WkAt M B (w.setCell ⟨b, 2, none⟩ (.bool q)) b s q ∧ Bew B b w (w.setCell ⟨b, 2, none⟩ (.bool q)) := by
  obtain ⟨a, cp, h1, h2⟩ := h.cells
  obtain ⟨cs, hc⟩ := h.blk
  have hap : b ∉ Value.owner (.slice a s.length cp) := h2.win.apart (t := 35) hc (by decide)
  have hset := h1.set 2 (by simp) (.bool q)
  refine ⟨⟨⟨a, cp, by simpa using hset, ⟨h2.win.setCell_far hap _, h2.vB, h2.ok, h2.deep, h2.most⟩⟩, ⟨_, heap_setCell_at w ⟨b, 2, none⟩ _ _ _ _ rfl hc⟩, by simpa [World.setCell] using h.low⟩, (Below.refl B w).bew.set _ _⟩
set_option maxRecDepth 100000 in
set_option maxHeartbeats 4000000 in
theorem wk_end {M B b : Nat} {w : World} {bx : Bx} {r : List Bx} (h : WkAt M B w b (bx :: r) false) (y : Bool) (m : Nat) (t : ByteArray) (c : Int) (hsh : ¬ shutB bx) (hcc : bx.c ≤ 1000000) :
    Calls Try.prog 18 #[.pointer (some ⟨b, 0, none⟩), evV ⟨7, y, m, t, c⟩] w fun q w' => q = .returned (.tuple #[.string ⟨(writeK (bx :: r) ⟨7, y, m, t, c⟩).toArray⟩, .int .i64 0]) ∧ WkAt M B w' b r (decide (r = [])) ∧ Bew B b w w' := by
  have hw : writeK (bx :: r) ⟨7, y, m, t, c⟩ = if bx.c < 0 then [255] else [] := by simp [writeK]
  rw [hw]
  have hlen : (bx :: r).length = r.length + 1 := rfl
  obtain ⟨a, cp, hA, hS⟩ := h.cells
  rw [hlen] at hA hS
  have hBw : B ≤ w.heap.size := h.low
  have HM : Hid (∀ X, Calls Try.prog 33 #[evV ⟨7, y, m, t, c⟩] (w.alloc X) fun r w' => r = .returned (.bool true) ∧ Below (w.alloc X).heap.size (w.alloc X) w') := Lib.hid fun X => by
    have := may_any ⟨7, y, m, t, c⟩ (w.alloc X)
    rwa [decide_eq_true (show mayE ⟨7, y, m, t, c⟩ from ⟨by simp, by simp, by simp⟩)] at this
  simp only [evV] at HM ⊢
  have HH := Lib.hid h
  have HS := Lib.hid hS
  have HA := Lib.hid hA
  have hA0 := (hA.alloc (by simp) (.cells #[.int .i64 7, .bool y, .int .u64 m, .string t, .int .i64 c] 40))
  obtain ⟨⟨k0, _⟩, ⟨k1, _⟩, ⟨k2, _⟩⟩ := at_three hA0
  obtain ⟨n', hn'⟩ : ∃ n', r.length = n' := ⟨_, rfl⟩
  rw [hn'] at k1
  have Hn := Lib.hid hn'
  have hn15 : n' ≤ 799 := by have := hS.deep; simp only [List.length_cons] at this; omega
  clear h hA hS hw hlen hA0 hn'
  go_enter Try.func18, Try.ntmps18
  go_wp2_with fail
  refine (HM.out _).mono ?_
  rintro e w1 ⟨rfl, hb1⟩
  have E1 := Lib.hid ((blk_new w _ _).go hb1)
  obtain ⟨⟨e0, e1, e2, e3, e4⟩, ef⟩ := E1.out.ev
  have hbw1 := up_trans (up_alloc (Below.refl w.heap.size w) (.cells #[.int .i64 7, .bool y, .int .u64 m, .string t, .int .i64 c] 40)) hb1
  have HB1 := Lib.hid hbw1
  have A1 := Lib.hid (HA.out.keep (hbw1.block b HH.out.lt))
  have D1 := Lib.hid (HS.out.go hbw1)
  rw [Hn.out] at A1
  clear hb1 ef k0 k1 k2 hbw1
  obtain ⟨⟨k0, q0⟩, ⟨k1, q1⟩, ⟨k2, q2⟩⟩ := at_three A1.out
  obtain ⟨g, off, N, cap', hv, hNa, hNb, ⟨y0, y1, y2⟩, _⟩ := D1.out.last
  injection hv with hv1 hv2 hv3
  subst hv1
  rw [Hn.out] at y0 y1 y2
  have hbh : bx.have_ ≤ 1000 := Nat.le_trans (D1.out.ok bx (by simp)).2 D1.out.most
  obtain ⟨bm, bc, bh⟩ := bx
  simp only at y0 y1 y2 hsh hcc hbh
  have kk0 : ∀ x, (w1.alloc x).cell? ⟨b, 0, none⟩ = some (.int .i64 2) := fun x => (at_three (A1.out.alloc (by simp) x)).1.1
  have kk1 : ∀ x, (w1.alloc x).cell? ⟨b, 1, none⟩ = some (.slice (some ⟨g, off, none⟩) (n' + 1) cp) := fun x => (at_three (A1.out.alloc (by simp) x)).2.1.1
  obtain ⟨v', hsl, hw', ho'⟩ := D1.out.win.hi (P := Try.prog) (t := 33) Try.underlying33 (fun w => by kernel_rfl) r.length (by simp)
  rw [bxsL, ← bxsL_length, List.take_left, Hn.out] at hw'
  rw [Hn.out] at hsl
  obtain ⟨a', cap2, rfl, _, _⟩ := hw'.slice_form
  have HW := Lib.hid (fun x => hw'.alloc x)
  have hl1 : ((n' : Int) + 1 == 1) = decide (r = []) := by
    have h1 := Hn.out
    cases r with
    | nil => simp at h1; subst h1; rfl
    | cons x r => simp at h1; simp; omega
  generalize hR : decide (r = []) = R at hl1
  have HR := Lib.hid hR
  have hn1 : ((n' : Int) + 1 == 0) = false := by rw [beq_eq_false_iff_ne]; omega
  clear hw' ho' hNa hNb hv2 hv3 hR
  have hshT : bm = true → ¬ bh % 2 = 1 := fun h h2 => hsh (.inr ⟨h, h2⟩)
  have hshC : 0 ≤ bc → (bh : Int) = if bm = true then 2 * bc else bc := fun h => by
    by_cases h2 : (bh : Int) = if bm = true then 2 * bc else bc
    · exact h2
    · exact absurd (.inl ⟨h, h2⟩) hsh
  clear hsh
  have fin : ∀ (v3 : Value) (w3 : World), Win w3 74 3 v3 n' (bxsL r) → (w1.alloc (.cells #[.bool bm, .int .i64 bc, .int .i64 (bh : Int)] 74)).grownBy w3 (Value.slice none 0 0).ownBlock →
      (v3.ownBlock = (Value.slice none 0 0).ownBlock ∨ v3.ownBlock = some (w1.heap.size + 1) ∧ w1.heap.size + 1 < w3.heap.size) →
      (w3.cell? ⟨b, 0, none⟩ = some (.int .i64 2) ∧ (w3.cell? ⟨b, 1, none⟩ = some (.slice (some ⟨g, off, none⟩) (n' + 1) cp) ∧ w3.frozen? ⟨b, 1, none⟩ = false) ∧ (w3.cell? ⟨b, 2, none⟩ = some (.bool false) ∧ w3.frozen? ⟨b, 2, none⟩ = false)) ∧
      (w3.cell? ⟨w1.heap.size, 0, none⟩ = some (.bool bm) ∧ w3.cell? ⟨w1.heap.size, 1, none⟩ = some (.int .i64 bc)) ∧ b ≠ w1.heap.size ∧
      (∀ a3 c3, v3 = .slice a3 n' c3 → WkAt M B ((w3.setCell ⟨b, 1, none⟩ (.slice a3 n' c3)).setCell ⟨b, 2, none⟩ (.bool R)) b r R ∧ Bew B b w ((w3.setCell ⟨b, 1, none⟩ (.slice a3 n' c3)).setCell ⟨b, 2, none⟩ (.bool R))) := by
    intro v3 w3 hW3 hG3 hO3
    have hbw1 : b < w1.heap.size := Nat.lt_of_lt_of_le HH.out.lt HB1.out.size
    have hB1 : B ≤ w1.heap.size := Nat.le_trans HH.out.low HB1.out.size
    have hK := stk_new (M := M) (B := B) (s := r) (w := w1.alloc (.cells #[.bool bm, .int .i64 bc, .int .i64 (bh : Int)] 74)) (by simp; omega) (by simp [Value.owner]) Hn.out.symm rfl hW3 hG3 (by simpa using hO3) (fun x hx => D1.out.ok x (List.mem_cons_of_mem _ hx)) (by rw [Hn.out]; omega) D1.out.most
    have hblk : w3.heap[b]? = w1.heap[b]? := (hG3.block b (by simp; omega) (by simp [Value.ownBlock])).trans (Below.heap_alloc w1 _ b hbw1)
    have A3 := A1.out.keep hblk
    obtain ⟨⟨p0, _⟩, ⟨p1, p1'⟩, ⟨p2, p2'⟩⟩ := at_three A3
    have hbl := (blk_new w1 #[.bool bm, .int .i64 bc, .int .i64 (bh : Int)] 74).lift hG3 (by simp [Value.ownBlock])
    have hbox : w3.cell? ⟨w1.heap.size, 0, none⟩ = some (.bool bm) ∧ w3.cell? ⟨w1.heap.size, 1, none⟩ = some (.int .i64 bc) := ⟨hbl.cell 0, hbl.cell 1⟩
    refine ⟨⟨p0, ⟨p1, p1'⟩, ⟨p2, p2'⟩⟩, hbox, by omega, ?_⟩
    rintro a3 c3 rfl
    obtain ⟨cs, hcs⟩ := HH.out.blk
    have hw3 : w3.heap[b]? = some (.cells cs 35 (0, 0)) := hblk.trans ((HB1.out.block b HH.out.lt).trans hcs)
    have hap : b ∉ Value.owner (.slice a3 n' c3) := hK.1.win.apart (t := 35) hw3 (by decide)
    have hset := (A3.set 1 (by simp) (.slice a3 n' c3)).set 2 (by simp) (.bool R)
    have hS3 : Stk M 0 ((w3.setCell ⟨b, 1, none⟩ (.slice a3 n' c3)).setCell ⟨b, 2, none⟩ (.bool R)) r (.slice a3 n' c3) := ⟨(hK.1.win.setCell_far hap _).setCell_far hap _, fun _ _ => Nat.zero_le _, hK.1.ok, hK.1.deep, hK.1.most⟩
    refine ⟨⟨⟨a3, c3, ?_, ?_⟩, ⟨_, heap_setCell_at _ ⟨b, 2, none⟩ _ _ _ _ rfl (heap_setCell_at w3 ⟨b, 1, none⟩ _ _ _ _ rfl hw3)⟩, by
      have := hK.2.size
      simp only [World.setCell, Array.size_modify]
      simp at this
      omega⟩, ?_⟩
    · rw [Hn.out]
      simpa using hset
    · rw [Hn.out]
      exact hS3
    · have b1 : Below B w w1 := HB1.out.mono hBw
      have b2 : Below B w (w1.alloc (.cells #[.bool bm, .int .i64 bc, .int .i64 (bh : Int)] 74)) := b1.alloc hB1 _
      exact ((b2.trans hK.2).bew.set _ _).set _ _
  have FIN := Lib.hid fin
  clear fin
  cases bm with
  | false =>
   by_cases hn : bc < 0
   · have hz : (0 ≤ bc) = False := by simp only [eq_iff_iff, iff_false]; omega
     have hzn : (bc < 0) = True := by simp only [eq_iff_iff, iff_true]; omega
     have HC := Lib.hid hcc
     have HN := Lib.hid hn
     clear hshT hshC hcc hn
     go_wp2_with (at_builtin; refine wpList_append_win rfl _ _ _ rfl Try.underlying33 info_rbox rfl rfl (Win.nil_ _ _ _) _ rfl n' _ (Win.src (HW.out _) Try.underlying33 (bxsL_one _)) ?e1 ?e2 ?_)
     case e1 => unfold maxLen; omega
     case e2 => omega
     intro v3 w3 hW3 hG3 hO3
     obtain ⟨⟨p0, ⟨p1, p1'⟩, ⟨p2, p2'⟩⟩, ⟨hbox, hbox1⟩, hne, hfin⟩ := FIN.out v3 w3 (by simpa using hW3.out) hG3.out (by simpa using hO3.out)
     obtain ⟨a3, c3, rfl, _, _⟩ := Win.slice_form hW3.out
     have HFI := Lib.hid hfin
     clear hW3 hG3 hO3 hfin
     go_wp2
     go_ret2
     exact ⟨rfl, by rw [HR.out]; exact HFI.out _ _ rfl⟩
   · have hz : (0 ≤ bc) = True := by simp only [eq_iff_iff, iff_true]; omega
     have hzn : (bc < 0) = False := by simp only [eq_iff_iff, iff_false]; omega
     have hq := hshC (by omega)
     have hz2 : ((bh : Int) != bc) = false := by rw [if_neg (by decide)] at hq; simp [hq]
     clear hq
     have HC := Lib.hid hcc
     have HN := Lib.hid hn
     clear hshT hshC hcc hn
     go_wp2_with (at_builtin; refine wpList_append_win rfl _ _ _ rfl Try.underlying33 info_rbox rfl rfl (Win.nil_ _ _ _) _ rfl n' _ (Win.src (HW.out _) Try.underlying33 (bxsL_one _)) ?e1 ?e2 ?_)
     case e1 => unfold maxLen; omega
     case e2 => omega
     intro v3 w3 hW3 hG3 hO3
     obtain ⟨⟨p0, ⟨p1, p1'⟩, ⟨p2, p2'⟩⟩, ⟨hbox, hbox1⟩, hne, hfin⟩ := FIN.out v3 w3 (by simpa using hW3.out) hG3.out (by simpa using hO3.out)
     obtain ⟨a3, c3, rfl, _, _⟩ := Win.slice_form hW3.out
     have HFI := Lib.hid hfin
     clear hW3 hG3 hO3 hfin
     go_wp2
     go_ret2
     exact ⟨rfl, by rw [HR.out]; exact HFI.out _ _ rfl⟩
  | true =>
   by_cases hn : bc < 0
   · have hz3 : (((bh : Int) % 2) != 0) = false := by simp only [bne_eq_false_iff_eq]; have := hshT rfl; omega
     have hz : (0 ≤ bc) = False := by simp only [eq_iff_iff, iff_false]; omega
     have hzn : (bc < 0) = True := by simp only [eq_iff_iff, iff_true]; omega
     have HC := Lib.hid hcc
     have HN := Lib.hid hn
     clear hshT hshC hcc hn
     go_wp2_with (at_builtin; refine wpList_append_win rfl _ _ _ rfl Try.underlying33 info_rbox rfl rfl (Win.nil_ _ _ _) _ rfl n' _ (Win.src (HW.out _) Try.underlying33 (bxsL_one _)) ?e1 ?e2 ?_)
     case e1 => unfold maxLen; omega
     case e2 => omega
     intro v3 w3 hW3 hG3 hO3
     obtain ⟨⟨p0, ⟨p1, p1'⟩, ⟨p2, p2'⟩⟩, ⟨hbox, hbox1⟩, hne, hfin⟩ := FIN.out v3 w3 (by simpa using hW3.out) hG3.out (by simpa using hO3.out)
     obtain ⟨a3, c3, rfl, _, _⟩ := Win.slice_form hW3.out
     have HFI := Lib.hid hfin
     clear hW3 hG3 hO3 hfin
     go_wp2
     go_ret2
     exact ⟨rfl, by rw [HR.out]; exact HFI.out _ _ rfl⟩
   · have hz3 : (((bh : Int) % 2) != 0) = false := by simp only [bne_eq_false_iff_eq]; have := hshT rfl; omega
     have hz : (0 ≤ bc) = True := by simp only [eq_iff_iff, iff_true]; omega
     have hzn : (bc < 0) = False := by simp only [eq_iff_iff, iff_false]; omega
     have hq := hshC (by omega)
     have hz2 : ((bh : Int) != RowKit.wrap64 (2 * bc)) = false := by rw [show RowKit.wrap64 (2 * bc) = 2 * bc by unfold RowKit.wrap64; omega]; rw [if_pos rfl] at hq; simp [hq]
     have hg : (2305843009213693952 < bc) = False := by simp only [eq_iff_iff, iff_false]; omega
     clear hq
     have HC := Lib.hid hcc
     have HN := Lib.hid hn
     clear hshT hshC hcc hn
     go_wp2_with (at_builtin; refine wpList_append_win rfl _ _ _ rfl Try.underlying33 info_rbox rfl rfl (Win.nil_ _ _ _) _ rfl n' _ (Win.src (HW.out _) Try.underlying33 (bxsL_one _)) ?e1 ?e2 ?_)
     case e1 => unfold maxLen; omega
     case e2 => omega
     intro v3 w3 hW3 hG3 hO3
     obtain ⟨⟨p0, ⟨p1, p1'⟩, ⟨p2, p2'⟩⟩, ⟨hbox, hbox1⟩, hne, hfin⟩ := FIN.out v3 w3 (by simpa using hW3.out) hG3.out (by simpa using hO3.out)
     obtain ⟨a3, c3, rfl, _, _⟩ := Win.slice_form hW3.out
     have HFI := Lib.hid hfin
     clear hW3 hG3 hO3 hfin
     go_wp2
     go_ret2
     exact ⟨rfl, by rw [HR.out]; exact HFI.out _ _ rfl⟩
end Go.Proofs.Ytgknpheefbfnlaa
