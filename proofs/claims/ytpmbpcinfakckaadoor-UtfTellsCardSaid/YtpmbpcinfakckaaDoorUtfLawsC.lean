/-
  LAWS of chapter 4: UtfBad.
-/
import Derived.Test.YtpmbpcinfakckaaDoorUtfAlive
namespace Go.Proofs.YtpmbpcinfakckaaDoor
open Go.RowKit
open Go.Lib
theorem u8_ex (n : Int) (h : 0 ≤ n ∧ n ≤ 255) : ∃ b : UInt8, n = ((b.toNat : Nat) : Int) := ⟨UInt8.ofNat n.toNat, by rw [toNat_ofNat _ (by omega)]; omega⟩
/-- A Check of a law's own, in a world that grew. -/
def CIs (B : Nat) (w0 w : World) (p : Nat) (s : Option (Nat × Nat × Nat)) : Prop := CAt w p s ∧ Below B w0 w ∧ B ≤ p
theorem CIs.post {B : Nat} {w0 w w' : World} {p : Nat} {s s' : Option (Nat × Nat × Nat)} (h : CIs B w0 w p s) (hB : B ≤ w0.heap.size) (hp : CPost w p s' w') : CIs B w0 w' p s' :=
  ⟨hp.1, step_below h.2.1 hp.2 h.2.2 (Nat.le_trans hB h.2.1.size), h.2.2⟩
set_option maxRecDepth 100000 in
set_option maxHeartbeats 1600000 in
theorem bad_main (s : ByteArray) (b : UInt8) (t : ByteArray) (hs : s.size ≤ 60) (ht : t.size ≤ 60) (w : World) (hT : Tabs w) :
    Calls Tryd.prog 7 #[.string s, .int .u8 b.toNat, .string t] w fun e w' => e = .returned (.bool true) ∧ Below w.heap.size w w' := by
  have HA := Lib.hid (alive_any w hT)
  have HT := Lib.hid hT
  have hTl := hT.lt
  have hls := size_list s
  have c1 : ¬ (60 : Int) < (s.size : Int) := by omega
  have c2 : ¬ (60 : Int) < (t.size : Int) := by omega
  clear hT
  go_enter Tryd.func7, Tryd.ntmps7
  go_wp2_with fail
  refine HA.out.mono ?_
  rintro e w1 ⟨rfl, b1⟩
  obtain ⟨p, hp⟩ : ∃ p, p = w1.heap.size := ⟨_, rfl⟩
  have hsz := b1.size
  have H0 : Hid (CIs w.heap.size w (w1.alloc (.cells #[.int .i64 0, .int .u8 0, .int .u8 0, .bool false] 25)) p st0) :=
    Lib.hid ⟨by rw [hp]; exact cat_new w1, b1.alloc hsz _, by omega⟩
  clear b1 HA
  go_wp2
  rw [← hp]
  clear hp hsz
  generalize w1.alloc (.cells #[.int .i64 0, .int .u8 0, .int .u8 0, .bool false] 25) = W at H0 ⊢
  go_loopw [8] (fun i wr => ∃ k : Nat, k ≤ s.size ∧ i = .int .i64 k ∧ Hid (CIs w.heap.size w wr p (runS st0 (s.data.toList.take k)))) (fun i _ => s.size - (RowKit.intOf i).toNat)
  case atStart => exact ⟨0, Nat.zero_le _, rfl, H0⟩
  case round =>
    obtain ⟨k, hk, rfl, HC⟩ := hrel
    clear H0
    by_cases hlt : k < s.size
    · obtain ⟨x, hx⟩ : ∃ x, s[k]'hlt = x := ⟨_, rfl⟩
      have hsn := runS_snoc st0 s.data.toList k (by omega)
      rw [show s.data.toList[k]'(by omega) = x from hx] at hsn
      have HS := Lib.hid hsn
      clear hsn
      go_wp2_with fail
      refine (step_at HC.out.1 x).mono ?_
      rintro e w2 ⟨rfl, hp2⟩
      have HN : Hid (CIs w.heap.size w w2 p (runS st0 (s.data.toList.take (k + 1)))) := by
        rw [HS.out]
        exact Lib.hid (HC.out.post (Nat.le_refl _) hp2)
      clear hp2 HC HS
      go_wp2
      go_roundw
      case rel => exact ⟨k + 1, by omega, by go_num, HN⟩
      case measure => simp [RowKit.intOf]; omega
    · rw [show s.data.toList.take k = s.data.toList from List.take_of_length_le (by omega)] at HC
      go_wp2_with fail
      refine (step_at HC.out.1 b).mono ?_
      rintro e w2 ⟨rfl, hp2⟩
      have HN := Lib.hid (HC.out.post (Nat.le_refl _) hp2)
      clear hp2 HC
      cases hst : stepS (runS st0 s.data.toList) b with
      | some q =>
        rw [hst] at HN
        simp only [Option.isSome]
        go_wp2_with fail
        refine (bad_at HN.out.1).mono ?_
        rintro e w' ⟨rfl, rfl⟩
        simp only [Option.isNone]
        go_wp2
        go_ret
        exact ⟨rfl, HN.out.2.1⟩
      | none =>
        rw [hst] at HN
        simp only [Option.isSome]
        have hinv : validD (s.data.toList ++ [b] ++ t.data.toList) = false := by
          rw [valid_run, runS_append, runS_append, runS_cons, runS_nil, hst, runS_none]
          rfl
        have HV := Lib.hid hinv
        clear hinv hst
        go_wp2
        go_loopw [9] (fun i wr => ∃ k : Nat, k ≤ t.size ∧ i = .int .i64 k ∧ Hid (CIs w.heap.size w wr p none)) (fun i _ => t.size - (RowKit.intOf i).toNat)
        case atStart => exact ⟨0, Nat.zero_le _, rfl, HN⟩
        case round =>
          obtain ⟨k, hk, rfl, HC⟩ := hrel
          clear HN
          by_cases hlt : k < t.size
          · obtain ⟨x, hx⟩ : ∃ x, t[k]'hlt = x := ⟨_, rfl⟩
            go_wp2_with fail
            refine (step_at HC.out.1 x).mono ?_
            rintro e w3 ⟨rfl, hp3⟩
            have HN : Hid (CIs w.heap.size w w3 p none) := Lib.hid (HC.out.post (Nat.le_refl _) hp3)
            clear hp3 HC
            simp only [stepS, Option.isSome]
            go_wp2
            go_roundw
            case rel => exact ⟨k + 1, by omega, by go_num, HN⟩
            case measure => simp [RowKit.intOf]; omega
          · go_wp2_with fail
            refine (bad_at HC.out.1).mono ?_
            rintro e w' ⟨rfl, rfl⟩
            simp only [Option.isNone]
            go_wp2_with fail
            refine (whole_at HC.out.1).mono ?_
            rintro e w' ⟨rfl, rfl⟩
            simp only [wholeS]
            have hcv := conv_new wr [b] #[.int .u8 b.toNat] 1 rfl rfl ⟨#[b]⟩ rfl
            have hbig : ¬ 9223372036854775807 < s.size + (⟨#[b]⟩ : ByteArray).size := by show ¬ 9223372036854775807 < s.size + 1; omega
            have hz : (s ++ (⟨#[b]⟩ : ByteArray)).size = s.size + 1 := by rw [ByteArray.size_append]; rfl
            have hbig2 : ¬ 9223372036854775807 < (s ++ (⟨#[b]⟩ : ByteArray)).size + t.size := by omega
            have T2 : Hid (Tabs (wr.alloc (.cells #[.int .u8 b.toNat] 5))) := Lib.hid (HT.out.below (HC.out.2.1.alloc HC.out.2.1.size _) hTl)
            have hlst : (s ++ (⟨#[b]⟩ : ByteArray) ++ t).data.toList = s.data.toList ++ [b] ++ t.data.toList := by simp
            have hsz : (s ++ (⟨#[b]⟩ : ByteArray) ++ t).size = s.size + 1 + t.size := by rw [ByteArray.size_append, hz]
            rw [← hlst] at HV
            have BB := Lib.hid (HC.out.2.1.alloc HC.out.2.1.size (.cells #[.int .u8 b.toNat] 5))
            clear hlst hz
            go_wp2_with fail
            refine (valid_lit _ _ (by omega) T2.out false HV.out).mono ?_
            rintro e w5 ⟨rfl, b5⟩
            have B5 := Lib.hid (BB.out.trans (b5.mono BB.out.size))
            clear b5
            go_wp2
            go_ret
            exact ⟨rfl, B5.out⟩
set_option maxRecDepth 100000 in
set_option maxHeartbeats 400000 in
theorem bad_long (s : ByteArray) (b : Int) (t : ByteArray) (h : 60 < s.size ∨ 60 < t.size) (w : World) (hT : Tabs w) :
    Calls Tryd.prog 7 #[.string s, .int .u8 b, .string t] w fun e w' => e = .returned (.bool true) ∧ Below w.heap.size w w' := by
  have HA := Lib.hid (alive_any w hT)
  clear hT
  by_cases h1 : (60 : Int) < (s.size : Int)
  · clear h
    go_enter Tryd.func7, Tryd.ntmps7
    go_wp2_with fail
    refine HA.out.mono ?_
    rintro e w1 ⟨rfl, b1⟩
    go_wp2
    go_ret
    exact ⟨rfl, b1⟩
  · have h2 : (60 : Int) < (t.size : Int) := by omega
    clear h
    go_enter Tryd.func7, Tryd.ntmps7
    go_wp2_with fail
    refine HA.out.mono ?_
    rintro e w1 ⟨rfl, b1⟩
    go_wp2
    go_ret
    exact ⟨rfl, b1⟩
theorem bad_any (s : ByteArray) (n : Int) (t : ByteArray) (w : World) (_ : s.size ≤ 140737488351232) (hn : 0 ≤ n ∧ n ≤ 255) (_ : t.size ≤ 140737488351232) (hT : Tabs w) :
    Calls Tryd.prog 7 #[.string s, .int .u8 n, .string t] w fun e w' => e = .returned (.bool true) ∧ Below w.heap.size w w' := by
  by_cases h : 60 < s.size ∨ 60 < t.size
  · exact bad_long s n t h w hT
  · obtain ⟨b, rfl⟩ := u8_ex n hn
    exact bad_main s b t (by omega) (by omega) w hT
end Go.Proofs.YtpmbpcinfakckaaDoor
