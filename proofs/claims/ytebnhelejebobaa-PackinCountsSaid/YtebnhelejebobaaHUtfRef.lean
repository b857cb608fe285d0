/-
  CONTRACTS of the documents own Utf and Valid, and of utf.Runes.
-/
import Derived.Test.YtebnhelejebobaaG0c
import Derived.Laws.RangeAny
import Derived.Lib.OthersKept
/-
  CONTRACTS of the documents own Utf and Valid, and of utf.Runes.
-/
namespace Go.Proofs.Ytebnhelejebobaa
open Go.RowKit
open Go.Lib
theorem leadN_cases (b : UInt8) : (stepS st0 b = none ∧ leadN b.toNat = (0, 0, 0)) ∨
    ∃ m lo hi, m ≤ 3 ∧ (m = 0 → lo = 0 ∧ hi = 0) ∧ stepS st0 b = some (m, lo, hi) ∧ leadN b.toNat = (m + 1, lo, hi) := by
  have hs : stepS st0 b = openS b.toNat := rfl
  rw [hs]
  unfold leadN
  cases ho : openS b.toNat with
  | none => exact .inl ⟨rfl, rfl⟩
  | some p =>
    obtain ⟨m, lo, hi⟩ := p
    by_cases hb : b.toNat < 128
    · have : openS b.toNat = some (0, 0, 0) := by unfold openS; rw [if_pos hb]
      rw [ho] at this
      injection this with this
      injection this with e1 e2
      injection e2 with e2 e3
      subst e1; subst e2; subst e3
      exact .inr ⟨0, 0, 0, by omega, fun _ => ⟨rfl, rfl⟩, rfl, rfl⟩
    · obtain ⟨hm, _⟩ := openS_pos _ _ _ _ ho (by omega)
      refine .inr ⟨m, lo, hi, by omega, fun h => by omega, rfl, ?_⟩
      rcases hm with rfl | rfl | rfl <;> rfl
theorem run_none_of (s : Option (Nat × Nat × Nat)) (l : List UInt8) (i : Nat) (h : runS s (l.take i) = none) : runS s l = none := by
  rw [← List.take_append_drop i l, runS_append, h, runS_none]
/-- Where the inner loop stands behind k bytes of a rune. -/
def midS (m lo hi k : Nat) : Nat × Nat × Nat := if k = 1 then (m, lo, hi) else stN (m + 1 - k)
theorem umid_step {m lo hi k : Nat} (h0 : 1 ≤ k) (hk : k < m + 1) (b : UInt8) (h1 : k = 1 → lo ≤ b.toNat ∧ b.toNat ≤ hi) (h2 : 1 < k → 128 ≤ b.toNat ∧ b.toNat ≤ 191) : stepS (some (midS m lo hi k)) b = some (midS m lo hi (k + 1)) := by
  unfold midS
  rw [if_neg (show ¬ k + 1 = 1 by omega)]
  by_cases hk1 : k = 1
  · subst hk1
    obtain ⟨m', rfl⟩ : ∃ m', m = m' + 1 := ⟨m - 1, by omega⟩
    rw [if_pos rfl, step_in _ _ _ _ (h1 rfl)]
    congr 2 <;> omega
  · rw [if_neg hk1]
    have e : stN (m + 1 - k) = (m - k + 1, 128, 191) := by
      unfold stN
      rw [if_neg (by omega), show m + 1 - k = m - k + 1 by omega]
    rw [e, step_in _ _ _ _ (h2 (by omega))]
    congr 2 <;> omega
theorem mid_none {m lo hi k : Nat} (h0 : 1 ≤ k) (hk : k < m + 1) (b : UInt8) (h1 : k = 1 ∧ (b.toNat < lo ∨ hi < b.toNat) ∨ 1 < k ∧ (b.toNat < 128 ∨ 191 < b.toNat)) : stepS (some (midS m lo hi k)) b = none := by
  unfold midS
  by_cases hk1 : k = 1
  · subst hk1
    obtain ⟨m', rfl⟩ : ∃ m', m = m' + 1 := ⟨m - 1, by omega⟩
    rw [if_pos rfl]
    simp only [stepS]
    rw [if_pos (by omega)]
  · rw [if_neg hk1]
    have e : stN (m + 1 - k) = (m - k + 1, 128, 191) := by
      unfold stN
      rw [if_neg (by omega), show m + 1 - k = m - k + 1 by omega]
    rw [e]
    simp only [stepS]
    rw [if_pos (by omega)]
theorem mid_lacks (m lo hi k : Nat) : (midS m lo hi k).1 = m + 1 - k := by
  unfold midS stN
  split
  · show m = _; omega
  · split
    · show 0 = _; omega
    · rfl
def RefPost (s : ByteArray) (a b : Int) : Prop := ∃ k : Nat, a = (goodN st0 s.data.toList : Nat) ∧ b = k ∧ ∀ n lo hi, runS st0 s.data.toList = some (n, lo, hi) → k = n
theorem post_all {s : ByteArray} {j : Nat} {p : Nat × Nat × Nat} (hj : j = s.size) (h : runS st0 (s.data.toList.take j) = some p) : RefPost s s.size p.1 := by
  have hl : s.data.toList.length = s.size := size_list s
  rw [List.take_of_length_le (by omega)] at h
  refine ⟨p.1, by rw [good_all _ _ (by rw [h]; simp), hl], rfl, fun n lo hi e => ?_⟩
  rw [h] at e
  injection e with e
  rw [e]
theorem post_bad {s : ByteArray} {j k : Nat} {p : Nat × Nat × Nat} (hj : j < s.size) (h : runS st0 (s.data.toList.take j) = some p) (x : UInt8) (hx : s[j]'hj = x) (hb : stepS (some p) x = none) : RefPost s j k := by
  have hl : s.data.toList.length = s.size := size_list s
  have hx' : s.data.toList[j]'(by omega) = x := hx
  refine ⟨k, ?_, rfl, fun n lo hi e => ?_⟩
  · rw [good_at st0 s.data.toList j (by omega) (by rw [h]; simp) (by rw [h, hx']; exact hb)]
  · have := run_none_of st0 s.data.toList (j + 1) (by rw [runS_snoc st0 _ j (by omega), h, hx']; exact hb)
    rw [this] at e
    cases e
set_option maxRecDepth 100000 in
set_option maxHeartbeats 4000000 in
theorem refutf_any (s : ByteArray) (w : World) (hs : s.size ≤ 1000000) :
    Calls Try.prog 37 #[.string s] w fun e w' => (∃ a b : Int, e = .returned (.tuple #[.int .i64 a, .int .i64 b]) ∧ RefPost s a b) ∧ w = w' := by
  have hl : s.data.toList.length = s.size := size_list s
  go_enter Try.func37, Try.ntmps37
  go_wp2
  go_loop [4, 5, 6, 7, 8, 9] (fun i _ _ _ _ _ => ∃ j : Nat, j ≤ s.size ∧ i = .int .i64 j ∧ Hid (runS st0 (s.data.toList.take j) = st0)) (fun i _ _ _ _ _ => s.size - (RowKit.intOf i).toNat)
  case atStart => exact ⟨0, Nat.zero_le _, rfl, Lib.hid rfl⟩
  case round =>
    obtain ⟨j, hj, rfl, hA⟩ := hrel
    by_cases hlt : j < s.size
    · obtain ⟨x, hx⟩ : ∃ x, s[j]'hlt = x := ⟨_, rfl⟩
      have HX := Lib.hid hx
      have hsn := runS_snoc st0 s.data.toList j (by omega)
      rw [hA.out, show s.data.toList[j]'(by omega) = x from hx] at hsn
      have hL := lead_any x.toNat
      rcases leadN_cases x with ⟨hn, hl0⟩ | ⟨m, lo, hi, hm, hm0, hn, hl0⟩
      · rw [hl0] at hL
        have HL := Lib.hid hL
        have HP := Lib.hid (post_bad (k := 0) hlt hA.out x hx hn)
        clear hL hsn hn hl0 hl
        go_wp2_with fail
        refine (HL.out _).mono ?_
        rintro e w' ⟨rfl, rfl⟩
        go_wp2
        refine bodyPost_ret (results_tmp2 rfl _ _ _) rfl ?_
        exact ⟨⟨_, _, rfl, HP.out⟩, rfl⟩
      · rw [hl0] at hL
        rw [hn] at hsn
        have HL := Lib.hid hL
        have HS := Lib.hid (show runS st0 (s.data.toList.take (j + 1)) = some (midS m lo hi 1) from hsn)
        clear hL hsn hn hl0 hl hA HX
        go_wp2_with fail
        refine (HL.out _).mono ?_
        rintro e w' ⟨rfl, rfl⟩
        go_wp2
        go_loop [8, 9] (fun i _ => ∃ k : Nat, 1 ≤ k ∧ k ≤ m + 1 ∧ j + k ≤ s.size ∧ i = .int .i64 k ∧ Hid (runS st0 (s.data.toList.take (j + k)) = some (midS m lo hi k))) (fun i _ => m + 1 - (RowKit.intOf i).toNat)
        case atStart => exact ⟨1, by omega, by omega, by omega, rfl, HS⟩
        case round =>
          obtain ⟨k, hk1, hkm, hjk, rfl, HB⟩ := hrel
          by_cases hlk : k < m + 1
          · have hlkz : (k : Int) < ((m + 1 : Nat) : Int) := by omega
            have hsub : ((m + 1 : Nat) : Int) - (k : Int) = ((m + 1 - k : Nat) : Int) := by omega
            by_cases hend : j + k = s.size
            · have hge : (s.size : Int) ≤ (j : Int) + (k : Int) := by omega
              have hp := post_all hend HB.out
              rw [mid_lacks, show ((m + 1 - k : Nat) : Int) = (m : Int) + 1 - (k : Int) by omega] at hp
              have HP := Lib.hid hp
              clear hp HB HS hx
              go_wp2
              refine bodyPost_ret (results_tmp2 rfl _ _ _) rfl ?_
              exact ⟨⟨_, _, rfl, HP.out⟩, rfl⟩
            · have hlt2 : j + k < s.size := by omega
              have hge : ¬ (s.size : Int) ≤ (j : Int) + (k : Int) := by omega
              obtain ⟨y, hy⟩ : ∃ y, s[j + k]'hlt2 = y := ⟨_, rfl⟩
              have hls : s.data.toList.length = s.size := size_list s
              have hy' : s.data.toList[j + k]'(by omega) = y := hy
              have hsn := runS_snoc st0 s.data.toList (j + k) (by omega)
              rw [HB.out, hy'] at hsn
              by_cases hbad : k = 1 ∧ (y.toNat < lo ∨ hi < y.toNat) ∨ 1 < k ∧ (y.toNat < 128 ∨ 191 < y.toNat)
              · have hnone := mid_none hk1 hlk y hbad
                have hp := post_bad (k := m + 1 - k) hlt2 HB.out y hy hnone
                rw [show ((j + k : Nat) : Int) = (j : Int) + (k : Int) by omega, show ((m + 1 - k : Nat) : Int) = (m : Int) + 1 - (k : Int) by omega] at hp
                clear hsn HB HS hx hy' hls hnone hm0 HL
                by_cases hk1' : k = 1
                · subst hk1'
                  have HP : Hid (RefPost s ((j : Int) + 1) (m : Int)) := by
                    rw [show (m : Int) + 1 - ((1 : Nat) : Int) = m by omega] at hp
                    exact Lib.hid hp
                  clear hp
                  by_cases hb1 : ((y.toNat : Nat) : Int) < (lo : Int)
                  · skip
                    clear hbad
                    go_wp2
                    refine bodyPost_ret (results_tmp2 rfl _ _ _) rfl ?_
                    exact ⟨⟨_, _, rfl, HP.out⟩, rfl⟩
                  · have hb2 : (hi : Int) < ((y.toNat : Nat) : Int) := by omega
                    clear hbad
                    go_wp2
                    refine bodyPost_ret (results_tmp2 rfl _ _ _) rfl ?_
                    exact ⟨⟨_, _, rfl, HP.out⟩, rfl⟩
                · have hkz : ((k : Int) == 1) = false := by rw [beq_eq_false_iff_ne]; omega
                  have hk2 : (1 : Int) < (k : Int) := by omega
                  have HP := Lib.hid hp
                  clear hp
                  by_cases hb1 : ((y.toNat : Nat) : Int) < 128
                  · skip
                    clear hbad
                    go_wp2
                    refine bodyPost_ret (results_tmp2 rfl _ _ _) rfl ?_
                    exact ⟨⟨_, _, rfl, HP.out⟩, rfl⟩
                  · have hb2 : (191 : Int) < ((y.toNat : Nat) : Int) := by omega
                    clear hbad
                    go_wp2
                    refine bodyPost_ret (results_tmp2 rfl _ _ _) rfl ?_
                    exact ⟨⟨_, _, rfl, HP.out⟩, rfl⟩
              · have hgood : stepS (some (midS m lo hi k)) y = some (midS m lo hi (k + 1)) := umid_step hk1 hlk y (by omega) (by omega)
                rw [hgood] at hsn
                have HN := Lib.hid hsn
                clear hsn hgood HB HS hx hy' hls hm0 HL
                by_cases hk1' : k = 1
                · subst hk1'
                  have hb1 : ¬ ((y.toNat : Nat) : Int) < (lo : Int) := by omega
                  have hb2 : ¬ (hi : Int) < ((y.toNat : Nat) : Int) := by omega
                  clear hbad
                  go_wp2
                  go_round
                  case rel => exact ⟨1 + 1, by omega, by omega, by omega, by go_num, HN⟩
                  case measure => simp [RowKit.intOf]; omega
                · have hkz : ((k : Int) == 1) = false := by rw [beq_eq_false_iff_ne]; omega
                  have hk2 : (1 : Int) < (k : Int) := by omega
                  have hb1 : ¬ ((y.toNat : Nat) : Int) < 128 := by omega
                  have hb2 : ¬ (191 : Int) < ((y.toNat : Nat) : Int) := by omega
                  clear hbad
                  go_wp2
                  refine ⟨⟨trivial, ?_⟩, ?_⟩
                  · repeat apply Exists.intro
                    exact ⟨⟨k + 1, by omega, by omega, by omega, by go_num, HN⟩, rfl⟩
                  · simp [RowKit.intOf]; omega
          · have hek : k = m + 1 := by omega
            subst hek
            have hlkz : ¬ ((m + 1 : Nat) : Int) < ((m + 1 : Nat) : Int) := by omega
            have hfin : runS st0 (s.data.toList.take (j + (m + 1))) = st0 := by
              rw [HB.out]
              unfold midS
              by_cases h0 : m = 0
              · obtain ⟨rfl, rfl⟩ := hm0 h0
                subst h0
                rfl
              · rw [if_neg (by omega)]
                simp [stN, st0]
            have HN := Lib.hid hfin
            clear hfin HB HS hx
            go_wp2
            go_round
            case rel => exact ⟨j + (m + 1), by omega, by go_num, HN⟩
            case measure => simp [RowKit.intOf]; omega
    · go_wp2
      refine bodyPost_ret (results_tmp2 rfl _ _ _) rfl ?_
      have he : j = s.size := by omega
      have := post_all he hA.out
      rw [he]
      exact ⟨⟨_, _, rfl, this⟩, rfl⟩
theorem whole_count (l : List UInt8) (k : Nat) (h : ∀ n lo hi, runS st0 l = some (n, lo, hi) → k = n) : (decide (goodN st0 l = l.length) && decide (k = 0)) = wholeS (runS st0 l) := by
  cases hr : runS st0 l with
  | none =>
    have := good_none l hr
    simp [wholeS]
    omega
  | some p =>
    obtain ⟨n, lo, hi⟩ := p
    have h1 := good_all st0 l (by rw [hr]; simp)
    have h2 := h n lo hi hr
    subst h2
    cases k with
    | zero => simp [wholeS, h1]
    | succ k => simp [wholeS]
set_option maxHeartbeats 400000 in
/-- The document's own Valid. -/
theorem refvalid_any (s : ByteArray) (w : World) (hs : s.size ≤ 1000000) :
    Calls Try.prog 24 #[.string s] w fun e w' => e = .returned (.bool (validD s.data.toList)) ∧ w = w' := by
  have hl : s.data.toList.length = s.size := size_list s
  have hU := refutf_any s w hs
  rw [valid_run]
  have hc := whole_count s.data.toList
  have hg := goodN_le st0 s.data.toList
  rw [hl] at hc hg
  have HU := Lib.hid hU
  have HC := Lib.hid hc
  clear hU hc hl
  generalize wholeS (runS st0 s.data.toList) = q at *
  go_enter Try.func24, Try.ntmps24
  go_wp2_with fail
  refine HU.out.mono ?_
  rintro e w' ⟨⟨a, b, rfl, hp⟩, rfl⟩
  obtain ⟨k, rfl, rfl, hk⟩ := hp
  have hq := HC.out k hk
  generalize goodN st0 s.data.toList = g at *
  clear HU HC hk
  by_cases h1 : g = s.size
  · have h1z : ((g : Int) == (s.size : Int)) = true := by rw [beq_iff_eq]; omega
    by_cases h2 : k = 0
    · have h2z : ((k : Int) == 0) = true := by rw [beq_iff_eq]; omega
      have hq' : q = true := by rw [← hq]; simp [h1, h2]
      subst hq'
      clear hq
      go_wp2
      go_ret
      exact ⟨rfl, rfl⟩
    · have h2z : ((k : Int) == 0) = false := by rw [beq_eq_false_iff_ne]; omega
      have hq' : q = false := by rw [← hq]; simp [h2]
      subst hq'
      clear hq
      go_wp2
      go_ret
      exact ⟨rfl, rfl⟩
  · have h1z : ((g : Int) == (s.size : Int)) = false := by rw [beq_eq_false_iff_ne]; omega
    have hq' : q = false := by rw [← hq]; simp [h1]
    subst hq'
    clear hq
    go_wp2
    go_ret
    exact ⟨rfl, rfl⟩
end Go.Proofs.Ytebnhelejebobaa
