/-
  LAWS of chapter 9: EventDeep.
-/
import Derived.Test.YtnhabheofdifhaaEvR
namespace Go.Proofs.Ytnhabheofdifhaa
open Go.RowKit
open Go.Lib
def unitL (maps : Bool) : List Ev := if maps then [⟨6, false, 0, ⟨#[]⟩, 1⟩, ⟨3, false, 0, ⟨#[97]⟩, 0⟩] else [⟨5, false, 0, ⟨#[]⟩, -1⟩]
def opensL (maps : Bool) (j : Nat) : List Ev := (List.replicate j (unitL maps)).flatten
theorem opens_succ (maps : Bool) (j : Nat) : opensL maps (j + 1) = opensL maps j ++ unitL maps := by
  simp [opensL, List.replicate_succ']
theorem opens_length (maps : Bool) (j : Nat) : (opensL maps j).length = j * (unitL maps).length := by
  induction j with
  | zero => simp [opensL]
  | succ j ih => rw [opens_succ, List.length_append, ih, Nat.succ_mul]
theorem unit_ok (maps : Bool) : ∀ e ∈ unitL maps, EvOk e := by
  intro e he
  cases maps
  · simp [unitL] at he
    subst he
    exact ok_small _ _ _ _ _ (by decide) (by decide) (by decide) (by decide)
  · simp [unitL] at he
    rcases he with rfl | rfl <;> exact ok_small _ _ _ _ _ (by decide) (by decide) (by decide) (by decide)
theorem deep_ok (maps : Bool) (n : Nat) : ∀ e ∈ deepL n maps, EvOk e := by
  intro e he
  have he : e ∈ opensL maps n ++ [evNull] ++ List.replicate n evEnd := he
  rw [List.mem_append, List.mem_append] at he
  rcases he with (he | he) | he
  · simp only [opensL, List.mem_flatten, List.mem_replicate] at he
    obtain ⟨l, ⟨_, rfl⟩, he⟩ := he
    exact unit_ok maps e he
  · simp at he
    subst he
    exact ok_small _ _ _ _ _ (by decide) (by decide) (by decide) (by decide)
  · rw [List.mem_replicate] at he
    rw [he.2]
    exact ok_small _ _ _ _ _ (by decide) (by decide) (by decide) (by decide)
theorem deep_out (k : Int) (maps : Bool) (w : World) (hk : k < 1 ∨ 30 < k) :
    Calls Try.prog 8 #[.int .i64 k, .bool maps] w fun r w' => r = .returned (.bool true) ∧ Below w.heap.size w w' := by
  rcases hk with h | h
  · have h1 : (k < 1) = True := by simp [h]
    clear h
    go_enter Try.func8, Try.ntmps8
    go_wp2_with fail
    refine (ev_alive _).mono ?_
    rintro e w1 ⟨rfl, b1⟩
    have B1 := Lib.hid b1
    clear b1
    go_wp2
    go_ret
    exact ⟨rfl, B1.out⟩
  · have h1 : (k < 1) = False := by simp; omega
    have h2 : (30 < k) = True := by simp [h]
    clear h
    go_enter Try.func8, Try.ntmps8
    go_wp2_with fail
    refine (ev_alive _).mono ?_
    rintro e w1 ⟨rfl, b1⟩
    have B1 := Lib.hid b1
    clear b1
    go_wp2
    go_ret
    exact ⟨rfl, B1.out⟩
set_option maxHeartbeats 4000000 in
theorem deep_false (n : Nat) (w : World) (hn : 1 ≤ n ∧ n ≤ 30) :
    Calls Try.prog 8 #[.int .i64 n, .bool false] w fun r w' => r = .returned (.bool true) ∧ Below w.heap.size w w' := by
  have h1 : ((n : Int) < 1) = False := by simp; omega
  have h2 : ((30 : Int) < (n : Int)) = False := by simp; omega
  have HN := Lib.hid hn
  clear hn
  go_enter Try.func8, Try.ntmps8
  go_wp2_with fail
  refine (ev_alive _).mono ?_
  rintro e w1 ⟨rfl, b1⟩
  have M0 : Hid (Made w w1 (.slice none 0 0) 0 (opensL false 0)) := Lib.hid ⟨b1, Win.nil_ _ _ _, fun k hk => by simp [Value.owner] at hk⟩
  clear b1
  go_wp2
  go_loopw [5, 6] (fun l i wr => ∃ (j m : Nat) (a : Option Addr) (c : Nat), l = .slice a m c ∧ i = .int .i64 j ∧ j ≤ n ∧ m = j * 1 ∧ Hid (Made w wr (.slice a m c) m (opensL false j))) (fun _ i _ => n - (RowKit.intOf i).toNat)
  case atStart => exact ⟨0, 0, none, 0, rfl, rfl, by omega, rfl, M0⟩
  case round =>
    obtain ⟨j, m, a, c, rfl, rfl, hjn, hm, HM⟩ := hrel
    have HN2 := HN.out
    by_cases hlt : j < n
    · have HMM := Lib.hid hm
      have hm60 : m ≤ 60 := by omega
      clear hm
      go_wp2_with (at_builtin; refine wpList_append_win rfl _ _ _ rfl Try.underlying38 info_ev rfl rfl (HM.out.2.1.alloc _) _ rfl 1 _ (src_new _ Try.underlying38 5 1 (evsC (unitL false)) 24 _ rfl (evsC_one _) (heap_alloc_new wr _)) ?e1 ?e2 ?_)
      case e1 => unfold maxLen; omega
      case e2 => omega
      intro v3 w3 hW3 hG3 hO3
      have hM3 : Made w w3 v3 (m + 1) (opensL false j ++ unitL false) := made_more HM.out (up_alloc (Below.refl _ _) _) hW3.out hG3.out (by simpa using hO3.out)
      rw [← opens_succ] at hM3
      obtain ⟨a3, c3, rfl, _, _⟩ := hM3.2.1.slice_form
      have M3 := Lib.hid hM3
      clear hW3 hG3 hO3 hM3
      go_wp2
      go_roundw
      case rel => exact ⟨j + 1, m + 1, a3, c3, rfl, rfl, hlt, by have := HMM.out; omega, M3⟩
      case measure => simp [RowKit.intOf]; omega
    · obtain rfl : j = n := by omega
      have hm60 : m ≤ 60 := by omega
      clear hm
      go_wp2_with (at_builtin; refine wpList_append_win rfl _ _ _ rfl Try.underlying38 info_ev rfl rfl (HM.out.2.1.alloc _) _ rfl 1 _ (src_new _ Try.underlying38 5 1 (evsC [evNull]) 24 _ rfl (evsC_one _) (heap_alloc_new wr _)) ?e1 ?e2 ?_)
      case e1 => unfold maxLen; omega
      case e2 => omega
      intro v3 w3 hW3 hG3 hO3
      have hM3 : Made w w3 v3 (m + 1) (opensL false j ++ [evNull]) := made_more HM.out (up_alloc (Below.refl _ _) _) hW3.out hG3.out (by simpa using hO3.out)
      obtain ⟨a3, c3, rfl, _, _⟩ := hM3.2.1.slice_form
      have M3 : Hid (Made w w3 (.slice a3 (m + 1) c3) (m + 1) (opensL false j ++ [evNull] ++ List.replicate 0 evEnd)) := Lib.hid (by simpa using hM3)
      clear hW3 hG3 hO3 hM3
      go_wp2
      go_loopw [5, 7] (fun l i wq => ∃ (p q : Nat) (a : Option Addr) (c : Nat), l = .slice a q c ∧ i = .int .i64 p ∧ p ≤ j ∧ q = m + 1 + p ∧ Hid (Made w wq (.slice a q c) q (opensL false j ++ [evNull] ++ List.replicate p evEnd))) (fun _ i _ => j - (RowKit.intOf i).toNat)
      case atStart => exact ⟨0, m + 1, a3, c3, rfl, rfl, by omega, rfl, M3⟩
      case round =>
        obtain ⟨p, q, a5, c5, rfl, rfl, hpj, hq, HQ⟩ := hrel
        by_cases hlp : p < j
        · obtain ⟨LL, hLL⟩ : ∃ LL, LL = opensL false j ++ [evNull] ++ List.replicate p evEnd := ⟨_, rfl⟩
          rw [← hLL] at HQ
          have HLL := Lib.hid hLL
          clear hLL
          have HQQ := Lib.hid hq
          have hq100 : q ≤ 100 := by omega
          clear hq
          go_wp2_with (at_builtin; refine wpList_append_win rfl _ _ _ rfl Try.underlying38 info_ev rfl rfl (HQ.out.2.1.alloc _) _ rfl 1 _ (src_new _ Try.underlying38 5 1 (evsC [evEnd]) 24 _ rfl (evsC_one _) (heap_alloc_new _ _)) ?e1 ?e2 ?_)
          case e1 => unfold maxLen; omega
          case e2 => omega
          intro v6 w6 hW6 hG6 hO6
          have hM6 : Made w w6 v6 (q + 1) (LL ++ [evEnd]) := made_more HQ.out (up_alloc (Below.refl _ _) _) hW6.out hG6.out (by simpa using hO6.out)
          rw [HLL.out, List.append_assoc _ (List.replicate p evEnd), ← List.replicate_succ'] at hM6
          obtain ⟨a6, c6, rfl, _, _⟩ := hM6.2.1.slice_form
          have M6 := Lib.hid hM6
          clear hW6 hG6 hO6 hM6
          go_wp2
          go_roundw
          case rel => exact ⟨p + 1, q + 1, a6, c6, rfl, rfl, hlp, by have := HQQ.out; omega, M6⟩
          case measure => simp [RowKit.intOf]; omega
        · obtain rfl : p = j := by omega
          have hq100 : q ≤ 100 := by omega
          have hdl : (deepL p false).length = q := by
            show (opensL false p ++ [evNull] ++ List.replicate p evEnd).length = q
            have h5 := HQ.out.2.1.1
            rw [evsC_length] at h5
            omega
          have hCk := check_win (L := deepL p false) HQ.out.2.1 hdl (by omega) (deep_ok false p)
          have hdp : checkE (deepL p false) = if 16 < p then 4 else 0 := check_deep ⟨p, by omega⟩ false HN2.1
          rw [hdp] at hCk
          clear hq hdl hdp
          by_cases h16 : 16 < p
          · have hz : ((16 : Int) < (p : Int)) = True := by simp; omega
            rw [if_pos h16] at hCk
            have CK := Lib.hid hCk
            clear hCk h16
            go_wp2_with fail
            refine CK.out.mono ?_
            rintro e w8 ⟨rfl, b8⟩
            have B8 := Lib.hid (up_trans HQ.out.1 b8)
            clear b8
            go_wp2
            go_ret
            exact ⟨rfl, B8.out⟩
          · have hz : ((16 : Int) < (p : Int)) = False := by simp; omega
            rw [if_neg h16] at hCk
            have CK := Lib.hid hCk
            clear hCk h16
            go_wp2_with fail
            refine CK.out.mono ?_
            rintro e w8 ⟨rfl, b8⟩
            have B8 := Lib.hid (up_trans HQ.out.1 b8)
            clear b8
            go_wp2
            go_ret
            exact ⟨rfl, B8.out⟩
set_option maxHeartbeats 4000000 in
theorem deep_true (n : Nat) (w : World) (hn : 1 ≤ n ∧ n ≤ 30) :
    Calls Try.prog 8 #[.int .i64 n, .bool true] w fun r w' => r = .returned (.bool true) ∧ Below w.heap.size w w' := by
  have h1 : ((n : Int) < 1) = False := by simp; omega
  have h2 : ((30 : Int) < (n : Int)) = False := by simp; omega
  have HN := Lib.hid hn
  clear hn
  go_enter Try.func8, Try.ntmps8
  go_wp2_with fail
  refine (ev_alive _).mono ?_
  rintro e w1 ⟨rfl, b1⟩
  have M0 : Hid (Made w w1 (.slice none 0 0) 0 (opensL true 0)) := Lib.hid ⟨b1, Win.nil_ _ _ _, fun k hk => by simp [Value.owner] at hk⟩
  clear b1
  go_wp2
  go_loopw [5, 6] (fun l i wr => ∃ (j m : Nat) (a : Option Addr) (c : Nat), l = .slice a m c ∧ i = .int .i64 j ∧ j ≤ n ∧ m = j * 2 ∧ Hid (Made w wr (.slice a m c) m (opensL true j))) (fun _ i _ => n - (RowKit.intOf i).toNat)
  case atStart => exact ⟨0, 0, none, 0, rfl, rfl, by omega, rfl, M0⟩
  case round =>
    obtain ⟨j, m, a, c, rfl, rfl, hjn, hm, HM⟩ := hrel
    have HN2 := HN.out
    by_cases hlt : j < n
    · have HMM := Lib.hid hm
      have hm60 : m ≤ 60 := by omega
      clear hm
      go_wp2_with (at_builtin; refine wpList_append_win rfl _ _ _ rfl Try.underlying38 info_ev rfl rfl (HM.out.2.1.alloc _) _ rfl 2 _ (src_new _ Try.underlying38 5 2 (evsC (unitL true)) 24 _ rfl (evsC_one _) (heap_alloc_new wr _)) ?e1 ?e2 ?_)
      case e1 => unfold maxLen; omega
      case e2 => omega
      intro v3 w3 hW3 hG3 hO3
      have hM3 : Made w w3 v3 (m + 2) (opensL true j ++ unitL true) := made_more HM.out (up_alloc (Below.refl _ _) _) hW3.out hG3.out (by simpa using hO3.out)
      rw [← opens_succ] at hM3
      obtain ⟨a3, c3, rfl, _, _⟩ := hM3.2.1.slice_form
      have M3 := Lib.hid hM3
      clear hW3 hG3 hO3 hM3
      go_wp2
      go_roundw
      case rel => exact ⟨j + 1, m + 2, a3, c3, rfl, rfl, hlt, by have := HMM.out; omega, M3⟩
      case measure => simp [RowKit.intOf]; omega
    · obtain rfl : j = n := by omega
      have hm60 : m ≤ 60 := by omega
      clear hm
      go_wp2_with (at_builtin; refine wpList_append_win rfl _ _ _ rfl Try.underlying38 info_ev rfl rfl (HM.out.2.1.alloc _) _ rfl 1 _ (src_new _ Try.underlying38 5 1 (evsC [evNull]) 24 _ rfl (evsC_one _) (heap_alloc_new wr _)) ?e1 ?e2 ?_)
      case e1 => unfold maxLen; omega
      case e2 => omega
      intro v3 w3 hW3 hG3 hO3
      have hM3 : Made w w3 v3 (m + 1) (opensL true j ++ [evNull]) := made_more HM.out (up_alloc (Below.refl _ _) _) hW3.out hG3.out (by simpa using hO3.out)
      obtain ⟨a3, c3, rfl, _, _⟩ := hM3.2.1.slice_form
      have M3 : Hid (Made w w3 (.slice a3 (m + 1) c3) (m + 1) (opensL true j ++ [evNull] ++ List.replicate 0 evEnd)) := Lib.hid (by simpa using hM3)
      clear hW3 hG3 hO3 hM3
      go_wp2
      go_loopw [5, 7] (fun l i wq => ∃ (p q : Nat) (a : Option Addr) (c : Nat), l = .slice a q c ∧ i = .int .i64 p ∧ p ≤ j ∧ q = m + 1 + p ∧ Hid (Made w wq (.slice a q c) q (opensL true j ++ [evNull] ++ List.replicate p evEnd))) (fun _ i _ => j - (RowKit.intOf i).toNat)
      case atStart => exact ⟨0, m + 1, a3, c3, rfl, rfl, by omega, rfl, M3⟩
      case round =>
        obtain ⟨p, q, a5, c5, rfl, rfl, hpj, hq, HQ⟩ := hrel
        by_cases hlp : p < j
        · obtain ⟨LL, hLL⟩ : ∃ LL, LL = opensL true j ++ [evNull] ++ List.replicate p evEnd := ⟨_, rfl⟩
          rw [← hLL] at HQ
          have HLL := Lib.hid hLL
          clear hLL
          have HQQ := Lib.hid hq
          have hq100 : q ≤ 100 := by omega
          clear hq
          go_wp2_with (at_builtin; refine wpList_append_win rfl _ _ _ rfl Try.underlying38 info_ev rfl rfl (HQ.out.2.1.alloc _) _ rfl 1 _ (src_new _ Try.underlying38 5 1 (evsC [evEnd]) 24 _ rfl (evsC_one _) (heap_alloc_new _ _)) ?e1 ?e2 ?_)
          case e1 => unfold maxLen; omega
          case e2 => omega
          intro v6 w6 hW6 hG6 hO6
          have hM6 : Made w w6 v6 (q + 1) (LL ++ [evEnd]) := made_more HQ.out (up_alloc (Below.refl _ _) _) hW6.out hG6.out (by simpa using hO6.out)
          rw [HLL.out, List.append_assoc _ (List.replicate p evEnd), ← List.replicate_succ'] at hM6
          obtain ⟨a6, c6, rfl, _, _⟩ := hM6.2.1.slice_form
          have M6 := Lib.hid hM6
          clear hW6 hG6 hO6 hM6
          go_wp2
          go_roundw
          case rel => exact ⟨p + 1, q + 1, a6, c6, rfl, rfl, hlp, by have := HQQ.out; omega, M6⟩
          case measure => simp [RowKit.intOf]; omega
        · obtain rfl : p = j := by omega
          have hq100 : q ≤ 100 := by omega
          have hdl : (deepL p true).length = q := by
            show (opensL true p ++ [evNull] ++ List.replicate p evEnd).length = q
            have h5 := HQ.out.2.1.1
            rw [evsC_length] at h5
            omega
          have hCk := check_win (L := deepL p true) HQ.out.2.1 hdl (by omega) (deep_ok true p)
          have hdp : checkE (deepL p true) = if 16 < p then 4 else 0 := check_deep ⟨p, by omega⟩ true HN2.1
          rw [hdp] at hCk
          clear hq hdl hdp
          by_cases h16 : 16 < p
          · have hz : ((16 : Int) < (p : Int)) = True := by simp; omega
            rw [if_pos h16] at hCk
            have CK := Lib.hid hCk
            clear hCk h16
            go_wp2_with fail
            refine CK.out.mono ?_
            rintro e w8 ⟨rfl, b8⟩
            have B8 := Lib.hid (up_trans HQ.out.1 b8)
            clear b8
            go_wp2
            go_ret
            exact ⟨rfl, B8.out⟩
          · have hz : ((16 : Int) < (p : Int)) = False := by simp; omega
            rw [if_neg h16] at hCk
            have CK := Lib.hid hCk
            clear hCk h16
            go_wp2_with fail
            refine CK.out.mono ?_
            rintro e w8 ⟨rfl, b8⟩
            have B8 := Lib.hid (up_trans HQ.out.1 b8)
            clear b8
            go_wp2
            go_ret
            exact ⟨rfl, B8.out⟩
theorem deep_any (k : Int) (maps : Bool) (w : World) :
    Calls Try.prog 8 #[.int .i64 k, .bool maps] w fun r w' => r = .returned (.bool true) ∧ Below w.heap.size w w' := by
  by_cases h : k < 1 ∨ 30 < k
  · exact deep_out k maps w h
  · obtain ⟨n, rfl⟩ : ∃ n : Nat, k = n := ⟨k.toNat, by omega⟩
    cases maps
    · exact deep_false n w (by omega)
    · exact deep_true n w (by omega)
end Go.Proofs.Ytnhabheofdifhaa
