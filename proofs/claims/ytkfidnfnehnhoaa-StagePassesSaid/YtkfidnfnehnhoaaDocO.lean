/-
  CONTRACT of truchmanbook.Open (out of Doc): the same parts with counts that are not known.
-/
import Derived.Test.YtkfidnfnehnhoaaDoc
namespace Go.Proofs.Ytkfidnfnehnhoaa
open Go.RowKit
open Go.Lib
set_option maxHeartbeats 2000000 in
/-- The same parts with counts that are not known. -/
theorem dopen_any (A : Option Addr) (n cp : Nat) (E : Nat → Ev) (w : World) (hn : n ≤ 1000000) (hE : EvsAt w w.heap.size A n E) :
    Calls Try.prog 19 #[.slice A n cp] w fun r w' => ∃ v, r = .returned v ∧ Made w w' v n ((pre E n).map openE) := by
  have HE := Lib.hid hE
  have HN := Lib.hid hn
  clear hE hn
  go_enter Try.func19, Try.ntmps19
  go_wp2
  go_loopw [3, 8] (fun o i wr => ∃ (j : Nat) (a : Option Addr) (c : Nat), o = .slice a j c ∧ i = .int .i64 j ∧ j ≤ n ∧ Hid (Made w wr (.slice a j c) j ((pre E j).map openE))) (fun _ i _ => n - (RowKit.intOf i).toNat)
  case atStart => exact ⟨0, none, 0, rfl, rfl, by omega, Lib.hid (made_nil w)⟩
  case round =>
    obtain ⟨j, a, c, rfl, rfl, hjn, HM⟩ := hrel
    by_cases hlt : j < n
    · obtain ⟨b, off, rfl, hb, x0, x1, x2, x3, x4⟩ := (HE.out.below HM.out.1).cells hlt
      have hps : (pre E (j + 1)).map openE = (pre E j).map openE ++ [openE (E j)] := by rw [pre_succ, List.map_append]; rfl
      have HPS := Lib.hid hps
      have hj6 : j ≤ 1000000 := by have := HN.out; omega
      generalize E j = e at x0 x1 x2 x3 x4 HPS
      clear hps
      obtain ⟨k, y, m, t, c0⟩ := e
      simp only at x0 x1 x2 x3 x4
      by_cases h5 : k = 5
      · subst h5
        have he : openE ⟨5, y, m, t, c0⟩ = ⟨5, y, m, t, -1⟩ := rfl
        rw [he] at HPS
        clear he
        go_wp2_with (at_builtin; refine wpList_append_win rfl _ _ _ rfl Try.underlying23 info_ev rfl rfl ((HM.out.2.1.alloc _).alloc _) _ rfl 1 _ (src_new _ Try.underlying23 5 1 (evsC [⟨5, y, m, t, -1⟩]) 34 _ rfl (evsC_one _) (heap_new2 _ _ _)) ?e1 ?e2 ?_)
        case e1 => unfold maxLen; omega
        case e2 => omega
        intro v3 w3 hW3 hG3 hO3
        have hM3 : Made w w3 v3 (j + 1) ((pre E j).map openE ++ [⟨5, y, m, t, -1⟩]) := made_more HM.out (up_alloc (up_alloc (Below.refl _ _) _) _) hW3.out hG3.out (by simpa using hO3.out)
        rw [← HPS.out] at hM3
        obtain ⟨a3, c3, rfl, _, _⟩ := hM3.2.1.slice_form
        have M3 := Lib.hid hM3
        clear hW3 hG3 hO3 hM3
        go_wp2
        go_roundw
        case rel => exact ⟨j + 1, a3, c3, rfl, rfl, hlt, M3⟩
        case measure => simp [RowKit.intOf]; omega
      · by_cases h6 : k = 6
        · subst h6
          have he : openE ⟨6, y, m, t, c0⟩ = ⟨6, y, m, t, -1⟩ := rfl
          rw [he] at HPS
          clear he h5
          go_wp2_with (at_builtin; refine wpList_append_win rfl _ _ _ rfl Try.underlying23 info_ev rfl rfl ((HM.out.2.1.alloc _).alloc _) _ rfl 1 _ (src_new _ Try.underlying23 5 1 (evsC [⟨6, y, m, t, -1⟩]) 34 _ rfl (evsC_one _) (heap_new2 _ _ _)) ?e1 ?e2 ?_)
          case e1 => unfold maxLen; omega
          case e2 => omega
          intro v3 w3 hW3 hG3 hO3
          have hM3 : Made w w3 v3 (j + 1) ((pre E j).map openE ++ [⟨6, y, m, t, -1⟩]) := made_more HM.out (up_alloc (up_alloc (Below.refl _ _) _) _) hW3.out hG3.out (by simpa using hO3.out)
          rw [← HPS.out] at hM3
          obtain ⟨a3, c3, rfl, _, _⟩ := hM3.2.1.slice_form
          have M3 := Lib.hid hM3
          clear hW3 hG3 hO3 hM3
          go_wp2
          go_roundw
          case rel => exact ⟨j + 1, a3, c3, rfl, rfl, hlt, M3⟩
          case measure => simp [RowKit.intOf]; omega
        · have q5 : (k == 5) = false := by simpa using h5
          have q6 : (k == 6) = false := by simpa using h6
          have he : openE ⟨k, y, m, t, c0⟩ = ⟨k, y, m, t, c0⟩ := by unfold openE; rw [if_neg (by simp only; omega)]
          rw [he] at HPS
          clear he h5 h6
          go_wp2_with (at_builtin; refine wpList_append_win rfl _ _ _ rfl Try.underlying23 info_ev rfl rfl ((HM.out.2.1.alloc _).alloc _) _ rfl 1 _ (src_new _ Try.underlying23 5 1 (evsC [⟨k, y, m, t, c0⟩]) 34 _ rfl (evsC_one _) (heap_new2 _ _ _)) ?e1 ?e2 ?_)
          case e1 => unfold maxLen; omega
          case e2 => omega
          intro v3 w3 hW3 hG3 hO3
          have hM3 : Made w w3 v3 (j + 1) ((pre E j).map openE ++ [⟨k, y, m, t, c0⟩]) := made_more HM.out (up_alloc (up_alloc (Below.refl _ _) _) _) hW3.out hG3.out (by simpa using hO3.out)
          rw [← HPS.out] at hM3
          obtain ⟨a3, c3, rfl, _, _⟩ := hM3.2.1.slice_form
          have M3 := Lib.hid hM3
          clear hW3 hG3 hO3 hM3
          go_wp2
          go_roundw
          case rel => exact ⟨j + 1, a3, c3, rfl, rfl, hlt, M3⟩
          case measure => simp [RowKit.intOf]; omega
    · obtain rfl : j = n := by omega
      go_wp2
      go_ret
      exact ⟨_, rfl, HM.out⟩
end Go.Proofs.Ytkfidnfnehnhoaa
