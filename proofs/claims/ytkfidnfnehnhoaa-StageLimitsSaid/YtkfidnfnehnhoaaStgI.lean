/-
  CONTRACTS for chapter 17's laws: a Stage that a law made (GK: New, Step, Held, Empty), plain.
-/
import Derived.Test.YtkfidnfnehnhoaaStgG
namespace Go.Proofs.Ytkfidnfnehnhoaa
open Go.RowKit
open Go.Lib
/-- The types of a Stage's blocks. -/
def gts : List Nat := [65, 20, 95]
/-- A Stage in block b, made since w0. -/
structure GK (w0 w : World) (b lim : Nat) (s : Gs) : Prop where
  at_ : ∃ vh vo, StG w b lim vh vo s ∧ ∀ k ∈ rowsG b vh vo, w0.heap.size ≤ k
  wf : WfG lim s
  lim : lim ≤ 2000
  bel : Below w0.heap.size w0 w
theorem StG.go {w w' : World} {b lim : Nat} {vh vo : Value} {s : Gs} (h : StG w b lim vh vo s) (k : Below w.heap.size w w') : StG w' b lim vh vo s := by
  cases s with
  | bad => exact ⟨h.1.go k, h.2.1, h.2.2⟩
  | live z H op => exact ⟨h.1.go k, h.2.1.keep fun i hi => k.block i (h.2.1.lt i hi), h.2.2.keep fun i hi => k.block i (h.2.2.lt i hi)⟩
theorem GK.go {w0 w w' : World} {b lim : Nat} {s : Gs} (h : GK w0 w b lim s) (k : Below w.heap.size w w') : GK w0 w' b lim s := by
  obtain ⟨vh, vo, hs, ho⟩ := h.at_
  exact ⟨⟨vh, vo, hs.go k, ho⟩, h.wf, h.lim, up_trans h.bel k⟩
theorem StG.typed {w : World} {b lim : Nat} {vh vo : Value} {s : Gs} (h : StG w b lim vh vo s) : ∀ k ∈ rowsG b vh vo, ∃ c t fr, w.heap[k]? = some (.cells c t fr) ∧ t ∈ gts := by
  obtain ⟨n, m, xs, ys, hW, hO, _⟩ := h.rows
  intro k hk
  simp only [rowsG, List.mem_cons, List.mem_append] at hk
  rcases hk with rfl | hk | hk
  · exact ⟨_, _, _, h.sgb, by decide⟩
  · obtain ⟨c, hc⟩ := hW.typed k hk
    exact ⟨_, _, _, hc, by decide⟩
  · obtain ⟨c, hc⟩ := hO.typed k hk
    exact ⟨_, _, _, hc, by decide⟩
theorem StG.off {w w' : World} {b lim : Nat} {vh vo : Value} {s : Gs} {F' : List Nat} (h : StG w b lim vh vo s) (k : Step (rowsG b vh vo) F' w w') : Off gts w w' := fun i c t fr hi ht => by
  rw [k.block i (Array.getElem?_eq_some_iff.1 hi).1 (fun hk => ?_)]
  · exact hi
  · obtain ⟨c', t', fr', hc, ht'⟩ := h.typed i hk
    rw [hi] at hc
    injection hc with hc
    injection hc with _ h2 _
    exact ht (h2 ▸ ht')
theorem gk_new (lim : Int) (w : World) : Calls Try.prog 11 #[.int .i64 lim] w fun r w' => ∃ b, r = .returned (.pointer (some ⟨b, 0, none⟩)) ∧ GK w w' b (min (max lim 0) 2000).toNat gs0 := by
  refine (gnew_any lim w).mono ?_
  rintro r w' ⟨rfl, h, hb⟩
  exact ⟨_, rfl, ⟨_, _, h, fun k hk => by simp [rowsG, Value.owner] at hk; omega⟩, wf_gs0 _, by omega, hb⟩
theorem GK.stepS {w0 w : World} {b lim : Nat} {s : Gs} (h : GK w0 w b lim s) (e : Ev) (he : mayE e) (ht : sizG e ≤ 1000) :
    Calls Try.prog 13 #[.pointer (some ⟨b, 0, none⟩), valE e] w fun r w' => (∃ v, r = .returned (.tuple #[v, .int .i64 ((stepG lim s e).e : Int)]) ∧ Vls w0 w' v (stepG lim s e).l) ∧ GK w0 w' b lim (stepG lim s e).s ∧ Off gts w w' ∧ w.heap.size ≤ w'.heap.size := by
  obtain ⟨vh, vo, hs, ho⟩ := h.at_
  have hsz := h.bel.size
  refine (gstep_any hs h.wf h.lim e he ht).mono ?_
  rintro r w' ⟨v, rfl, vh', vo', hW, hk, hs', hst⟩
  refine ⟨⟨v, rfl, hW, fun k hk' => ?_⟩, ⟨⟨vh', vo', hs', hst.low ho hsz⟩, wf_stepG h.wf e, h.lim, h.bel.trans (hst.below ho hsz)⟩, hs.off hst, hst.size⟩
  rcases hk k hk' with h1 | h1
  · exact ho k (by simp [rowsG, h1])
  · omega
theorem GK.step {w0 w : World} {b lim : Nat} {s : Gs} (h : GK w0 w b lim s) (e : Ev) (he : mayE e) (ht : sizG e ≤ 1000) :
    Calls Try.prog 13 #[.pointer (some ⟨b, 0, none⟩), valE e] w fun r w' => (∃ v, r = .returned (.tuple #[v, .int .i64 ((stepG lim s e).e : Int)]) ∧ Vls w0 w' v (stepG lim s e).l) ∧ GK w0 w' b lim (stepG lim s e).s ∧ Off gts w w' :=
  (h.stepS e he ht).mono fun _ _ h => ⟨h.1, h.2.1, h.2.2.1⟩
theorem GK.held {w0 w : World} {b lim : Nat} {s : Gs} (h : GK w0 w b lim s) : Calls Try.prog 18 #[.pointer (some ⟨b, 0, none⟩)] w fun r w' => r = .returned (.int .i64 (heldG s : Int)) ∧ w = w' := by
  obtain ⟨vh, vo, hs, _⟩ := h.at_
  exact gheld_at hs.sgb
theorem GK.empty {w0 w : World} {b lim : Nat} {s : Gs} (h : GK w0 w b lim s) : Calls Try.prog 15 #[.pointer (some ⟨b, 0, none⟩)] w fun r w' => r = .returned (.bool (emptyG s)) ∧ w = w' := by
  obtain ⟨vh, vo, hs, _⟩ := h.at_
  exact gempty_at hs
theorem heap_new2g (w : World) (x y : Obj) : ((w.alloc x).alloc y).heap[w.heap.size + 1]? = some y := by
  have := heap_alloc_new (w.alloc x) y
  simpa using this
set_option maxRecDepth 100000 in
set_option maxHeartbeats 2000000 in
theorem gplain_at {w0 w : World} {v : Value} {L : List Ev} (hV : Vls w0 w v L) (hL : ∀ e ∈ L, mayE e) (hn : L.length ≤ 3000) :
    Calls Try.prog 14 #[v] w fun r w' => ∃ u, r = .returned (.tuple #[u, .bool true]) ∧ Made w w' u L.length (L.map tidyE) := by
  obtain ⟨a, c, rfl⟩ := hV.form
  obtain ⟨n, hnn⟩ : ∃ n, L.length = n := ⟨_, rfl⟩
  have H0 : Hid (Made w w (.slice none 0 0) 0 ((L.map tidyE).take 0)) := Lib.hid (by simpa using made_nil w)
  have HW := Lib.hid hV.win
  have HL := Lib.hid hL
  have HNN := Lib.hid hnn
  rw [hnn] at hn HW ⊢
  clear hV hL hnn
  go_enter Try.func14, Try.ntmps14
  go_wp2
  go_loopw [4, 6, 7, 8, 11] (fun l _ _ _ i wr => ∃ (j : Nat) (a1 : Option Addr) (c1 : Nat), l = .slice a1 j c1 ∧ i = .int .i64 j ∧ j ≤ n ∧ Hid (Made w wr (.slice a1 j c1) j ((L.map tidyE).take j))) (fun _ _ _ _ i _ => n - (RowKit.intOf i).toNat)
  case atStart => exact ⟨0, none, 0, rfl, rfl, by omega, H0⟩
  case round =>
    obtain ⟨j, a1, c1, rfl, rfl, hj, HM⟩ := hrel
    clear H0
    by_cases hlt : j < n
    · have hjl : j < L.length := by rw [HNN.out]; exact hlt
      have hT := HL.out _ (List.getElem_mem hjl)
      have hwin : Win wr 20 1 (.slice a n c) n (L.map valE) := HW.out.keep fun k hk => HM.out.1.block k (HW.out.lt k hk)
      obtain ⟨g, off, c', hv, x0⟩ := hwin.elem j (valE L[j]) (by simp [hjl])
      have htk : (L.map tidyE).take (j + 1) = (L.map tidyE).take j ++ [tidyE L[j]] := by rw [List.take_add_one, List.getElem?_map, List.getElem?_eq_getElem hjl]; rfl
      have hP := fun W => plain_any L[j] hT W
      generalize tidyE L[j] = e at *
      generalize valE L[j] = V at *
      simp only [Value.slice.injEq] at hv
      obtain ⟨rfl, hv2, rfl⟩ := hv
      clear hv2
      obtain ⟨k, y, m, t, c2⟩ := e
      simp only [evV] at hP
      have HP := Lib.hid hP
      have HTK := Lib.hid htk
      have hHM := HM.out
      clear hT hwin hP htk hjl
      go_wp2_with fail
      refine (HP.out _).mono ?_
      rintro r w1 ⟨rfl, b1⟩
      have HM1 := Lib.hid (hHM.go b1)
      clear hHM b1
      go_wp2_with (at_builtin; refine wpList_append_win rfl _ _ _ rfl Try.underlying23 info_ev rfl rfl ((HM1.out.2.1.alloc _).alloc _) _ rfl 1 _ (src_new _ Try.underlying23 5 1 (evsC [⟨k, y, m, t, c2⟩]) 34 _ rfl (evsC_one _) (heap_new2g _ _ _)) ?e1 ?e2 ?_)
      case e1 => unfold maxLen; omega
      case e2 => omega
      intro v3 w3 hW3 hG3 hO3
      have hM3 : Made w w3 v3 (j + 1) ((L.map tidyE).take j ++ [⟨k, y, m, t, c2⟩]) := made_more HM1.out (up_alloc (up_alloc (Below.refl _ _) _) _) hW3.out hG3.out (by simpa using hO3.out)
      rw [← HTK.out] at hM3
      obtain ⟨a3, c3, rfl, _, _⟩ := hM3.2.1.slice_form
      have M3 := Lib.hid hM3
      clear hW3 hG3 hO3 hM3
      go_wp2
      go_roundw
      case rel => exact ⟨j + 1, a3, c3, rfl, rfl, hlt, M3⟩
      case measure => simp [RowKit.intOf]; omega
    · obtain rfl : j = n := by omega
      have HF : Hid (Made w wr (.slice a1 j c1) j (L.map tidyE)) := Lib.hid (by
        have := HM.out
        rwa [List.take_of_length_le (by rw [List.length_map, HNN.out]; exact Nat.le_refl _)] at this)
      go_wp2
      go_ret2
      exact ⟨_, rfl, HF.out⟩
end Go.Proofs.Ytkfidnfnehnhoaa
