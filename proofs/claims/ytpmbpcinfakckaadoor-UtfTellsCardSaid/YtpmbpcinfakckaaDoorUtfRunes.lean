/-
  CONTRACT of utf.Runes: a new list of the texts runes; none, if it is not UTF-8.
-/
import Derived.Test.YtpmbpcinfakckaaDoorUtfRef
namespace Go.Proofs.YtpmbpcinfakckaaDoor
open Go.RowKit
open Go.Lib
theorem infoint : (Tryd.prog.info? 3).map (fun i => (i.zero, i.size, i.bytes)) = some (some (.int .i64 0), 1, 8) := by kernel_rfl
/-- The runes of a text that is UTF-8; none of another one. -/
def runesOf (s : ByteArray) : List Nat := if validD s.data.toList then runesD s.size s.data.toList else []
def RunMid (s : ByteArray) (w : World) (kb : Nat) (v : Value) (pos : Nat) (done : List Nat) (wr : World) : Prop :=
  Win wr 3 1 v done.length (intCells done) ∧ wr.heap[kb]? = some (.stringIter s pos) ∧ Below w.heap.size w wr ∧ (∀ k ∈ Value.owner v, w.heap.size ≤ k) ∧
    done ++ runesD s.size (s.data.toList.drop pos) = runesD s.size s.data.toList ∧ done.length ≤ pos
theorem mid_next {s : ByteArray} {w wr w2 : World} {kb : Nat} {v v2 : Value} {pos : Nat} {done : List Nat} {r : Nat} (hm : RunMid s w kb v pos done wr) (hp : pos < s.size) (hkb : w.heap.size ≤ kb)
    (hr : (Utf8.decode s pos).1 = r) (u : Value)
    (hW : Win w2 3 1 v2 (done.length + 1) (intCells done ++ [.int .i64 (r : Int)])) (hG : ((wr.iterAt kb s (pos + (Utf8.decode s pos).2)).alloc (.cells #[u] 3)).grownBy w2 v.ownBlock)
    (hO : v2.ownBlock = v.ownBlock ∨ v2.ownBlock = some ((wr.iterAt kb s (pos + (Utf8.decode s pos).2)).alloc (.cells #[u] 3)).heap.size ∧ ((wr.iterAt kb s (pos + (Utf8.decode s pos).2)).alloc (.cells #[u] 3)).heap.size < w2.heap.size) :
    RunMid s w kb v2 (pos + (Utf8.decode s pos).2) (done ++ [r]) w2 := by
  obtain ⟨h1, h2, h3, h4, h5, h6⟩ := hm
  have hkl : kb < wr.heap.size := (Array.getElem?_eq_some_iff.1 h2).1
  have hw := h3.size
  have hit := Lib.iterAt_heap wr kb s pos (pos + (Utf8.decode s pos).2) h2
  have hsz := Lib.iterAt_size wr kb s (pos + (Utf8.decode s pos).2)
  have hne : ∀ k, v.ownBlock = some k → k ≠ kb := fun k hk e => by
    obtain ⟨cur, hc⟩ := h1.typed k ((ob_iff _ _).1 hk)
    rw [e, h2] at hc
    cases hc
  have hown : ∀ k, v.ownBlock = some k → w.heap.size ≤ k := fun k hk => h4 k ((ob_iff _ _).1 hk)
  have hwid := width_pos s pos
  refine ⟨by rw [List.length_append]; simpa [intCells] using hW, ?_, ?_, ?_, ?_, ?_⟩
  · rw [hG.block kb (by simp [hsz]; omega) (fun e => hne kb e.symm rfl), Below.heap_alloc _ _ _ (by rw [hsz]; exact hkl)]
    exact hit
  · exact ((Lib.below_iterAt h3 hkb s _).alloc (by rw [hsz]; exact hw) _).grown hG (by simp [hsz]; omega) hown
  · intro k hk
    rw [← ob_iff] at hk
    rcases hO with h | ⟨h, _⟩
    · exact hown k (h ▸ hk)
    · rw [h] at hk
      injection hk with hk
      simp [hsz] at hk
      omega
  · have hl : s.data.toList.length = s.size := size_list s
    have hne' : s.data.toList.drop pos ≠ [] := by
      intro e
      have := congrArg List.length e
      simp at this
      omega
    obtain ⟨f, hf⟩ : ∃ f, s.size = f + 1 := ⟨s.size - 1, by omega⟩
    rw [← h5, List.append_assoc]
    congr 1
    rw [hf]
    conv => rhs; unfold runesD
    rw [if_neg hne', decodeL_drop s pos, hr, List.drop_drop]
    simp only [List.singleton_append]
    congr 1
    exact runesD_fuel _ _ _ (by rw [List.length_drop]; omega) (by rw [List.length_drop]; omega)
  · rw [List.length_append]
    simp
    omega
set_option maxHeartbeats 1000000 in
theorem runes_any (s : ByteArray) (w : World) (hs : s.size ≤ 100000) (hT : Tabs w) :
    Calls Tryd.prog 18 #[.string s] w fun e w' => ∃ v, e = .returned v ∧ Win w' 3 1 v (runesOf s).length (intCells (runesOf s)) ∧ Fresh w w' v := by
  have hV := valid_any s w (by omega) hT
  have hl : s.data.toList.length = s.size := size_list s
  unfold runesOf
  by_cases hv : validD s.data.toList = true
  · rw [hv] at hV ⊢
    have HV := Lib.hid hV
    clear hV hv hT
    simp only [if_true]
    go_enter Tryd.func18, Tryd.ntmps18
    go_wp2_with fail
    refine HV.out.mono ?_
    rintro e w1 ⟨rfl, hb⟩
    have h0 : RunMid s w w1.heap.size (.slice none 0 0) 0 [] (w1.iter s 0) :=
      ⟨Win.nil_ _ _ _, World.iter_heap w1 s 0, hb.alloc hb.size _, by simp [Value.owner], by simp, by simp⟩
    have H0 := Lib.hid h0
    have hkb : w.heap.size ≤ w1.heap.size := hb.size
    clear HV h0 hb
    go_wp2
    go_loopw [3, 5] (fun v _ wr => ∃ (pos : Nat) (done : List Nat), Hid (RunMid s w w1.heap.size v pos done wr)) (fun _ _ wr => s.size - wr.iterPos w1.heap.size)
    case atStart => exact ⟨0, [], H0⟩
    case round =>
      obtain ⟨pos, done, HM⟩ := hrel
      have hit := HM.out.2.1
      have hmu : wr.iterPos w1.heap.size = pos := by simp [World.iterPos, hit]
      have hdone := HM.out.2.2.2.2.2
      have HW := Lib.hid HM.out.1
      obtain ⟨a, c, rfl, _, _⟩ := HM.out.1.slice_form
      by_cases hp : pos < s.size
      · have hnext : ∀ ty, (Instr.next (.pointer (some ⟨w1.heap.size, 0, none⟩)) true ty).run Tryd.prog wr = _ := fun ty => Lib.run_next_any_at wr w1.heap.size s pos ty hit hp
        have hr := rune_le s pos
        obtain ⟨r, hre⟩ : ∃ r, (Utf8.decode s pos).1 = r := ⟨_, rfl⟩
        obtain ⟨d, hde⟩ : ∃ d, pos + (Utf8.decode s pos).2 = d := ⟨_, rfl⟩
        have hwid := width_pos s pos
        have hnx := fun w2 v2 u => mid_next (w2 := w2) (v2 := v2) HM.out hp hkb hre u
        rw [hre] at hnext hr
        rw [hde] at hnext hnx
        have HNX := Lib.hid hnx
        have hpd : pos < d := by omega
        have HW1 : Hid (Win (wr.iterAt w1.heap.size s d) 3 1 (.slice a done.length c) done.length (intCells done)) := Lib.hid (HW.out.keep fun k hk => Lib.iterAt_other wr _ k s d (fun e => by
          obtain ⟨cur, hc⟩ := HW.out.typed k hk
          rw [e, hit] at hc
          cases hc))
        clear hit hwid hnx HM H0 HW
        generalize hW1 : wr.iterAt w1.heap.size s d = W1 at hnext HNX HW1
        go_wp2_with (at_builtin; refine wpList_append_win rfl _ _ _ rfl Tryd.underlying39 infoint rfl rfl (HW1.out.alloc _) _ rfl 1 [.int .i64 (r : Int)] (src_one _ Tryd.underlying39 _ _ _ rfl ?d3) ?d1 ?d2 ?_)
        case d1 => unfold maxLen; omega
        case d2 => omega
        case d3 => first | rfl | simp
        intro v2 w2 hW2 hG2 hO2
        have hnew := HNX.out w2 v2 _ hW2.out hG2.out (by simpa using hO2.out)
        have hit2 := hnew.2.1
        have hmu2 : w2.iterPos w1.heap.size = d := by simp [World.iterPos, hit2]
        obtain ⟨a2, c2, rfl, _, _⟩ := hW2.out.slice_form
        have HN := Lib.hid hnew
        clear hnew hit2 HNX HW1 hnext
        go_wp2
        go_roundw
        case rel => exact ⟨d, done ++ [r], HN⟩
        case measure => rw [hmu, hmu2]; omega
      · have hnext : ∀ ty, (Instr.next (.pointer (some ⟨w1.heap.size, 0, none⟩)) true ty).run Tryd.prog wr = _ := fun ty => Lib.run_next_end_at wr w1.heap.size s pos ty hit hp
        have heq := HM.out.2.2.2.2.1
        have hbl := HM.out.2.2.1
        have hfr := HM.out.2.2.2.1
        rw [List.drop_of_length_le (by omega), runesD_nil, List.append_nil] at heq
        have HE := Lib.hid heq
        have HF := Lib.hid (And.intro hbl hfr)
        clear heq hbl hfr hit HM H0
        go_wp2
        go_ret
        refine ⟨_, rfl, ?_, HF.out⟩
        rw [← HE.out]
        exact HW.out
  · have hv' : validD s.data.toList = false := by simpa using hv
    rw [hv'] at hV ⊢
    have HV := Lib.hid hV
    clear hV hv hv' hT
    simp only [Bool.false_eq_true, if_false]
    go_enter Tryd.func18, Tryd.ntmps18
    go_wp2_with fail
    refine HV.out.mono ?_
    rintro e w1 ⟨rfl, hb⟩
    go_wp2
    go_ret
    exact ⟨_, rfl, Win.nil_ _ _ _, hb, by simp [Value.owner]⟩
end Go.Proofs.YtpmbpcinfakckaaDoor
