/-
  CONTRACTS of the book's documents out of numbers: a map, and the items in it.
-/
import Derived.Test.YtkfidnfnehnhoaaDocF
namespace Go.Proofs.Ytkfidnfnehnhoaa
open Go.RowKit
open Go.Lib
set_option maxHeartbeats 2000000 in
theorem item_map {D n cp at_ m bl bd bo ba bn bi d f : Nat} {A : Option Addr} {L : Nat → Int} {W w : World} {v : Value} {out : List Ev} (h : DS W A n cp L D bl bd bo ba bn bi w v m out at_) (h1 : at_ + capD (f + 1) ≤ 900000000) (h2 : n ≤ 900000000) (h3 : m + capD (f + 1) ≤ 900000000) (hx : 6 ≤ nxD n L at_ % 8) (hd : d + (f + 1) = D) (hD : D ≤ 1000)
    (hI : ItemOk W A n cp L D bl bd bo ba bn bi (d + 1) f) :
    Calls Try.prog 32 #[.int .i64 ((d : Nat) : Int), .pointer (some ⟨bn, 0, none⟩), .pointer (some ⟨bo, 0, none⟩), .pointer (some ⟨bd, 0, none⟩), .pointer (some ⟨bi, 0, none⟩)] w fun r w' => ∃ v', r = .returned (.tuple #[]) ∧ DS W A n cp L D bl bd bo ba bn bi w' v' (m + (itemD n L (f + 1) at_).1.length) (out ++ (itemD n L (f + 1) at_).1) (itemD n L (f + 1) at_).2 := by
  have hX := nxD_lt n L at_
  have x0 : w.cell? ⟨bn, 0, none⟩ = some (.func (.func 31) #[] #[.pointer (some ⟨ba, 0, none⟩), .pointer (some ⟨bl, 0, none⟩)]) := h.x.cell 0
  have hcap := item_cap n L f
  have hC : capD (f + 1) = 3 * capD f + 5 := rfl
  rw [hC] at h1 h3
  clear hC
  have HC := Lib.hid (next_ds h (by omega) h2)
  clear h
  simp only [itemD]
  rw [if_neg (by omega), if_neg (by omega)]
  generalize nxD n L at_ = x at hx hX HC ⊢
  obtain ⟨q, hq⟩ : ∃ q, x / 8 % 3 = q := ⟨_, rfl⟩
  rw [hq]
  have hq4 : q ≤ 2 := by omega
  obtain ⟨T, hT⟩ : ∃ T, mapD n L (itemD n L f) q (at_ + 1) = T := ⟨_, rfl⟩
  rw [hT]
  have HCap := Lib.hid hcap
  have HI := Lib.hid hI
  have HT := Lib.hid hT
  have HQ := Lib.hid hq
  have hsh : (x : Int) / 8 % 3 = q := by omega
  have hlt : ¬ (D : Int) ≤ d := by omega
  clear hcap hI hT hq
  go_enter Try.func32, Try.ntmps32
  go_wp2_with (first
    | (go_at_call 31; refine HC.out.mono ?_; rintro e w1 ⟨rfl, HN⟩; have x1 := HN.o.cell 0; have x2 := HN.o.froz 0; have x3 := HN.d.cell 0; have HN := Lib.hid HN)
    | (at_builtin; go_loud (refine wpList_append_win rfl _ _ _ rfl Try.underlying23 info_ev rfl rfl (HN.out.made.2.1.alloc _) _ rfl 1 _ (src_new _ Try.underlying23 5 1 (evsC [⟨6, false, 0, ⟨#[]⟩, (q : Int)⟩]) 34 _ rfl (evsC_one _) (heap_alloc_new _ _)) ?e1 ?e2 ?_)))
  case e1 => unfold maxLen; omega
  case e2 => omega
  intro v3 w3 hW3 hG3 hO3
  have hD := HN.out.put ⟨6, false, 0, ⟨#[]⟩, (q : Int)⟩ (up_alloc (Below.refl _ _) _) hW3.out hG3.out (by simpa using hO3.out)
  have hH := HN.out.held (up_alloc (Below.refl _ _) _) hG3.out
  have y1 := hH.cell 0
  have y2 := hH.froz 0
  obtain ⟨a3, c3, rfl, _, _⟩ := hD.made.2.1.slice_form
  have hD := Lib.hid hD
  clear hW3 hG3 hO3 hH x1 x2 x3 x0
  have hlm := HN.out.len
  clear HC
  have HL := Lib.hid hlm
  clear hlm
  go_wp2
  obtain ⟨e5, he5⟩ : ∃ e5 : Ev, (⟨6, false, 0, ⟨#[]⟩, (q : Int)⟩ : Ev) = e5 := ⟨_, rfl⟩
  rw [he5] at hD
  have HE5 := Lib.hid he5
  clear he5
  generalize w3.setCell ⟨bo, 0, none⟩ (.slice a3 (m + 1) c3) = w4 at hD ⊢
  clear y1 y2
  go_loopw [10] (fun i wr => ∃ (j m' a' : Nat) (v' : Value) (out' : List Ev), i = .int .i64 j ∧ j ≤ q ∧ Hid (DS W A n cp L D bl bd bo ba bn bi wr v' m' out' a') ∧ Hid (out' ++ (mapD n L (itemD n L f) (q - j) a').1 = (out ++ [e5]) ++ T.1 ∧ (mapD n L (itemD n L f) (q - j) a').2 = T.2 ∧ m' ≤ m + 1 + j * (capD f + 1) ∧ a' ≤ at_ + 1 + j * (capD f + 1))) (fun i _ => q - (RowKit.intOf i).toNat)
  case atStart => exact ⟨0, m + 1, at_ + 1, _, _, rfl, by omega, hD, Lib.hid ⟨by rw [Nat.sub_zero, HT.out], by rw [Nat.sub_zero, HT.out], by omega, by omega⟩⟩
  case round =>
    obtain ⟨j, m', a', v', out', rfl, hj, HS, HR⟩ := hrel
    by_cases hjq : j < q
    · have hmul : j * (capD f + 1) + (capD f + 1) ≤ 2 * (capD f + 1) := by rw [← Nat.succ_mul]; exact Nat.mul_le_mul_right _ (by omega)
      have hr := HR.out
      have hcp := HCap.out (a' + 1)
      rw [show q - j = (q - (j + 1)) + 1 by omega] at hr
      simp only [mapD] at hr
      have hb1 : m' + 1 + capD f ≤ 900000000 := by omega
      have hb2 : a' + 1 + capD f ≤ 900000000 := by omega
      have hX2 := nxD_lt n L a'
      have HSd := Lib.hid (HS.out.go (below_drw (Below.refl _ wr)))
      have HC := Lib.hid (next_ds HSd.out (by omega) h2)
      generalize nxD n L a' = x2 at HC hX2 hr
      have HTx := Lib.hid (fun w => text_any x2 hX2 w)
      generalize (⟨(textL x2).toArray⟩ : ByteArray) = T2 at HTx hr
      have HR2 : Hid (((out' ++ [⟨3, false, 0, T2, 0⟩]) ++ (itemD n L f (a' + 1)).1) ++ (mapD n L (itemD n L f) (q - (j + 1)) (itemD n L f (a' + 1)).2).1 = (out ++ [e5]) ++ T.1 ∧ (mapD n L (itemD n L f) (q - (j + 1)) (itemD n L f (a' + 1)).2).2 = T.2 ∧ m' + 1 + (itemD n L f (a' + 1)).1.length ≤ m + 1 + (j + 1) * (capD f + 1) ∧ (itemD n L f (a' + 1)).2 ≤ at_ + 1 + (j + 1) * (capD f + 1)) := Lib.hid ⟨by rw [← hr.1]; simp, hr.2.1, by rw [Nat.succ_mul]; omega, by rw [Nat.succ_mul]; omega⟩
      have hm6 : m' ≤ 900000000 := by omega
      have x0 : wr.cell? ⟨bn, 0, none⟩ = some (.func (.func 31) #[] #[.pointer (some ⟨ba, 0, none⟩), .pointer (some ⟨bl, 0, none⟩)]) := HS.out.x.cell 0
      have x1 : wr.cell? ⟨bo, 0, none⟩ = some v' := HS.out.o.cell 0
      clear hr hcp hmul HS HR 
      clear hD
      go_wp2_with fail
      go_region_law (first
        | (go_simp; (go_at_call 31); (refine HC.out.mono ?_); rintro e w5 ⟨rfl, H5⟩; have b1 : w5.cell? ⟨bo, 0, none⟩ = some v' := H5.o.cell 0; have H5 := Lib.hid H5)
        | (go_simp; (go_at_call 33); (refine (HTx.out _).mono ?_); rintro e w6 ⟨rfl, HB⟩; have H6 := Lib.hid (H5.out.go HB); have z2 : w6.cell? ⟨bo, 0, none⟩ = some v' := H6.out.o.cell 0; have z4 : ∀ o, (w6.alloc o).cell? ⟨bo, 0, none⟩ = some v' := fun o => ((H6.out.o.go (up_alloc (Below.refl _ _) o)).cell 0); clear HB)
        | (refine step_append_win rfl _ _ _ rfl Try.underlying23 info_ev rfl rfl (H6.out.made.2.1.alloc _) _ rfl 1 _ (src_new _ Try.underlying23 5 1 (evsC [⟨3, false, 0, T2, 0⟩]) 34 _ rfl (evsC_one _) (heap_alloc_new w6 _)) (by unfold maxLen; omega) (by omega) ?_; intro v7 w7 hW7 hG7 hO7; have hD7 := H6.out.put ⟨3, false, 0, T2, 0⟩ (up_alloc (Below.refl _ _) _) hW7.out hG7.out hO7.out; have hH7 := H6.out.held (up_alloc (Below.refl _ _) _) hG7.out; have y1 := hH7.cell 0; have y2 := hH7.froz 0; obtain ⟨a7, c7, rfl, _, _⟩ := hD7.made.2.1.slice_form; have i0 : (w7.setCell ⟨bo, 0, none⟩ (.slice a7 (m' + 1) c7)).cell? ⟨bi, 0, none⟩ = some (.func (.func 32) #[] #[.pointer (some ⟨bn, 0, none⟩), .pointer (some ⟨bo, 0, none⟩), .pointer (some ⟨bd, 0, none⟩), .pointer (some ⟨bi, 0, none⟩)]) := hD7.i.cell 0; have HK := Lib.hid (HI.out (m' + 1) (a' + 1) _ _ _ hD7 hb2 hb1); clear hW7 hG7 hO7 hH7 hD7))
      all_goals
        go_wp2_with (go_at_call 32; refine HK.out.mono ?_; rintro e w8 ⟨v8, rfl, HS8⟩; have HS8 := Lib.hid HS8)
        go_roundw
        case rel => exact ⟨j + 1, _, _, v8, _, rfl, hjq, HS8, HR2⟩
        case measure => simp [RowKit.intOf]; omega
    · have hr := HR.out
      rw [show q - j = 0 by omega] at hr
      simp only [mapD, List.append_nil] at hr
      have hmul : j * (capD f + 1) ≤ 2 * (capD f + 1) := Nat.mul_le_mul_right _ (by omega)
      have x1 := HS.out.o.cell 0
      have x2 := HS.out.o.froz 0
      have hm6 : m' ≤ 900000000 := by omega
      have HR3 := Lib.hid hr
      clear hr HR hmul
      go_wp2_with (at_builtin; go_loud (refine wpList_append_win rfl _ _ _ rfl Try.underlying23 info_ev rfl rfl (HS.out.made.2.1.alloc _) _ rfl 1 _ (src_new _ Try.underlying23 5 1 (evsC [⟨7, false, 0, ⟨#[]⟩, 0⟩]) 34 _ rfl (evsC_one _) (heap_alloc_new _ _)) ?e1 ?e2 ?_))
      case e1 => unfold maxLen; omega
      case e2 => omega
      intro v6 w6 hW6 hG6 hO6
      have hD6 := HS.out.put ⟨7, false, 0, ⟨#[]⟩, 0⟩ (up_alloc (Below.refl _ _) _) hW6.out hG6.out (by simpa using hO6.out)
      have hH6 := HS.out.held (up_alloc (Below.refl _ _) _) hG6.out
      have y1 := hH6.cell 0
      have y2 := hH6.froz 0
      obtain ⟨a6, c6, rfl, _, _⟩ := hD6.made.2.1.slice_form
      have hlen := hD6.len
      have hD6 := Lib.hid hD6
      have HLen := Lib.hid hlen
      clear hW6 hG6 hO6 hH6 x1 x2 hlen
      go_wp2
      refine bodyPost_end (results_none rfl _ _ _) rfl ?_
      refine ⟨.slice a6 (m' + 1) c6, rfl, ?_⟩
      have he : (out ++ (⟨6, false, 0, ⟨#[]⟩, (q : Int)⟩ :: (T.1 ++ [⟨7, false, 0, ⟨#[]⟩, 0⟩]))) = out' ++ [⟨7, false, 0, ⟨#[]⟩, 0⟩] := by
        rw [HR3.out.1, HE5.out]
        simp
      have hl2 : m + ((T.1 ++ [(⟨7, false, 0, ⟨#[]⟩, 0⟩ : Ev)]).length + 1) = m' + 1 := by
        have h9 := congrArg List.length he
        rw [HLen.out, List.length_append, List.length_cons, HL.out] at h9
        exact h9
      rw [he, hl2, ← HR3.out.2.1]
      exact hD6.out
end Go.Proofs.Ytkfidnfnehnhoaa
