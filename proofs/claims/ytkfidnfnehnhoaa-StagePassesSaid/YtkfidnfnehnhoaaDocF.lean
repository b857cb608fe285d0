/-
  CONTRACTS of the book's documents out of numbers: an array, and the items in it.
-/
import Derived.Test.YtkfidnfnehnhoaaDocE
namespace Go.Proofs.Ytkfidnfnehnhoaa
open Go.RowKit
open Go.Lib
theorem list_cap (it : Nat → List Ev × Nat) (C : Nat) (h : ∀ a, (it a).1.length ≤ C ∧ (it a).2 ≤ a + C) : ∀ k a, (listD it k a).1.length ≤ k * C ∧ (listD it k a).2 ≤ a + k * C
  | 0, a => by simp [listD]
  | k + 1, a => by
    have h1 := h a
    have h2 := list_cap it C h k (it a).2
    rw [Nat.succ_mul]
    simp only [listD, List.length_append]
    omega
theorem map_cap (n : Nat) (L : Nat → Int) (it : Nat → List Ev × Nat) (C : Nat) (h : ∀ a, (it a).1.length ≤ C ∧ (it a).2 ≤ a + C) : ∀ k a, (mapD n L it k a).1.length ≤ k * (C + 1) ∧ (mapD n L it k a).2 ≤ a + k * (C + 1)
  | 0, a => by simp [mapD]
  | k + 1, a => by
    have h1 := h (a + 1)
    have h2 := map_cap n L it C h k (it (a + 1)).2
    rw [Nat.succ_mul]
    simp only [mapD, List.length_cons, List.length_append]
    omega
theorem item_cap (n : Nat) (L : Nat → Int) : ∀ f a, (itemD n L f a).1.length ≤ capD f ∧ (itemD n L f a).2 ≤ a + capD f
  | 0, a => by
    simp only [itemD, capD]
    split <;> simp
  | f + 1, a => by
    have h1 := list_cap (itemD n L f) (capD f) (item_cap n L f) (nxD n L a / 8 % 4) (a + 1)
    have h2 := map_cap n L (itemD n L f) (capD f) (item_cap n L f) (nxD n L a / 8 % 3) (a + 1)
    have h3 : nxD n L a / 8 % 4 * capD f ≤ 3 * capD f := Nat.mul_le_mul_right _ (by omega)
    have h4 : nxD n L a / 8 % 3 * (capD f + 1) ≤ 2 * (capD f + 1) := Nat.mul_le_mul_right _ (by omega)
    simp only [itemD, capD]
    split
    · exact ⟨by simp, by simp⟩
    · split
      · simp only [List.length_append, List.length_cons, List.length_nil]
        omega
      · simp only [List.length_append, List.length_cons, List.length_nil]
        omega
/-- What an item does, at one depth. -/
def ItemOk (W : World) (A : Option Addr) (n cp : Nat) (L : Nat → Int) (D bl bd bo ba bn bi d f : Nat) : Prop :=
  ∀ (m a : Nat) (w : World) (v : Value) (out : List Ev), DS W A n cp L D bl bd bo ba bn bi w v m out a → a + capD f ≤ 900000000 → m + capD f ≤ 900000000 →
    Calls Try.prog 32 #[.int .i64 ((d : Nat) : Int), .pointer (some ⟨bn, 0, none⟩), .pointer (some ⟨bo, 0, none⟩), .pointer (some ⟨bd, 0, none⟩), .pointer (some ⟨bi, 0, none⟩)] w fun r w' => ∃ v', r = .returned (.tuple #[]) ∧ DS W A n cp L D bl bd bo ba bn bi w' v' (m + (itemD n L f a).1.length) (out ++ (itemD n L f a).1) (itemD n L f a).2
set_option maxHeartbeats 2000000 in
theorem item_arr {D n cp at_ m bl bd bo ba bn bi d f : Nat} {A : Option Addr} {L : Nat → Int} {W w : World} {v : Value} {out : List Ev} (h : DS W A n cp L D bl bd bo ba bn bi w v m out at_) (h1 : at_ + capD (f + 1) ≤ 900000000) (h2 : n ≤ 900000000) (h3 : m + capD (f + 1) ≤ 900000000) (hx : nxD n L at_ % 8 = 5) (hd : d + (f + 1) = D) (hD : D ≤ 1000)
    (hI : ItemOk W A n cp L D bl bd bo ba bn bi (d + 1) f) :
    Calls Try.prog 32 #[.int .i64 ((d : Nat) : Int), .pointer (some ⟨bn, 0, none⟩), .pointer (some ⟨bo, 0, none⟩), .pointer (some ⟨bd, 0, none⟩), .pointer (some ⟨bi, 0, none⟩)] w fun r w' => ∃ v', r = .returned (.tuple #[]) ∧ DS W A n cp L D bl bd bo ba bn bi w' v' (m + (itemD n L (f + 1) at_).1.length) (out ++ (itemD n L (f + 1) at_).1) (itemD n L (f + 1) at_).2 := by
  have hX := nxD_lt n L at_
  have x0 : w.cell? ⟨bn, 0, none⟩ = some (.func (.func 31) #[] #[.pointer (some ⟨ba, 0, none⟩), .pointer (some ⟨bl, 0, none⟩)]) := h.x.cell 0
  have hcap := item_cap n L f
  have hC : capD (f + 1) = 3 * capD f + 5 := rfl
  rw [hC] at h1 h3
  clear hC
  have HC := Lib.hid (next_ds h (by omega) h2)
  clear h
  simp only [itemD]
  rw [if_neg (by omega), if_pos hx]
  generalize nxD n L at_ = x at hx hX HC ⊢
  obtain ⟨q, hq⟩ : ∃ q, x / 8 % 4 = q := ⟨_, rfl⟩
  rw [hq]
  have hq4 : q ≤ 3 := by omega
  obtain ⟨T, hT⟩ : ∃ T, listD (itemD n L f) q (at_ + 1) = T := ⟨_, rfl⟩
  rw [hT]
  have HCap := Lib.hid hcap
  have HI := Lib.hid hI
  have HT := Lib.hid hT
  have HQ := Lib.hid hq
  have hsh : (x : Int) / 8 % 4 = q := by omega
  have hlt : ¬ (D : Int) ≤ d := by omega
  clear hcap hI hT hq
  go_enter Try.func32, Try.ntmps32
  go_wp2_with (first
    | (go_at_call 31; refine HC.out.mono ?_; rintro e w1 ⟨rfl, HN⟩; have x1 := HN.o.cell 0; have x2 := HN.o.froz 0; have x3 := HN.d.cell 0; have HN := Lib.hid HN)
    | (at_builtin; go_loud (refine wpList_append_win rfl _ _ _ rfl Try.underlying23 info_ev rfl rfl (HN.out.made.2.1.alloc _) _ rfl 1 _ (src_new _ Try.underlying23 5 1 (evsC [⟨5, false, 0, ⟨#[]⟩, (q : Int)⟩]) 34 _ rfl (evsC_one _) (heap_alloc_new _ _)) ?e1 ?e2 ?_)))
  case e1 => unfold maxLen; omega
  case e2 => omega
  intro v3 w3 hW3 hG3 hO3
  have hD := HN.out.put ⟨5, false, 0, ⟨#[]⟩, (q : Int)⟩ (up_alloc (Below.refl _ _) _) hW3.out hG3.out (by simpa using hO3.out)
  have hH := HN.out.held (up_alloc (Below.refl _ _) _) hG3.out
  have y1 := hH.cell 0
  have y2 := hH.froz 0
  obtain ⟨a3, c3, rfl, _, _⟩ := hD.made.2.1.slice_form
  have hD := Lib.hid hD
  clear hW3 hG3 hO3 hH x1 x2 x3 x0
  have hlm := HN.out.len
  clear HC
  have HL := Lib.hid hlm
  clear hlm
  go_wp2
  obtain ⟨e5, he5⟩ : ∃ e5 : Ev, (⟨5, false, 0, ⟨#[]⟩, (q : Int)⟩ : Ev) = e5 := ⟨_, rfl⟩
  rw [he5] at hD
  have HE5 := Lib.hid he5
  clear he5
  generalize w3.setCell ⟨bo, 0, none⟩ (.slice a3 (m + 1) c3) = w4 at hD ⊢
  clear y1 y2
  go_loopw [8] (fun i wr => ∃ (j m' a' : Nat) (v' : Value) (out' : List Ev), i = .int .i64 j ∧ j ≤ q ∧ Hid (DS W A n cp L D bl bd bo ba bn bi wr v' m' out' a') ∧ Hid (out' ++ (listD (itemD n L f) (q - j) a').1 = (out ++ [e5]) ++ T.1 ∧ (listD (itemD n L f) (q - j) a').2 = T.2 ∧ m' ≤ m + 1 + j * capD f ∧ a' ≤ at_ + 1 + j * capD f)) (fun i _ => q - (RowKit.intOf i).toNat)
  case atStart => exact ⟨0, m + 1, at_ + 1, _, _, rfl, by omega, hD, Lib.hid ⟨by rw [Nat.sub_zero, HT.out], by rw [Nat.sub_zero, HT.out], by omega, by omega⟩⟩
  case round =>
    obtain ⟨j, m', a', v', out', rfl, hj, HS, HR⟩ := hrel
    by_cases hjq : j < q
    · have x0 : wr.cell? ⟨bi, 0, none⟩ = some (.func (.func 32) #[] #[.pointer (some ⟨bn, 0, none⟩), .pointer (some ⟨bo, 0, none⟩), .pointer (some ⟨bd, 0, none⟩), .pointer (some ⟨bi, 0, none⟩)]) := HS.out.i.cell 0
      have hmul : j * capD f + capD f ≤ 3 * capD f := by rw [← Nat.succ_mul]; exact Nat.mul_le_mul_right _ (by omega)
      have hr := HR.out
      have HK := Lib.hid (HI.out m' a' wr v' out' HS.out (by omega) (by omega))
      have hcp := HCap.out a'
      rw [show q - j = (q - (j + 1)) + 1 by omega] at hr
      simp only [listD] at hr
      have HR2 : Hid ((out' ++ (itemD n L f a').1) ++ (listD (itemD n L f) (q - (j + 1)) (itemD n L f a').2).1 = (out ++ [e5]) ++ T.1 ∧ (listD (itemD n L f) (q - (j + 1)) (itemD n L f a').2).2 = T.2 ∧ m' + (itemD n L f a').1.length ≤ m + 1 + (j + 1) * capD f ∧ (itemD n L f a').2 ≤ at_ + 1 + (j + 1) * capD f) := Lib.hid ⟨by rw [← hr.1, List.append_assoc], hr.2.1, by rw [Nat.succ_mul]; omega, by rw [Nat.succ_mul]; omega⟩
      clear hr hcp hmul HS HR
      go_wp2_with (go_at_call 32; refine HK.out.mono ?_; rintro e w5 ⟨v5, rfl, HS5⟩; have HS5 := Lib.hid HS5)
      go_roundw
      case rel => exact ⟨j + 1, _, _, v5, _, rfl, hjq, HS5, HR2⟩
      case measure => simp [RowKit.intOf]; omega
    · have hr := HR.out
      rw [show q - j = 0 by omega] at hr
      simp only [listD, List.append_nil] at hr
      have hmul : j * capD f ≤ 3 * capD f := Nat.mul_le_mul_right _ (by omega)
      have x1 := HS.out.o.cell 0
      have x2 := HS.out.o.froz 0
      have hm6 : m' ≤ 900000000 := by omega
      have HR3 := Lib.hid hr
      clear hr HR hmul
      go_wp2_with (at_builtin; go_loud (refine wpList_append_win rfl _ _ _ rfl Try.underlying23 info_ev rfl rfl (HS.out.made.2.1.alloc _) _ rfl 1 _ (src_new _ Try.underlying23 5 1 (evsC [⟨7, false, 0, ⟨#[]⟩, 0⟩]) 34 _ rfl (evsC_one _) (heap_alloc_new _ _)) ?e1 ?e2 ?_))
      case e1 => unfold maxLen; omega
      case e2 => omega
      intro v6 w6 hW6 hG6 hO6
      have hD6 := HS.out.put ⟨7, false, 0, ⟨#[]⟩, 0⟩ (up_alloc (Below.refl _ _) _) hW6.out hG6.out (by simpa using hO6.out)
      have hH6 := HS.out.held (up_alloc (Below.refl _ _) _) hG6.out
      have y1 := hH6.cell 0
      have y2 := hH6.froz 0
      obtain ⟨a6, c6, rfl, _, _⟩ := hD6.made.2.1.slice_form
      have hlen := hD6.len
      have hD6 := Lib.hid hD6
      have HLen := Lib.hid hlen
      clear hW6 hG6 hO6 hH6 x1 x2 hlen
      go_wp2
      refine bodyPost_end (results_none rfl _ _ _) rfl ?_
      refine ⟨.slice a6 (m' + 1) c6, rfl, ?_⟩
      have he : (out ++ (⟨5, false, 0, ⟨#[]⟩, (q : Int)⟩ :: (T.1 ++ [⟨7, false, 0, ⟨#[]⟩, 0⟩]))) = out' ++ [⟨7, false, 0, ⟨#[]⟩, 0⟩] := by
        rw [HR3.out.1, HE5.out]
        simp
      have hl2 : m + ((T.1 ++ [(⟨7, false, 0, ⟨#[]⟩, 0⟩ : Ev)]).length + 1) = m' + 1 := by
        have h9 := congrArg List.length he
        rw [HLen.out, List.length_append, List.length_cons, HL.out] at h9
        exact h9
      rw [he, hl2, ← HR3.out.2.1]
      exact hD6.out
end Go.Proofs.Ytkfidnfnehnhoaa
