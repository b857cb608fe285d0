/-
  THE BOOK'S DOCUMENTS OUT OF NUMBERS, AS LISTS: their numbers, their texts; what JSON has.
-/
import Derived.Test.YtkfidnfnehnhoaaDocP
import Derived.Test.YtkfidnfnehnhoaaKit
namespace Go.Proofs.Ytkfidnfnehnhoaa
open Go.RowKit
open Go.Lib
def pieceR (i : Nat) : Nat := if i = 0 then 97 else if i = 1 then 34 else if i = 2 then 92 else if i = 3 then 10 else if i = 4 then 233 else if i = 5 then 1 else if i = 6 then 119070 else 122
theorem piece_rune : ∀ i : Fin 8, pieceL i.val = encL (pieceR i.val) := by decide +kernel
theorem pieceR_ok (i : Nat) : IsRune (pieceR i) := by
  unfold pieceR IsRune
  repeat' split
  all_goals omega
theorem textGo_runes (x : Nat) : ∀ k acc, ∃ ns : List Nat, ns.length = k ∧ (∀ r ∈ ns, IsRune r) ∧ textGo x k acc = acc ++ ns.flatMap encL := by
  intro k
  induction k with
  | zero => intro acc; exact ⟨[], rfl, by simp, by simp [textGo]⟩
  | succ k ih =>
    intro acc
    have hp := piece_rune ⟨x / 2 ^ ((k + 1) % 8) % 8, by omega⟩
    obtain ⟨ns, h1, h2, h3⟩ := ih (acc ++ pieceL (x / 2 ^ ((k + 1) % 8) % 8))
    refine ⟨pieceR (x / 2 ^ ((k + 1) % 8) % 8) :: ns, by simp [h1], ?_, ?_⟩
    · intro r hr
      rcases List.mem_cons.1 hr with rfl | hr
      · exact pieceR_ok _
      · exact h2 r hr
    · simp only [textGo]
      rw [h3, List.flatMap_cons, List.append_assoc]
      simp only at hp
      rw [hp]
theorem textL_fine (x : Nat) : validD (textL x) = true ∧ (textL x).length ≤ 28 := by
  obtain ⟨ns, h1, h2, h3⟩ := textGo_runes x (x % 8) []
  unfold textL
  rw [h3, List.nil_append]
  refine ⟨valid_encs ns h2, ?_⟩
  have : ∀ l : List Nat, (∀ n ∈ l, IsRune n) → (l.flatMap encL).length ≤ 4 * l.length := by
    intro l hl
    induction l with
    | nil => simp
    | cons a r ih =>
      have h4 := (enc_len (hl a (by simp))).2
      have := ih (fun n hn => hl n (by simp [hn]))
      rw [List.flatMap_cons, List.length_append, List.length_cons]
      generalize encL a = y at *
      omega
  have := this ns h2
  omega
/-- What a part of these documents is. -/
structure DocE (e : Ev) : Prop where
  kind : e.k = 0 ∨ e.k = 1 ∨ e.k = 2 ∨ e.k = 3 ∨ e.k = 5 ∨ e.k = 6 ∨ e.k = 7
  tidy : tidyE e = e
  cnt : -1 ≤ e.c ∧ e.c ≤ 3
  mag : e.m < 4294967296
  text : validD e.t.data.toList = true ∧ e.t.data.toList.length ≤ 28
theorem validD_nil : validD [] = true := rfl
theorem docE_plain (x : Nat) (hx : x < 65536) : DocE (plainD x) := by
  unfold plainD
  by_cases h0 : x % 8 = 0
  · rw [if_pos h0]
    exact ⟨by simp, rfl, by simp, by simp, validD_nil, by simp⟩
  rw [if_neg h0]
  by_cases h1 : x % 8 = 1
  · rw [if_pos h1]
    exact ⟨by simp, rfl, by simp, by simp, validD_nil, by simp⟩
  rw [if_neg h1]
  by_cases h2 : x % 8 ≤ 3
  · rw [if_pos h2]
    refine ⟨by simp, rfl, by simp, ?_, validD_nil, by simp⟩
    have h3 : x * x ≤ 65535 * 65535 := Nat.mul_le_mul (by omega) (by omega)
    have h4 : x * x / 2 ^ (x % 8) ≤ x * x := Nat.div_le_self _ _
    simp only
    omega
  · rw [if_neg h2]
    exact ⟨by simp, rfl, by simp, by simp, (textL_fine x).1, (textL_fine x).2⟩
theorem docE_low (x : Nat) (hx : x < 65536) : DocE (lowD x) := by
  unfold lowD
  split
  · exact ⟨by simp, rfl, by simp, by simp, validD_nil, by simp⟩
  · exact ⟨by simp, rfl, by simp, by simp only; omega, validD_nil, by simp⟩
theorem docE_list (it : Nat → List Ev × Nat) (hit : ∀ a, ∀ e ∈ (it a).1, DocE e) : ∀ k a, ∀ e ∈ (listD it k a).1, DocE e := by
  intro k
  induction k with
  | zero => intro a e he; simp [listD] at he
  | succ k ih =>
    intro a e he
    simp only [listD, List.mem_append] at he
    rcases he with he | he
    · exact hit a e he
    · exact ih _ e he
theorem docE_key (n : Nat) (L : Nat → Int) (a : Nat) : DocE ⟨3, false, 0, ⟨(textL (nxD n L a)).toArray⟩, 0⟩ := ⟨by simp, rfl, by simp, by simp, (textL_fine _).1, (textL_fine _).2⟩
theorem docE_map (n : Nat) (L : Nat → Int) (it : Nat → List Ev × Nat) (hit : ∀ a, ∀ e ∈ (it a).1, DocE e) : ∀ k a, ∀ e ∈ (mapD n L it k a).1, DocE e := by
  intro k
  induction k with
  | zero => intro a e he; simp [mapD] at he
  | succ k ih =>
    intro a e he
    simp only [mapD, List.mem_cons, List.mem_append] at he
    rcases he with rfl | he | he
    · exact docE_key n L a
    · exact hit (a + 1) e he
    · exact ih _ e he
theorem docE_item (n : Nat) (L : Nat → Int) : ∀ f a, ∀ e ∈ (itemD n L f a).1, DocE e := by
  have hend : DocE ⟨7, false, 0, ⟨#[]⟩, 0⟩ := ⟨by simp, rfl, by simp, by simp, validD_nil, by simp⟩
  intro f
  induction f with
  | zero =>
    intro a e he
    simp only [itemD] at he
    split at he
    · obtain rfl : e = _ := by simpa using he
      exact docE_plain _ (nxD_lt n L a)
    · obtain rfl : e = _ := by simpa using he
      exact docE_low _ (nxD_lt n L a)
  | succ f ih =>
    intro a e he
    simp only [itemD] at he
    by_cases h1 : nxD n L a % 8 ≤ 4
    · rw [if_pos h1] at he
      obtain rfl : e = _ := by simpa using he
      exact docE_plain _ (nxD_lt n L a)
    · rw [if_neg h1] at he
      by_cases h2 : nxD n L a % 8 = 5
      · rw [if_pos h2] at he
        have hk : nxD n L a / 8 % 4 ≤ 3 := by omega
        generalize nxD n L a / 8 % 4 = k at he hk
        simp only [List.cons_append, List.mem_cons, List.mem_append, List.not_mem_nil, or_false] at he
        rcases he with rfl | he | rfl
        · exact ⟨by simp, rfl, by simp only; omega, by simp, validD_nil, by simp⟩
        · exact docE_list _ ih _ _ e he
        · exact hend
      · rw [if_neg h2] at he
        have hk : nxD n L a / 8 % 3 ≤ 2 := by omega
        generalize nxD n L a / 8 % 3 = k at he hk
        simp only [List.cons_append, List.mem_cons, List.mem_append, List.not_mem_nil, or_false] at he
        rcases he with rfl | he | rfl
        · exact ⟨by simp, rfl, by simp only; omega, by simp, validD_nil, by simp⟩
        · exact docE_map n L _ ih _ _ e he
        · exact hend
theorem docE_open {e : Ev} (h : DocE e) : DocE (openE e) ∧ (((openE e).k = 5 ∨ (openE e).k = 6) → (openE e).c = -1) := by
  obtain ⟨k, y, m, t, c⟩ := e
  unfold openE
  by_cases hk : k = 5 ∨ k = 6
  · rw [if_pos hk]
    obtain ⟨h1, h2, h3, h4, h5⟩ := h
    refine ⟨⟨h1, ?_, by simp, h4, h5⟩, fun _ => rfl⟩
    simp only [tidyE] at h2 ⊢
    rcases hk with rfl | rfl
    · simp at h2 ⊢; exact ⟨h2.1, h2.2.1, h2.2.2⟩
    · simp at h2 ⊢; exact ⟨h2.1, h2.2.1, h2.2.2⟩
  · rw [if_neg hk]
    exact ⟨h, fun h' => absurd h' hk⟩
theorem DocE.good {e : Ev} (h : DocE e) (ho : e.k = 5 ∨ e.k = 6 → e.c = -1) : GoodW e := ⟨h.kind, h.tidy, ho, by have := h.mag; omega, fun _ => ⟨h.text.1, by have := h.text.2; omega⟩⟩
theorem DocE.ok {e : Ev} (h : DocE e) : EvOk e := by
  have h1 := h.kind
  have h2 := h.cnt
  have h3 := h.mag
  have h4 := h.text.2
  rw [size_list] at h4
  exact ⟨⟨by omega, by omega⟩, by omega, ⟨by omega, by omega⟩, by omega⟩
/-- What JSON has of them. -/
theorem doc_good (n : Nat) (L : Nat → Int) (f a : Nat) : ∀ e ∈ (itemD n L f a).1.map openE, GoodW e ∧ EvOk e ∧ e.t.size ≤ 28 := by
  intro e he
  obtain ⟨x, hx, rfl⟩ := List.mem_map.1 he
  obtain ⟨h1, h2⟩ := docE_open (docE_item n L f a x hx)
  refine ⟨h1.good h2, h1.ok, ?_⟩
  have := h1.text.2
  rwa [size_list] at this
theorem gE_true : gE true = openE := by funext e; rfl
theorem gE_false : gE false = id := by funext e; rfl
end Go.Proofs.Ytkfidnfnehnhoaa
