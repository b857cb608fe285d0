/-
  The document's own Writer for CBOR: any part of a document; a loop over one.
-/
import Derived.Test.YtgknpheefbfnlaaRb
import Derived.Test.YtgknpheefbfnlaaRc
import Derived.Test.YtgknpheefbfnlaaRd
import Derived.Test.YtgknpheefbfnlaaRh
import Derived.Test.YtgknpheefbfnlaaRi
import Derived.Test.YtgknpheefbfnlaaRj
import Derived.Test.YtgknpheefbfnlaaRk
import Derived.Test.YtgknpheefbfnlaaRl
import Derived.Test.YtgknpheefbfnlaaRm
import Derived.Test.YtgknpheefbfnlaaDe
import Derived.Test.YtgknpheefbfnlaaGa
/-
  CONTRACT of the document's own Writer, for CBOR: a part of a document.
-/
namespace Go.Proofs.Ytgknpheefbfnlaa
open Go.RowKit
open Go.Lib
theorem WkAt.up {M M' B : Nat} {w : World} {b : Nat} {s : List Bx} {dn : Bool} (h : WkAt M B w b s dn) (h1 : M ≤ M') (h2 : M' ≤ 1000) : WkAt M' B w b s dn := by
  obtain ⟨a, cp, h3, h4⟩ := h.cells
  exact ⟨⟨a, cp, h3, ⟨h4.win, h4.vB, fun x hx => ⟨(h4.ok x hx).1, Nat.le_trans (h4.ok x hx).2 h1⟩, h4.deep, h2⟩⟩, h.blk, h.low⟩
/-- Of a document that goes on to its end: there is room for one part more. -/
theorem room_of {b : Bx} {r : List Bx} {e : Ev} {l : List Ev} (h : runC (.live (b :: r)) (e :: l) = .done) (h7 : e.k ≠ 7) (hc : 0 ≤ b.c) : (b.have_ : Int) < if b.map = true then 2 * b.c else b.c := by
  by_cases h1 : (b.have_ : Int) < if b.map = true then 2 * b.c else b.c
  · exact h1
  · by_cases h2 : (b.have_ : Int) = if b.map = true then 2 * b.c else b.c
    · have hf : fullB b = true := by
        unfold fullB
        rw [decide_eq_true_eq]
        exact ⟨hc, h2⟩
      exact absurd (full_end hf h) h7
    · exact absurd h (over_bad _ _ ⟨b, List.mem_cons_self, hc, by omega⟩)
theorem writeK_len {e : Ev} (hg : GoodK e) (s : List Bx) : (writeK s e).length ≤ 209 := by
  have ht := hg.text.1
  unfold writeK
  split
  · split
    · simp
    · split <;> simp
  split
  · simp
  split
  · simp
  split
  · exact Nat.le_trans (headB_len _ _) (by decide)
  split
  · rw [List.length_append]
    have := headB_len (if e.k = 3 then 3 else 2) e.t.data.toList.length
    omega
  split
  · simp
  · exact Nat.le_trans (headB_len _ _) (by decide)
theorem writeK_any {e : Ev} (h7 : e.k ≠ 7) (s : List Bx) : writeK s e = writeK [] e := by
  unfold writeK
  rw [if_neg h7, if_neg h7]
/-- A PART. -/
theorem wk_step (hH : HeadK) {M B b : Nat} {w : World} {s s' : List Bx} (h : WkAt M B w b s false) (hM : M + 1 ≤ 1000) (hd : s.length < 800) (hcs : ∀ x ∈ s, x.c ≤ 1000000) (e : Ev) (hg : GoodK e) (hst : stepC (.live s) e = ckS s')
    (hroom : e.k ≠ 7 → ∀ x r, s = x :: r → 0 ≤ x.c → (x.have_ : Int) < if x.map = true then 2 * x.c else x.c) :
    Calls Try.prog 18 #[.pointer (some ⟨b, 0, none⟩), evV e] w fun q w' => q = .returned (.tuple #[.string ⟨(writeK s e).toArray⟩, .int .i64 0]) ∧ WkAt (M + 1) B w' b s' (decide (s' = [])) ∧ Bew B b w w' := by
  have hnb : ∀ f, stepC (.live s) e ≠ .bad f := fun f hf => by
    rw [hst] at hf
    unfold ckS at hf
    split at hf <;> cases hf
  have hm : mayE e := by
    by_cases hm : mayE e
    · exact hm
    · exact absurd (by simp only [stepC]; rw [if_pos hm]) (hnb 2)
  have hinj : ∀ x y : List Bx, ckS x = ckS y → x = y := by
    intro x y hxy
    unfold ckS at hxy
    by_cases hx : x = [] <;> by_cases hy : y = []
    · rw [hx, hy]
    · rw [if_pos hx, if_neg hy] at hxy; cases hxy
    · rw [if_neg hx, if_pos hy] at hxy; cases hxy
    · rw [if_neg hx, if_neg hy] at hxy; cases hxy; rfl
  by_cases h7 : e.k = 7
  · cases s with
    | nil => exact absurd (by simp only [stepC]; rw [if_neg (by simpa using hm), if_pos h7]) (hnb 2)
    | cons bx r =>
      have hns : ¬ shutB bx := fun hsb => hnb 2 (by simp only [stepC]; rw [if_neg (by simpa using hm), if_pos h7, if_pos hsb])
      have he := good_end hg h7
      obtain rfl : r = s' := hinj _ _ (by rw [← hst, he]; exact (end_step hns).symm)
      obtain ⟨k, y, m, t, c⟩ := e
      obtain rfl : k = 7 := h7
      refine (wk_end h y m t c hns (hcs bx (by simp))).mono ?_
      rintro q w' ⟨rfl, h1, h2⟩
      exact ⟨rfl, h1.up (by omega) hM, h2⟩
  · have hkey : keyB s = true → e.k = 3 := by
      intro hk
      by_cases h3 : e.k = 3
      · exact h3
      · exact absurd (by simp only [stepC]; rw [if_neg (by simpa using hm), if_neg h7, if_pos ⟨hk, h3⟩]) (hnb 8)
    have hkey' : ¬ (keyB s = true ∧ e.k ≠ 3) := fun h => h.2 (hkey h.1)
    have hrm := hroom h7
    rw [writeK_any h7]
    have hlen := writeK_len hg []
    by_cases h56 : e.k = 5 ∨ e.k = 6
    · have hs' : s' = ⟨decide (e.k = 6), e.c, 0⟩ :: incB s := by
        refine hinj _ _ ?_
        rw [← hst]
        have h4 := hnb 4
        simp only [stepC] at h4 ⊢
        rw [if_neg (by simpa using hm), if_neg h7, if_neg hkey', if_pos h56] at h4 ⊢
        by_cases hl : 16 ≤ s.length
        · rw [if_pos hl] at h4
          exact absurd rfl h4
        · rw [if_neg hl]
          unfold ckS
          rw [if_neg (by simp)]
      subst hs'
      have hc := hg.cnt
      have hkf : keyB s = false := by
        cases hq : keyB s with
        | false => rfl
        | true => have := hkey hq; omega
      obtain ⟨k, y, m, t, c⟩ := e
      simp only at h56 hc hrm ⊢
      have hc2 : -1 ≤ c ∧ c ≤ 9223372036854775807 := by omega
      have hHd : 0 ≤ c → ∀ n : Int, ∀ W, Calls Try.prog 24 #[.int .i64 n, .int .u64 c] W fun r w' => r = .returned (.string ⟨(headB (n % 8).toNat c.toNat).toArray⟩) ∧ Below W.heap.size W w' := by
        intro h0 n W
        have := hH n c.toNat (by omega) W
        rwa [Int.toNat_of_nonneg h0] at this
      have hXs : ∀ j n : Nat, (⟨(headB j n).toArray⟩ : ByteArray).size ≤ 100000 := by
        intro j n
        rw [size_of]
        exact Nat.le_trans (headB_len _ _) (by decide)
      have hwn : ∀ k : Int, k = 5 ∨ k = 6 → c < 0 → writeK [] ⟨k, y, m, t, c⟩ = [if k = 6 then 191 else 159] := by
        intro k hk hn
        unfold writeK
        simp only
        rw [if_neg (by omega), if_neg (by omega), if_neg (by omega), if_neg (by omega), if_neg (by omega), if_pos hn]
      have hwc : ∀ k : Int, k = 5 ∨ k = 6 → ¬ c < 0 → writeK [] ⟨k, y, m, t, c⟩ = headB (if k = 6 then 5 else 4) c.toNat := by
        intro k hk hn
        unfold writeK
        simp only
        rw [if_neg (by omega), if_neg (by omega), if_neg (by omega), if_neg (by omega), if_neg (by omega), if_neg hn]
      by_cases hn : c < 0
      · rw [hwn k h56 hn]
        match s, h, hd, hcs, hkf, hrm with
        | [], h, _, _, _, _ =>
          rcases h56 with rfl | rfl
          · refine (wk_open0_5n h y m t c hc2 hn).mono ?_
            rintro q w' ⟨rfl, h1, h2⟩
            exact ⟨rfl, h1.up (by omega) hM, h2⟩
          · refine (wk_open0_6n h y m t c hc2 hn).mono ?_
            rintro q w' ⟨rfl, h1, h2⟩
            exact ⟨rfl, h1.up (by omega) hM, h2⟩
        | ⟨false, bc, bh⟩ :: r, h, hd, hcs, _, hrm =>
          have hbc := hcs _ List.mem_cons_self
          have hr := hrm _ r rfl
          simp only at hbc hr
          simp only [List.length_cons] at hd
          by_cases hb : bc < 0
          · rcases h56 with rfl | rfl
            · exact (wk_oan_5n h hM hd y m t c hc2 hn hb).mono (fun q w' h => h)
            · exact (wk_oan_6n h hM hd y m t c hc2 hn hb).mono (fun q w' h => h)
          · have hr := hr (by omega)
            rcases h56 with rfl | rfl
            · exact (wk_oac_5n h hM hd y m t c hc2 hn (by omega) hbc (by simpa using hr)).mono (fun q w' h => h)
            · exact (wk_oac_6n h hM hd y m t c hc2 hn (by omega) hbc (by simpa using hr)).mono (fun q w' h => h)
        | ⟨true, bc, bh⟩ :: r, h, hd, hcs, hkf, hrm =>
          have hbc := hcs _ List.mem_cons_self
          have hr := hrm _ r rfl
          have ho : bh % 2 = 1 := by simp [keyB] at hkf; omega
          simp only at hbc hr
          simp only [List.length_cons] at hd
          by_cases hb : bc < 0
          · rcases h56 with rfl | rfl
            · exact (wk_omn_5n h hM hd y m t c hc2 hn hb ho).mono (fun q w' h => h)
            · exact (wk_omn_6n h hM hd y m t c hc2 hn hb ho).mono (fun q w' h => h)
          · have hr := hr (by omega)
            rcases h56 with rfl | rfl
            · exact (wk_omc_5n h hM hd y m t c hc2 hn (by omega) hbc (by simpa using hr) ho).mono (fun q w' h => h)
            · exact (wk_omc_6n h hM hd y m t c hc2 hn (by omega) hbc (by simpa using hr) ho).mono (fun q w' h => h)
      · rw [hwc k h56 hn]
        have hp : 0 ≤ c := by omega
        have h4 := hHd hp 4
        have h5 := hHd hp 5
        rw [show ((4 : Int) % 8).toNat = 4 from rfl] at h4
        rw [show ((5 : Int) % 8).toNat = 5 from rfl] at h5
        match s, h, hd, hcs, hkf, hrm with
        | [], h, _, _, _, _ =>
          rcases h56 with rfl | rfl
          · refine (wk_open0_5c h y m t c hc2 hp _ (hXs 4 _) h4).mono ?_
            rintro q w' ⟨rfl, h1, h2⟩
            exact ⟨rfl, h1.up (by omega) hM, h2⟩
          · refine (wk_open0_6c h y m t c hc2 hp _ (hXs 5 _) h5).mono ?_
            rintro q w' ⟨rfl, h1, h2⟩
            exact ⟨rfl, h1.up (by omega) hM, h2⟩
        | ⟨false, bc, bh⟩ :: r, h, hd, hcs, _, hrm =>
          have hbc := hcs _ List.mem_cons_self
          have hr := hrm _ r rfl
          simp only at hbc hr
          simp only [List.length_cons] at hd
          by_cases hb : bc < 0
          · rcases h56 with rfl | rfl
            · exact (wk_oan_5c h hM hd y m t c hc2 hp _ (hXs 4 _) h4 hb).mono (fun q w' h => h)
            · exact (wk_oan_6c h hM hd y m t c hc2 hp _ (hXs 5 _) h5 hb).mono (fun q w' h => h)
          · have hr := hr (by omega)
            rcases h56 with rfl | rfl
            · exact (wk_oac_5c h hM hd y m t c hc2 hp _ (hXs 4 _) h4 (by omega) hbc (by simpa using hr)).mono (fun q w' h => h)
            · exact (wk_oac_6c h hM hd y m t c hc2 hp _ (hXs 5 _) h5 (by omega) hbc (by simpa using hr)).mono (fun q w' h => h)
        | ⟨true, bc, bh⟩ :: r, h, hd, hcs, hkf, hrm =>
          have hbc := hcs _ List.mem_cons_self
          have hr := hrm _ r rfl
          have ho : bh % 2 = 1 := by simp [keyB] at hkf; omega
          simp only at hbc hr
          simp only [List.length_cons] at hd
          by_cases hb : bc < 0
          · rcases h56 with rfl | rfl
            · exact (wk_omn_5c h hM hd y m t c hc2 hp _ (hXs 4 _) h4 hb ho).mono (fun q w' h => h)
            · exact (wk_omn_6c h hM hd y m t c hc2 hp _ (hXs 5 _) h5 hb ho).mono (fun q w' h => h)
          · have hr := hr (by omega)
            rcases h56 with rfl | rfl
            · exact (wk_omc_5c h hM hd y m t c hc2 hp _ (hXs 4 _) h4 (by omega) hbc (by simpa using hr) ho).mono (fun q w' h => h)
            · exact (wk_omc_6c h hM hd y m t c hc2 hp _ (hXs 5 _) h5 (by omega) hbc (by simpa using hr) ho).mono (fun q w' h => h)
    · have hk5 : e.k = 0 ∨ e.k = 1 ∨ e.k = 2 ∨ e.k = 3 ∨ e.k = 4 := by
        have := hm.1
        have := hm.2.1
        omega
      have hs' : s' = incB s := by
        refine hinj _ _ ?_
        rw [← hst]
        simp only [stepC]
        rw [if_neg (by simpa using hm), if_neg h7, if_neg hkey', if_neg h56]
        unfold ckS
        cases s <;> rfl
      subst hs'
      have hP := rplain_k hH e hg (by omega)
      have hX : (⟨(writeK [] e).toArray⟩ : ByteArray).size ≤ 100000 := by
        rw [size_of]
        exact Nat.le_trans hlen (by decide)
      generalize (⟨(writeK [] e).toArray⟩ : ByteArray) = X at hP hX ⊢
      match s, h, hcs, hkey', hrm with
      | [], h, _, _, _ =>
        refine (wk_val0 h e hk5 X hX hP).mono ?_
        rintro q w' ⟨rfl, h1, h2⟩
        exact ⟨rfl, h1.up (by omega) hM, h2⟩
      | ⟨false, bc, bh⟩ :: r, h, hcs, hkey', hrm =>
        have hbc := hcs _ List.mem_cons_self
        have hr := hrm _ r rfl
        simp only at hbc hr
        by_cases hb : bc < 0
        · exact (wk_v1 h hM e hk5 hkey' X hX hb hP).mono (fun q w' h => h)
        · exact (wk_v2 h hM e hk5 hkey' X hX (by omega) hbc (by simpa using hr (by omega)) hP).mono (fun q w' h => h)
      | ⟨true, bc, bh⟩ :: r, h, hcs, hkey', hrm =>
        have hbc := hcs _ List.mem_cons_self
        have hr := hrm _ r rfl
        simp only at hbc hr
        by_cases ho : bh % 2 = 1
        · by_cases hb : bc < 0
          · exact (wk_v3 h hM e hk5 hkey' X hX hb ho hP).mono (fun q w' h => h)
          · exact (wk_v4 h hM e hk5 hkey' X hX (by omega) hbc (by simpa using hr (by omega)) ho hP).mono (fun q w' h => h)
        · have he0 : bh % 2 = 0 := by omega
          have hk3 : e.k = 3 := by
            by_cases h3 : e.k = 3
            · exact h3
            · exact absurd ⟨by simp [keyB, he0], h3⟩ hkey'
          by_cases hb : bc < 0
          · exact (wk_v5 h hM e hk5 hkey' X hX hb he0 hk3 hP).mono (fun q w' h => h)
          · exact (wk_v6 h hM e hk5 hkey' X hX (by omega) hbc (by simpa using hr (by omega)) he0 hk3 hP).mono (fun q w' h => h)
end Go.Proofs.Ytgknpheefbfnlaa
/-
  The document's own Writer for CBOR in a loop over a document: what it has written behind j parts.
-/
namespace Go.Proofs.Ytgknpheefbfnlaa
open Go.RowKit
open Go.Lib
theorem ck_step {s : List Bx} {e : Ev} (hnb : ∀ f, stepC (.live s) e ≠ .bad f) : ∃ s', stepC (.live s) e = ckS s' := by
  simp only [stepC] at hnb ⊢
  by_cases hm : mayE e
  · rw [if_neg (by simpa using hm)] at hnb ⊢
    by_cases h7 : e.k = 7
    · rw [if_pos h7] at hnb ⊢
      cases s with
      | nil => exact absurd rfl (hnb 2)
      | cons b r =>
        simp only at hnb ⊢
        by_cases hs : shutB b
        · rw [if_pos hs] at hnb
          exact absurd rfl (hnb 2)
        · rw [if_neg hs]
          by_cases hr : r = []
          · exact ⟨[], by rw [if_pos hr]; rfl⟩
          · exact ⟨r, by rw [if_neg hr]; unfold ckS; rw [if_neg hr]⟩
    · rw [if_neg h7] at hnb ⊢
      by_cases hk : keyB s = true ∧ e.k ≠ 3
      · rw [if_pos hk] at hnb
        exact absurd rfl (hnb 8)
      · rw [if_neg hk] at hnb ⊢
        by_cases h5 : e.k = 5 ∨ e.k = 6
        · rw [if_pos h5] at hnb ⊢
          by_cases hd : 16 ≤ s.length
          · rw [if_pos hd] at hnb
            exact absurd rfl (hnb 4)
          · rw [if_neg hd]
            exact ⟨_ :: incB s, by unfold ckS; rw [if_neg (by simp)]⟩
        · rw [if_neg h5]
          by_cases hs : s = []
          · exact ⟨[], by rw [if_pos hs]; rfl⟩
          · refine ⟨incB s, ?_⟩
            rw [if_neg hs]
            unfold ckS
            cases s with
            | nil => exact absurd rfl hs
            | cons b r => rw [if_neg (by simp [incB])]
  · rw [if_pos hm] at hnb
    exact absurd rfl (hnb 2)
theorem inc_len2 (s : List Bx) : (incB s).length = s.length := by cases s <;> rfl
theorem len_step {s s' : List Bx} {e : Ev} (h : stepC (.live s) e = .live s') (hs : s.length ≤ 16) : s'.length ≤ 16 := by
  simp only [stepC] at h
  split at h
  · cases h
  split at h
  · cases s with
    | nil => cases h
    | cons x r =>
      simp only at h
      split at h
      · cases h
      · split at h
        · cases h
        · cases h
          simp only [List.length_cons] at hs
          omega
  split at h
  · cases h
  split at h
  · split at h
    · cases h
    · cases h
      rw [List.length_cons, inc_len2]
      omega
  · split at h
    · cases h
    · cases h
      rw [inc_len2]
      exact hs
theorem len_run : ∀ (l : List Ev) (s s' : List Bx), runC (.live s) l = .live s' → s.length ≤ 16 → s'.length ≤ 16
  | [], s, s', h, hs => by
    have : Ck.live s = Ck.live s' := h
    cases this
    exact hs
  | e :: l, s, s', h, hs => by
    rw [runC_cons] at h
    cases hx : stepC (.live s) e with
    | bad f => rw [hx, runC_bad] at h; cases h
    | done =>
      rw [hx] at h
      cases l with
      | nil => cases h
      | cons y l => rw [runC_cons] at h; simp only [stepC] at h; rw [runC_bad] at h; cases h
    | live s1 =>
      rw [hx] at h
      exact len_run l s1 s' h (len_step hx hs)
theorem wk_new (w : World) : WkAt 0 w.heap.size (w.alloc (.cells #[.int .i64 2, .slice none 0 0, .bool false] 35)) w.heap.size [] false :=
  ⟨⟨none, 0, at_block (heap_alloc_new w _), ⟨Win.nil_ _ _ _, fun k hk => by simp [Value.owner] at hk, fun b hb => by simp at hb, by simp, by omega⟩⟩, ⟨_, heap_alloc_new w _⟩, by show w.heap.size ≤ (w.heap.push _).size; simp⟩
/-- In the midst of writing. -/
structure KI (w3 wr : World) (L : List Ev) (j : Nat) (S : ByteArray) : Prop where
  wk : ∀ s, runC (.live []) (L.take j) = .live s → WkAt j w3.heap.size wr w3.heap.size s false
  st : S = ⟨(writeAllK [] (L.take j)).toArray⟩
  below : Below w3.heap.size w3 wr
  sz : S.size ≤ 209 * j
theorem ki_new (w3 : World) (L : List Ev) : KI w3 (w3.alloc (.cells #[.int .i64 2, .slice none 0 0, .bool false] 35)) L 0 ⟨#[]⟩ := by
  refine ⟨fun s hs => ?_, rfl, up_alloc (Below.refl _ _) _, Nat.le_refl _⟩
  have : Ck.live [] = Ck.live s := hs
  cases this
  exact wk_new w3
/-- A part more. -/
theorem ki_step (hH : HeadK) {w3 wr : World} {L : List Ev} {j : Nat} {S : ByteArray} (h : KI w3 wr L j S) (hj : j < L.length) (hM : L.length ≤ 900) (hd : runC (.live []) L = .done) (hg : ∀ e ∈ L, GoodK e) :
    Calls Try.prog 18 #[.pointer (some ⟨w3.heap.size, 0, none⟩), evV L[j]] wr fun q w' => ∃ X : ByteArray, q = .returned (.tuple #[.string X, .int .i64 0]) ∧ X.size ≤ 209 ∧ KI w3 w' L (j + 1) (S ++ X) := by
  obtain ⟨s, hs, hnb⟩ := live_at hd hj
  obtain ⟨s', hst⟩ := ck_step hnb
  have hge := hg _ (List.getElem_mem hj)
  have hc := cnt_run _ _ _ hs (by simp) (fun e he => hg e (List.mem_of_mem_take he))
  have hl := len_run _ _ _ hs (by simp)
  have hrm : L[j].k ≠ 7 → ∀ x r, s = x :: r → 0 ≤ x.c → (x.have_ : Int) < if x.map = true then 2 * x.c else x.c := by
    intro h7 x r hx h0
    have h1 : runC (runC (.live []) (L.take j)) (L.drop j) = .done := by rw [← runC_append, List.take_append_drop]; exact hd
    rw [List.drop_eq_getElem_cons hj, hs, hx] at h1
    exact room_of h1 h7 h0
  refine (wk_step hH (h.wk s hs) (by omega) (by omega) hc L[j] hge hst hrm).mono ?_
  rintro q w' ⟨rfl, hW, hB⟩
  have hxl : (⟨(writeK s L[j]).toArray⟩ : ByteArray).size ≤ 209 := by rw [size_of]; exact writeK_len hge s
  refine ⟨_, rfl, hxl, fun s1 h1 => ?_, ?_, h.below.trans (hB.below (Nat.le_refl _) (Nat.le_refl _)), ?_⟩
  · rw [runC_take hj, hs, hst] at h1
    unfold ckS at h1
    split at h1
    · cases h1
    · next hne =>
      cases h1
      rw [decide_eq_false hne] at hW
      exact hW
  · rw [writeK_take hj hs, h.st, cat_of]
  · have := h.sz
    rw [ByteArray.size_append]
    omega
/-- What one byte is not told to be: what all of it is. -/
theorem ki_all {w3 wr : World} {L : List Ev} {S : ByteArray} (h : KI w3 wr L L.length S) : S = ⟨(writeAllK [] L).toArray⟩ := by
  have := h.st
  rwa [List.take_length] at this
end Go.Proofs.Ytgknpheefbfnlaa
