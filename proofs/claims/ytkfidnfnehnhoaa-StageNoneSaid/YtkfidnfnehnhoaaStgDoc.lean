/-
  NO PROGRAM NEEDED: a document held back: what goes on at last is the same document, all its counts known.
-/
import Derived.Test.YtkfidnfnehnhoaaStgPure
import Derived.Test.YtkfidnfnehnhoaaDocR
namespace Go.Proofs.Ytkfidnfnehnhoaa
open Go.Lib
def toB (x : Cn) : Bx := ⟨x.m, x.c, x.n⟩
/-- n complete parts within a container of which h were there, at depth d. -/
def GoesN (m : Bool) (h n d : Nat) (S : List Ev) : Prop := ∀ (c : Int) (s : List Bx), s.length = d → runC (.live (⟨m, c, h⟩ :: s)) S = .live (⟨m, c, h + n⟩ :: s)
/-- May a container begin here? (The innermost one has counted it.) -/
def KeyOk : List Cn → Prop
  | [] => True
  | y :: _ => 1 ≤ y.n ∧ ¬ (y.m = true ∧ (y.n - 1) % 2 = 0)
/-- What is held, by the containers that are open: k: a part of the innermost one has begun, and not ended. -/
def Seg : Nat → List Cn → List Ev → Prop
  | _, [], H => H = []
  | k, x :: r, H => ∃ H0 e0 S, H = H0 ++ e0 :: S ∧ x.at_ = H0.length ∧ ((e0.k = 5 ∨ e0.k = 6) ∧ x.m = decide (e0.k = 6) ∧ e0.c = x.c ∧ mayE e0) ∧ Seg 1 r H0 ∧ k ≤ x.n ∧ GoesN x.m 0 (x.n - k) r.length S ∧ r.length < 16 ∧ KeyOk r
theorem goesN_nil (m : Bool) (h d : Nat) : GoesN m h 0 d [] := fun _ _ _ => rfl
theorem GoesN.snoc {m : Bool} {h n d : Nat} {S : List Ev} (g : GoesN m h n d S) {e : Ev} (he : ∀ (c : Int) (s : List Bx), s.length = d → stepC (.live (⟨m, c, h + n⟩ :: s)) e = .live (⟨m, c, h + n + 1⟩ :: s)) : GoesN m h (n + 1) d (S ++ [e]) := fun c s hs => by
  rw [runC_append, g c s hs]
  exact he c s hs
theorem stepC_val {m : Bool} {c : Int} {h : Nat} {s : List Bx} {e : Ev} (hm : mayE e) (h7 : e.k ≠ 7) (h56 : ¬ (e.k = 5 ∨ e.k = 6)) (hk : ¬ ((m = true ∧ h % 2 = 0) ∧ e.k ≠ 3)) : stepC (.live (⟨m, c, h⟩ :: s)) e = .live (⟨m, c, h + 1⟩ :: s) := by
  simp only [stepC]
  rw [if_neg (fun hh => hh hm), if_neg h7, if_neg (by simp only [keyB, Bool.and_eq_true, beq_iff_eq]; exact hk), if_neg h56, if_neg (by simp)]
  rfl
theorem stepC_beg {m : Bool} {c : Int} {h : Nat} {s : List Bx} {e : Ev} (hm : mayE e) (h56 : e.k = 5 ∨ e.k = 6) (hk : ¬ (m = true ∧ h % 2 = 0)) (hd : (⟨m, c, h⟩ :: s : List Bx).length < 16) : stepC (.live (⟨m, c, h⟩ :: s)) e = .live (⟨decide (e.k = 6), e.c, 0⟩ :: ⟨m, c, h + 1⟩ :: s) := by
  simp only [stepC]
  rw [if_neg (fun hh => hh hm), if_neg (by omega), if_neg (by simp only [keyB, Bool.and_eq_true, beq_iff_eq]; exact fun hh => hk hh.1), if_pos h56, if_neg (by omega)]
  rfl
theorem stepC_shut {b : Bx} {s : List Bx} {e : Ev} (hm : mayE e) (h7 : e.k = 7) (hb : ¬ shutB b) : stepC (.live (b :: s)) e = if s = [] then .done else .live s := by
  simp only [stepC]
  rw [if_neg (fun hh => hh hm), if_pos h7, if_neg hb]
/-- What the document's own run says of the part that comes now. -/
theorem live_cases {b : Bx} {s : List Bx} {e : Ev} {l : List Ev} (h : runC (.live (b :: s)) (e :: l) = .done) :
    mayE e ∧ ((e.k = 7 ∧ ¬ shutB b ∧ runC (if s = [] then .done else .live s) l = .done) ∨
      (e.k ≠ 7 ∧ (e.k = 5 ∨ e.k = 6) ∧ ¬ (b.map = true ∧ b.have_ % 2 = 0) ∧ (b :: s).length < 16 ∧ runC (.live (⟨decide (e.k = 6), e.c, 0⟩ :: ⟨b.map, b.c, b.have_ + 1⟩ :: s)) l = .done) ∨
      (e.k ≠ 7 ∧ ¬ (e.k = 5 ∨ e.k = 6) ∧ ¬ ((b.map = true ∧ b.have_ % 2 = 0) ∧ e.k ≠ 3) ∧ runC (.live (⟨b.map, b.c, b.have_ + 1⟩ :: s)) l = .done)) := by
  rw [runC_cons] at h
  have hb : ∀ f, stepC (.live (b :: s)) e ≠ .bad f := fun f hf => by
    rw [hf, runC_bad] at h
    cases h
  have hm := stepC_may hb
  refine ⟨hm, ?_⟩
  simp only [stepC] at h hb
  rw [if_neg (fun hh => hh hm)] at h hb
  by_cases h7 : e.k = 7
  · rw [if_pos h7] at h hb
    by_cases hs : shutB b
    · exact absurd (by rw [if_pos hs]) (hb 2)
    · rw [if_neg hs] at h
      exact .inl ⟨h7, hs, h⟩
  · rw [if_neg h7] at h hb
    by_cases hk : keyB (b :: s) = true ∧ e.k ≠ 3
    · exact absurd (by rw [if_pos hk]) (hb 8)
    · rw [if_neg hk] at h hb
      have hk' : ¬ ((b.map = true ∧ b.have_ % 2 = 0) ∧ e.k ≠ 3) := by
        simpa only [keyB, Bool.and_eq_true, beq_iff_eq] using hk
      by_cases h56 : e.k = 5 ∨ e.k = 6
      · rw [if_pos h56] at h hb
        by_cases hd : 16 ≤ (b :: s).length
        · exact absurd (by rw [if_pos hd]) (hb 4)
        · rw [if_neg hd] at h
          exact .inr (.inl ⟨h7, h56, fun hh => hk' ⟨hh, by omega⟩, by omega, h⟩)
      · rw [if_neg h56, if_neg (by simp)] at h
        exact .inr (.inr ⟨h7, h56, hk', h⟩)
/-- A part as it goes on at last. -/
def RelE (a e : Ev) : Prop := a = e ∨ ((e.k = 5 ∨ e.k = 6) ∧ e.c = -1 ∧ 0 ≤ a.c ∧ a = ⟨e.k, false, 0, ⟨#[]⟩, a.c⟩)
/-- j parts of a document are held. -/
structure DocK (l : List Ev) (j : Nat) (H : List Ev) (op : List Cn) : Prop where
  run : runC (.live (op.map toB)) (l.drop j) = .done
  ne : op ≠ []
  seg : Seg 0 op H
  len : H.length = j
  pw : ∀ i (hi : i < H.length) (hj : i < l.length), RelE H[i] l[i]
  opn : ∀ i (hi : i < H.length), (H[i].k = 5 ∨ H[i].k = 6) → H[i].c = -1 → ∃ x ∈ op, x.at_ = i
theorem shut_cnt {x : Cn} (h : ¬ shutB (toB x)) (hm1 : -1 ≤ x.c) : ¬ shutB ⟨x.m, (cntE x).c, x.n⟩ ∧ mayE (cntE x) ∧ ((cntE x).k = 5 ∨ (cntE x).k = 6) ∧ x.m = decide ((cntE x).k = 6) ∧ (x.c = -1 → 0 ≤ (cntE x).c) ∧ (x.c ≠ -1 → (cntE x).c = x.c) := by
  obtain ⟨m, c, a, n⟩ := x
  simp only [toB, shutB, cntE, mayE] at *
  have hm2 : -1 ≤ c := hm1
  cases m
  · simp only [if_false, Bool.false_eq_true, false_and, or_false] at h ⊢
    by_cases hc : c = -1
    · subst hc
      first | (simp; done) | (simp; omega)
    · simp only [ne_eq, hc, not_false_eq_true, if_true]
      refine ⟨h, ?_, ?_, ?_, ?_, ?_⟩ <;> simp <;> omega
  · simp only [if_true, true_and] at h ⊢
    by_cases hc : c = -1
    · subst hc
      first | (simp; done) | (simp; omega)
    · simp only [ne_eq, hc, not_false_eq_true, if_true]
      refine ⟨h, ?_, ?_, ?_, ?_, ?_⟩ <;> simp <;> omega
theorem relE_may {a e : Ev} (h : RelE a e) : a.k = e.k := by
  rcases h with rfl | ⟨_, _, _, h⟩
  · rfl
  · rw [h]
/-- The first part. -/
theorem docK_first {l : List Ev} {e : Ev} {r : List Ev} (hl : l = e :: r) (hr : runC (.live []) l = .done) (ho : opnE e) : DocK l 1 [e] [⟨decide (e.k = 6), e.c, 0, 0⟩] := by
  subst hl
  have h56 := ho.1
  rw [runC_cons] at hr
  have hb : ∀ f, stepC (.live []) e ≠ .bad f := fun f hf => by
    rw [hf, runC_bad] at hr
    cases hr
  have hm := stepC_may hb
  have hs : stepC (.live []) e = .live [⟨decide (e.k = 6), e.c, 0⟩] := by
    simp only [stepC]
    rw [if_neg (fun hh => hh hm), if_neg (by omega), if_neg (by simp [keyB]), if_pos h56, if_neg (by simp)]
    rfl
  rw [hs] at hr
  refine ⟨hr, by simp, ⟨[], e, [], rfl, rfl, ⟨h56, rfl, rfl, hm⟩, rfl, Nat.zero_le _, goesN_nil _ _ _, by simp, trivial⟩, rfl, fun i hi hj => ?_, fun i hi _ _ => ⟨⟨decide (e.k = 6), e.c, 0, 0⟩, List.mem_singleton.2 rfl, ?_⟩⟩
  · have : i = 0 := by simp at hi; omega
    subst this
    exact .inl rfl
  · simp at hi ⊢
    omega
/-- One part more goes into the innermost container. -/
theorem seg_val {x : Cn} {r : List Cn} {H : List Ev} (h : Seg 0 (x :: r) H) {e : Ev} (hm : mayE e) (h7 : e.k ≠ 7) (h56 : ¬ (e.k = 5 ∨ e.k = 6)) (hk : ¬ ((x.m = true ∧ x.n % 2 = 0) ∧ e.k ≠ 3)) : Seg 0 (⟨x.m, x.c, x.at_, x.n + 1⟩ :: r) (H ++ [e]) := by
  obtain ⟨H0, e0, S, rfl, ha, he0, hr, h0, hg, hd, hko⟩ := h
  refine ⟨H0, e0, S ++ [e], by simp, ha, he0, hr, Nat.zero_le _, ?_, hd, hko⟩
  exact GoesN.snoc hg fun c s hs => stepC_val hm h7 h56 (by simpa using hk)
theorem seg_beg {x : Cn} {r : List Cn} {H : List Ev} (h : Seg 0 (x :: r) H) {e : Ev} (hm : mayE e) (h56 : e.k = 5 ∨ e.k = 6) (hk : ¬ (x.m = true ∧ x.n % 2 = 0)) (hd16 : (x :: r).length < 16) : Seg 0 (⟨decide (e.k = 6), e.c, H.length, 0⟩ :: ⟨x.m, x.c, x.at_, x.n + 1⟩ :: r) (H ++ [e]) := by
  refine ⟨H, e, [], rfl, rfl, ⟨h56, rfl, rfl, hm⟩, ?_, Nat.zero_le _, goesN_nil _ _ _, hd16, ⟨by simp, by simpa using hk⟩⟩
  obtain ⟨H0, e0, S, rfl, ha, he0, hr, h0, hg, hd, hko⟩ := h
  exact ⟨H0, e0, S, rfl, ha, he0, hr, by simp, by simpa using hg, hd, hko⟩
/-- The innermost one ends, within another one. -/
theorem seg_end {x y : Cn} {r : List Cn} {H : List Ev} (h : Seg 0 (x :: y :: r) H) {e : Ev} (hm : mayE e) (h7 : e.k = 7) (hb : ¬ shutB (toB x)) : Seg 0 (y :: r) (H.set x.at_ (cntE x) ++ [e]) := by
  obtain ⟨H0, e0, S, rfl, ha, he0, hr, h0, hg, hd, hko⟩ := h
  obtain ⟨H1, e1, S1, rfl, ha1, he1, hr1, h1, hg1, hd1, hko1⟩ := hr
  obtain ⟨hc1, hc2, hc3, hc4, hc5, hc6⟩ := shut_cnt hb (by have := he0.2.2.2.2.2 he0.1; have := he0.2.2.1; omega)
  refine ⟨H1, e1, S1 ++ cntE x :: (S ++ [e]), ?_, ha1, he1, hr1, Nat.zero_le _, ?_, hd1, hko1⟩
  · rw [ha, List.set_append_right _ _ (Nat.le_refl _)]
    simp
  · intro c s hs
    have hs' : (⟨y.m, c, y.n⟩ :: s : List Bx).length = (y :: r).length := by simp [hs]
    rw [runC_append, hg1 c s hs, runC_cons]
    have e1' : stepC (.live (⟨y.m, c, 0 + (y.n - 1)⟩ :: s)) (cntE x) = .live (⟨x.m, (cntE x).c, 0⟩ :: ⟨y.m, c, y.n⟩ :: s) := by
      have := stepC_beg (m := y.m) (c := c) (h := 0 + (y.n - 1)) (s := s) hc2 hc3 (by rw [Nat.zero_add]; exact hko.2) (by simp [hs]; simp at hd; omega)
      rw [this, hc4.symm, show 0 + (y.n - 1) + 1 = y.n by have := hko.1; omega]
    rw [e1', runC_append, hg _ _ hs', show ∀ st, runC st [e] = stepC st e from fun _ => rfl, stepC_shut hm h7 (by simpa using hc1), if_neg (by simp)]
    simp
/-- The last one ends: all is a document, its counts known. -/
theorem seg_last {x : Cn} {H : List Ev} (h : Seg 0 [x] H) {e : Ev} (hm : mayE e) (h7 : e.k = 7) (hb : ¬ shutB (toB x)) : runC (.live []) (H.set x.at_ (cntE x) ++ [e]) = .done := by
  obtain ⟨H0, e0, S, rfl, ha, he0, hr, h0, hg, hd, hko⟩ := h
  obtain rfl : H0 = [] := hr
  obtain ⟨hc1, hc2, hc3, hc4, hc5, hc6⟩ := shut_cnt hb (by have := he0.2.2.2.2.2 he0.1; have := he0.2.2.1; omega)
  rw [ha]
  simp only [List.nil_append, List.length_nil, List.set_cons_zero, List.cons_append]
  rw [runC_cons]
  have e1' : stepC (.live []) (cntE x) = .live [⟨x.m, (cntE x).c, 0⟩] := by
    simp only [stepC]
    rw [if_neg (fun hh => hh hc2), if_neg (by omega), if_neg (by simp [keyB]), if_pos hc3, if_neg (by simp), hc4.symm]
    rfl
  rw [e1', runC_append, hg _ _ rfl, show ∀ st, runC st [e] = stepC st e from fun _ => rfl, stepC_shut hm h7 (by simpa using hc1), if_pos rfl]
/-- All has gone on at last. -/
structure FinK (l L : List Ev) : Prop where
  len : L.length = l.length
  run : runC (.live []) L = .done
  pw : ∀ i (hi : i < L.length) (hj : i < l.length), RelE L[i] l[i]
  cnt : ∀ i (hi : i < L.length), (L[i].k = 5 ∨ L[i].k = 6) → L[i].c ≠ -1
theorem seg_at {x : Cn} {r : List Cn} {H : List Ev} (h : Seg 0 (x :: r) H) : ∃ hi : x.at_ < H.length, (H[x.at_].k = 5 ∨ H[x.at_].k = 6) ∧ x.m = decide (H[x.at_].k = 6) ∧ H[x.at_].c = x.c ∧ mayE H[x.at_] := by
  obtain ⟨H0, e0, S, rfl, ha, he0, _⟩ := h
  have e1 : (H0 ++ e0 :: S)[H0.length]'(by simp) = e0 := by simp
  refine ⟨by rw [ha]; simp, ?_⟩
  simp only [ha]
  rw [e1]
  exact he0
theorem tidy_beg {e : Ev} (ht : tidyE e = e) (h : e.k = 5 ∨ e.k = 6) : e = ⟨e.k, false, 0, ⟨#[]⟩, e.c⟩ := by
  obtain ⟨k, y, m, t, c⟩ := e
  simp only [tidyE] at *
  rcases h with rfl | rfl <;> simp at ht ⊢ <;> (obtain ⟨h1, h2, h3⟩ := ht; exact ⟨by simp [h1], by simp [← h2], by simp [← h3]⟩)
theorem rel_cnt {x : Cn} {a e : Ev} (h : RelE a e) (ht : tidyE e = e) (hk : a.k = 5 ∨ a.k = 6) (hm : x.m = decide (a.k = 6)) (hc : a.c = x.c) (hs : (x.c = -1 → 0 ≤ (cntE x).c) ∧ (x.c ≠ -1 → (cntE x).c = x.c)) : RelE (cntE x) e := by
  have hka := relE_may h
  have hform : cntE x = ⟨e.k, false, 0, ⟨#[]⟩, (cntE x).c⟩ := by
    have : (cntE x).k = e.k := by
      show (if x.m = true then (6 : Int) else 5) = e.k
      rw [← hka]
      rcases hk with h5 | h6
      · rw [h5] at hm ⊢
        simp at hm
        simp [hm]
      · rw [h6] at hm ⊢
        simp at hm
        simp [hm]
    have h2 : cntE x = ⟨(cntE x).k, false, 0, ⟨#[]⟩, (cntE x).c⟩ := rfl
    rw [this] at h2
    exact h2
  have hke : e.k = 5 ∨ e.k = 6 := by rw [← hka]; exact hk
  rcases h with rfl | ⟨_, h2, h3, h4⟩
  · by_cases hx : x.c = -1
    · exact .inr ⟨hke, by omega, hs.1 hx, hform⟩
    · left
      rw [hform, hs.2 hx, ← hc]
      exact (tidy_beg ht hke).symm
  · exact .inr ⟨hke, h2, by rw [hs.2 (by omega)]; omega, hform⟩
/-- The innermost one's begin with its count: all else as it was. -/
theorem set_pw {l H : List Ev} {x : Cn} {r : List Cn} (hseg : Seg 0 (x :: r) H) (ht : ∀ e ∈ l, tidyE e = e) (hpw : ∀ i (hi : i < H.length) (hj : i < l.length), RelE H[i] l[i]) (hsh : ¬ shutB (toB x)) :
    ∀ i (hi : i < (H.set x.at_ (cntE x)).length) (hj : i < l.length), RelE (H.set x.at_ (cntE x))[i] l[i] := by
  obtain ⟨hat, hk, hm, hc, hme⟩ := seg_at hseg
  have hx1 : -1 ≤ x.c := by have := hme.2.2 hk; omega
  obtain ⟨_, _, _, _, h5, h6⟩ := shut_cnt hsh hx1
  intro i hi hj
  rw [List.getElem_set]
  split
  · rename_i hia
    subst hia
    exact rel_cnt (hpw _ hat hj) (ht _ (List.getElem_mem hj)) hk hm hc ⟨h5, h6⟩
  · exact hpw i (by simpa using hi) hj
theorem set_opn {H : List Ev} {x : Cn} {r : List Cn} (hseg : Seg 0 (x :: r) H) (ho : ∀ i (hi : i < H.length), (H[i].k = 5 ∨ H[i].k = 6) → H[i].c = -1 → ∃ y ∈ x :: r, y.at_ = i) (hsh : ¬ shutB (toB x)) :
    ∀ i (hi : i < (H.set x.at_ (cntE x)).length), ((H.set x.at_ (cntE x))[i].k = 5 ∨ (H.set x.at_ (cntE x))[i].k = 6) → (H.set x.at_ (cntE x))[i].c = -1 → ∃ y ∈ r, y.at_ = i := by
  obtain ⟨hat, hk, hm, hc, hme⟩ := seg_at hseg
  have hx1 : -1 ≤ x.c := by have := hme.2.2 hk; omega
  obtain ⟨_, _, _, _, h5, h6⟩ := shut_cnt hsh hx1
  intro i hi
  rw [List.getElem_set]
  split
  · intro _ h
    by_cases hx : x.c = -1
    · have := h5 hx; omega
    · have := h6 hx; omega
  · rename_i hia
    intro h1 h2
    obtain ⟨y, hy, hyi⟩ := ho i (by simpa using hi) h1 h2
    rcases List.mem_cons.1 hy with rfl | hy
    · exact absurd hyi hia
    · exact ⟨y, hy, hyi⟩
theorem app_pw {l H : List Ev} {j : Nat} (hl : H.length = j) (hj : j < l.length) (h : ∀ i (hi : i < H.length) (hj : i < l.length), RelE H[i] l[i]) : ∀ i (hi : i < (H ++ [l[j]]).length) (hj : i < l.length), RelE (H ++ [l[j]])[i] l[i] := by
  intro i hi hi2
  by_cases h1 : i < H.length
  · rw [List.getElem_append_left h1]
    exact h i h1 hi2
  · have : i = j := by simp at hi; omega
    subst this
    rw [List.getElem_append_right (by omega)]
    exact .inl (by simp [hl])
theorem docK_step {l H : List Ev} {j : Nat} {op : List Cn} (h : DocK l j H op) (ht : ∀ e ∈ l, tidyE e = e) (hj : j < l.length) :
    (l[j].k = 7 ∧ op.length = 1 ∧ l.length = j + 1 ∧ FinK l (endH H op ++ [l[j]])) ∨ (¬ (l[j].k = 7 ∧ op.length = 1) ∧ j + 1 < l.length ∧ DocK l (j + 1) (heldN l[j] H op) (openN l[j] H.length op)) := by
  obtain ⟨hrun, hne, hseg, hlen, hpw, hopn⟩ := h
  have hdr : l.drop j = l[j] :: l.drop (j + 1) := List.drop_eq_getElem_cons hj
  rw [hdr] at hrun
  have hap := @app_pw l
  cases op with
  | nil => exact absurd rfl hne
  | cons x r =>
    rw [List.map_cons] at hrun
    have hmore : ∀ (s : List Bx), runC (.live s) (l.drop (j + 1)) = .done → j + 1 < l.length := fun s hs => by
      apply Classical.byContradiction
      intro hn
      rw [List.drop_of_length_le (by omega)] at hs
      cases hs
    obtain ⟨hm, ⟨h7, hsh, hr⟩ | ⟨h7, h56, hk, hd, hr⟩ | ⟨h7, h56, hk, hr⟩⟩ := live_cases hrun
    · have hpw' := set_pw hseg ht hpw hsh
      have hop' := set_opn hseg hopn hsh
      have hl' : (H.set x.at_ (cntE x)).length = j := by simp [hlen]
      cases r with
      | nil =>
        left
        rw [if_pos (by rfl)] at hr
        have hnil := run_ended hr
        have hll : l.length = j + 1 := by
          have := congrArg List.length hnil
          simp at this
          omega
        refine ⟨h7, rfl, hll, ⟨by simp [endH, hlen, hll], seg_last hseg hm h7 hsh, hap hl' hj hpw', fun i hi hk hc => ?_⟩⟩
        simp only [endH] at hi hk hc
        by_cases h1 : i < (H.set x.at_ (cntE x)).length
        · rw [List.getElem_append_left h1] at hk hc
          obtain ⟨y, hy, _⟩ := hop' i h1 hk hc
          simp at hy
        · rw [List.getElem_append_right (by omega)] at hk
          simp at hk
          omega
      | cons y r =>
        right
        rw [if_neg (by simp)] at hr
        refine ⟨fun hh => by simp at hh, hmore _ hr, ?_⟩
        unfold heldN openN
        rw [if_pos h7, if_pos h7]
        refine ⟨hr, by simp, seg_end hseg hm h7 hsh, by simp [endH, hlen], hap hl' hj hpw', fun i hi hk hc => ?_⟩
        simp only [endH] at hi hk hc
        by_cases h1 : i < (H.set x.at_ (cntE x)).length
        · rw [List.getElem_append_left h1] at hk hc
          exact hop' i h1 hk hc
        · rw [List.getElem_append_right (by omega)] at hk
          simp at hk
          omega
    · right
      refine ⟨fun hh => h7 hh.1, hmore _ hr, ?_⟩
      unfold heldN openN
      rw [if_neg h7, if_neg h7, if_pos h56]
      refine ⟨hr, by simp, seg_beg hseg hm h56 hk (by simpa using hd), by simp [hlen], hap hlen hj hpw, fun i hi hk2 hc => ?_⟩
      by_cases h1 : i < H.length
      · rw [List.getElem_append_left h1] at hk2 hc
        obtain ⟨y, hy, hyi⟩ := hopn i h1 hk2 hc
        rcases List.mem_cons.1 hy with rfl | hy
        · exact ⟨⟨y.m, y.c, y.at_, y.n + 1⟩, by simp [incN], hyi⟩
        · exact ⟨y, by simp [incN, hy], hyi⟩
      · exact ⟨⟨decide (l[j].k = 6), l[j].c, H.length, 0⟩, by simp, by simp at hi ⊢; omega⟩
    · right
      refine ⟨fun hh => h7 hh.1, hmore _ hr, ?_⟩
      unfold heldN openN
      rw [if_neg h7, if_neg h7, if_neg h56]
      refine ⟨hr, by simp [incN], seg_val hseg hm h7 h56 hk, by simp [hlen], hap hlen hj hpw, fun i hi hk2 hc => ?_⟩
      by_cases h1 : i < H.length
      · rw [List.getElem_append_left h1] at hk2 hc
        obtain ⟨y, hy, hyi⟩ := hopn i h1 hk2 hc
        rcases List.mem_cons.1 hy with rfl | hy
        · exact ⟨⟨y.m, y.c, y.at_, y.n + 1⟩, by simp [incN], hyi⟩
        · exact ⟨y, by simp [incN, hy], hyi⟩
      · rw [List.getElem_append_right (by omega)] at hk2
        simp at hk2
        exact absurd hk2 h56
/-- How much the first j parts are. -/
def szT (l : List Ev) (j : Nat) : Nat := ((l.take j).map sizG).sum
theorem szT_succ {l : List Ev} {j : Nat} (h : j < l.length) : szT l (j + 1) = szT l j + sizG l[j] := by
  unfold szT
  rw [List.take_add_one, List.getElem?_eq_getElem h]
  simp only [List.map_append, List.sum_append, Option.toList, List.map_cons, List.map_nil, List.sum_cons, List.sum_nil, Nat.add_zero]
theorem szT_zero (l : List Ev) : szT l 0 = 0 := rfl
theorem szT_mono (l : List Ev) {i j : Nat} (h : i ≤ j) (hj : j ≤ l.length) : szT l i ≤ szT l j := by
  induction j with
  | zero =>
    obtain rfl : i = 0 := by omega
    exact Nat.le_refl _
  | succ j ih =>
    by_cases hi : i = j + 1
    · subst hi; exact Nat.le_refl _
    · have := ih (by omega) (by omega)
      rw [szT_succ (by omega)]
      omega
/-- A Stage with a document before it: nothing came; some parts are held. -/
def LimK (l : List Ev) (j : Nat) (s : Gs) : Prop := (j = 0 ∧ s = gs0) ∨ (1 ≤ j ∧ ∃ H op, s = .live (szT l j) H op ∧ DocK l j H op)
theorem limK_step {lim : Nat} {l : List Ev} {j : Nat} {s : Gs} (h : LimK l j s) (hr : runC (.live []) l = .done) (ht : ∀ e ∈ l, tidyE e = e) (h0 : ∀ (hl : 0 < l.length), opnE l[0]) (hj : j < l.length) :
    (j + 1 < l.length ∧ lim < szT l (j + 1) ∧ stepG lim s l[j] = ⟨.bad, [], 10⟩) ∨ (j + 1 < l.length ∧ szT l (j + 1) ≤ lim ∧ ∃ s', stepG lim s l[j] = ⟨s', [], 0⟩ ∧ LimK l (j + 1) s') ∨
      (j + 1 = l.length ∧ 1 ≤ j ∧ ∃ L H op, s = .live (szT l j) H op ∧ stepG lim s l[j] = ⟨gs0, L, 0⟩ ∧ FinK l L) := by
  have hsz := szT_succ hj
  rcases h with ⟨rfl, rfl⟩ | ⟨h1, H, op, rfl, hK⟩
  · have ho := h0 hj
    obtain ⟨e, r, hl⟩ : ∃ e r, l = e :: r := by
      cases l with
      | nil => simp at hj
      | cons e r => exact ⟨e, r, rfl⟩
    have hK := docK_first hl hr (by subst hl; exact ho)
    have he : l[0] = e := by subst hl; rfl
    have h1l : 1 < l.length := by
      have h2 := hK.run
      apply Classical.byContradiction
      intro hn
      rw [List.drop_of_length_le (by omega)] at h2
      cases h2
    rw [szT_zero, Nat.zero_add, Nat.zero_add] at hsz
    rw [he] at ho hsz ⊢
    have h7 : ¬ (e.k = 7 ∧ ([] : List Cn).length = 1) := by simp
    simp only [stepG, gs0]
    rw [if_neg (by simp [ho]), if_neg h7]
    by_cases hlim : lim < 0 + sizG e
    · left
      rw [if_pos hlim]
      exact ⟨h1l, by rw [Nat.zero_add, hsz]; omega, rfl⟩
    · right; left
      rw [if_neg hlim]
      refine ⟨h1l, by rw [Nat.zero_add, hsz]; omega, _, rfl, .inr ⟨Nat.le_refl _, _, _, ?_, hK⟩⟩
      have hh : heldN e [] [] = [e] := by unfold heldN; rw [if_neg (by have := ho.1; omega)]; rfl
      have hp : openN e ([] : List Ev).length [] = [⟨decide (e.k = 6), e.c, 0, 0⟩] := by unfold openN; rw [if_neg (by have := ho.1; omega), if_pos ho.1]; rfl
      rw [hh, hp, Nat.zero_add, hsz]
  · have hne : op ≠ [] := hK.ne
    rcases docK_step hK ht hj with ⟨h7, ho1, hl, hF⟩ | ⟨h7, hl, hK'⟩
    · right; right
      refine ⟨hl.symm, h1, _, H, op, rfl, ?_, hF⟩
      simp only [stepG]
      rw [if_neg (fun hh => hne hh.1), if_pos ⟨h7, ho1⟩]
    · simp only [stepG]
      rw [if_neg (fun hh => hne hh.1), if_neg h7]
      by_cases hlim : lim < szT l j + sizG l[j]
      · left
        rw [if_pos hlim]
        exact ⟨hl, by omega, rfl⟩
      · right; left
        rw [if_neg hlim]
        exact ⟨hl, by omega, _, rfl, .inr ⟨by omega, _, _, by rw [hsz], hK'⟩⟩
theorem doc_in {D : Nat} {B : Bx} (hD : D ≤ 15) : ∀ (l : List Ev) (s : List Bx), s ≠ [] → DeepW D s l → runC (.live s) l = .done → runC (.live (s ++ [B])) l = .live [B]
  | [], s, _, _, h => by cases h
  | e :: l, [], hs, _, _ => absurd rfl hs
  | e :: l, b :: r, _, hd, h => by
    obtain ⟨hm, ⟨h7, hsh, hr⟩ | ⟨h7, h56, hk, _, hr⟩ | ⟨h7, h56, hk, hr⟩⟩ := live_cases h
    · rw [runC_cons, List.cons_append, stepC_shut hm h7 hsh, if_neg (by simp)]
      by_cases hr0 : r = []
      · subst hr0
        rw [if_pos rfl] at hr
        rw [run_ended hr]
        rfl
      · rw [if_neg hr0] at hr
        have hd2 := hd.2
        rw [stepC_shut hm h7 hsh, if_neg hr0] at hd2
        exact doc_in hD l r hr0 hd2 hr
    · have hlt := hd.1 h56
      have hd2 := hd.2
      have e1 := stepC_beg (m := b.map) (c := b.c) (h := b.have_) (s := r) hm h56 hk (by simp at hlt ⊢; omega)
      have e2 := stepC_beg (m := b.map) (c := b.c) (h := b.have_) (s := r ++ [B]) hm h56 hk (by simp at hlt ⊢; omega)
      have hb : (⟨b.map, b.c, b.have_⟩ : Bx) = b := rfl
      rw [hb] at e1 e2
      rw [e1] at hd2
      rw [runC_cons, List.cons_append, e2]
      exact doc_in hD l (⟨decide (e.k = 6), e.c, 0⟩ :: ⟨b.map, b.c, b.have_ + 1⟩ :: r) (by simp) hd2 hr
    · have hd2 := hd.2
      have e1 := stepC_val (m := b.map) (c := b.c) (h := b.have_) (s := r) hm h7 h56 hk
      have e2 := stepC_val (m := b.map) (c := b.c) (h := b.have_) (s := r ++ [B]) hm h7 h56 hk
      have hb : (⟨b.map, b.c, b.have_⟩ : Bx) = b := rfl
      rw [hb] at e1 e2
      rw [e1] at hd2
      rw [runC_cons, List.cons_append, e2]
      exact doc_in hD l (⟨b.map, b.c, b.have_ + 1⟩ :: r) (by simp) hd2 hr
/-- A document is one part of a list. -/
theorem doc_part {D : Nat} (hD : D ≤ 15) {I : List Ev} (hr : runC (.live []) I = .done) (hd : DeepW D [] I) (c : Int) (k : Nat) : runC (.live [⟨false, c, k⟩]) I = .live [⟨false, c, k + 1⟩] := by
  cases I with
  | nil => cases hr
  | cons e l =>
    rw [runC_cons] at hr
    have hb : ∀ f, stepC (.live []) e ≠ .bad f := fun f hf => by
      rw [hf, runC_bad] at hr
      cases hr
    have hm := stepC_may hb
    by_cases h7 : e.k = 7
    · exact absurd (by simp only [stepC]; rw [if_neg (fun hh => hh hm), if_pos h7]) (hb 2)
    · by_cases h56 : e.k = 5 ∨ e.k = 6
      · have e0 : stepC (.live []) e = .live [⟨decide (e.k = 6), e.c, 0⟩] := by
          simp only [stepC]
          rw [if_neg (fun hh => hh hm), if_neg h7, if_neg (by simp [keyB]), if_pos h56, if_neg (by simp)]
          rfl
        have hd2 := hd.2
        rw [e0] at hd2 hr
        rw [runC_cons, stepC_beg hm h56 (by simp) (by simp)]
        exact doc_in hD l [⟨decide (e.k = 6), e.c, 0⟩] (by simp) hd2 hr
      · have e0 : stepC (.live []) e = .done := by
          simp only [stepC]
          rw [if_neg (fun hh => hh hm), if_neg h7, if_neg (by simp [keyB]), if_neg h56, if_pos trivial]
        rw [e0] at hr
        rw [run_ended hr, runC_cons, stepC_val hm h7 h56 (by simp)]
        rfl
def rep (I : List Ev) : Nat → List Ev
  | 0 => []
  | k + 1 => rep I k ++ I
theorem rep_length (I : List Ev) : ∀ k, (rep I k).length = k * I.length
  | 0 => by simp [rep]
  | k + 1 => by rw [rep, List.length_append, rep_length I k, Nat.add_mul, Nat.one_mul]
theorem rep_mem {I : List Ev} : ∀ {k e}, e ∈ rep I k → e ∈ I
  | 0, e, h => by simp [rep] at h
  | k + 1, e, h => by
    rcases List.mem_append.1 h with h | h
    · exact rep_mem h
    · exact h
theorem rep_run {D : Nat} (hD : D ≤ 15) {I : List Ev} (hr : runC (.live []) I = .done) (hd : DeepW D [] I) (c : Int) : ∀ k, runC (.live [⟨false, c, 0⟩]) (rep I k) = .live [⟨false, c, k⟩]
  | 0 => rfl
  | k + 1 => by rw [rep, runC_append, rep_run hD hr hd c k, doc_part hD hr hd]
def arrE (c : Int) : Ev := ⟨5, false, 0, ⟨#[]⟩, c⟩
def endE7 : Ev := ⟨7, false, 0, ⟨#[]⟩, 0⟩
def mixL (I : List Ev) (n : Nat) (c : Int) : List Ev := arrE c :: (rep I n ++ [endE7])
theorem mix_run {D : Nat} (hD : D ≤ 15) {I : List Ev} (hr : runC (.live []) I = .done) (hd : DeepW D [] I) (n : Nat) : runC (.live []) (mixL I n (-1)) = .done := by
  unfold mixL
  have e0 : stepC (.live []) (arrE (-1)) = .live [⟨false, -1, 0⟩] := by decide +kernel
  rw [runC_cons, e0, runC_append, rep_run hD hr hd, show ∀ st, runC st [endE7] = stepC st endE7 from fun _ => rfl, stepC_shut (by decide) rfl (by simp [shutB]), if_pos rfl]
theorem mix_fin {D : Nat} (hD : D ≤ 15) {I : List Ev} (hr : runC (.live []) I = .done) (hd : DeepW D [] I) (hc : ∀ e ∈ I, 0 ≤ e.c) {n : Nat} {L : List Ev} (h : FinK (mixL I n (-1)) L) : L = mixL I n n := by
  obtain ⟨hl, hrun, hpw, hcnt⟩ := h
  have hlen : (mixL I n (-1)).length = (mixL I n n).length := by simp [mixL]
  cases L with
  | nil => simp [mixL] at hl
  | cons a r =>
    have h0 := hpw 0 (by simp) (by simp [mixL])
    have hc0 := hcnt 0 (by simp)
    simp only [mixL, List.getElem_cons_zero] at h0 hc0
    have ha : 0 ≤ a.c ∧ a = arrE a.c := by
      rcases h0 with rfl | ⟨_, _, h1, h2⟩
      · exact absurd rfl (hc0 (.inl rfl))
      · exact ⟨h1, h2⟩
    have hr' : r = rep I n ++ [endE7] := by
      apply List.ext_getElem
      · simp [mixL] at hl; simpa using hl
      · intro i h1 h2
        have hp := hpw (i + 1) (by simpa using h1) (by simpa [mixL] using h2)
        simp only [mixL, List.getElem_cons_succ] at hp
        rcases hp with h3 | ⟨hk, h3, _⟩
        · exact h3
        · have hmem : (rep I n ++ [endE7])[i] ∈ rep I n ++ [endE7] := List.getElem_mem h2
          rcases List.mem_append.1 hmem with h4 | h4
          · have := hc _ (rep_mem h4); omega
          · rw [List.mem_singleton.1 h4] at h3
            simp [endE7] at h3
    obtain ⟨ha0, ha1⟩ := ha
    generalize a.c = c at ha0 ha1
    subst ha1 hr'
    have hm : mayE (arrE c) := ⟨by show (0 : Int) ≤ 5; omega, by show (5 : Int) ≤ 7; omega, fun _ => by show -1 ≤ c; omega⟩
    have e0 : stepC (.live []) (arrE c) = .live [⟨false, c, 0⟩] := by
      simp only [stepC]
      rw [if_neg (fun hh => hh hm), if_neg (by simp [arrE]), if_neg (by simp [keyB]), if_pos (by simp [arrE]), if_neg (by simp)]
      rfl
    rw [runC_cons, e0, runC_append, rep_run hD hr hd, show ∀ st, runC st [endE7] = stepC st endE7 from fun _ => rfl] at hrun
    have hns : ¬ shutB ⟨false, c, n⟩ := fun hs => by
      simp only [stepC] at hrun
      rw [if_neg (by decide), if_pos (by decide), if_pos hs] at hrun
      cases hrun
    have : (n : Int) = c := by
      simp [shutB] at hns
      omega
    subst this
    rfl
end Go.Proofs.Ytkfidnfnehnhoaa
