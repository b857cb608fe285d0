/-
  Parts: PinPm, PinWf.
-/
import Derived.Test.YtkgconbdmnmbnaaGreatG0k
import Derived.Test.YtkgconbdmnmbnaaGreatHPinPb
set_option maxRecDepth 100000
open Go.Lib (hid)
namespace Go.Proofs.YtkgconbdmnmbnaaGreat
section
open Go.Lib
def kOf (K : Nat) : Nat := if K = 1 then 0 else if K = 3 then 1 else if K = 7 then 2 else if K = 8 then 3 else if K = 9 then 4 else 5
def firstB (D : Nat) (s : List Bx) (b : Nat) : Pm × List Ev :=
  if refP D s (itK b) ≠ 0 then (.c (.bad (refP D s (itK b))), []) else if itF b = 0 then begP s (itK b) (itN b) 0 else (.num s (kOf (itK b)) (2 ^ (itF b - 24)) (2 ^ (itF b - 24)) 0, [])
theorem it_0 : ∀ b : Nat, b < 256 → (itK b = 0 ↔ b = 193) := by decide +kernel
theorem it_8 : ∀ b : Nat, b < 256 → (itK b = 8 ↔ textP b = true) := by decide +kernel
theorem it_6 : ∀ b : Nat, b < 256 → (itK b = 6 ↔ extP b = true) := by decide +kernel
theorem it_5 : ∀ b : Nat, b < 256 → (itK b = 5 ↔ b = 202 ∨ b = 203) := by decide +kernel
theorem it_c : ∀ b : Nat, b < 256 → ((itK b = 9 ∨ itK b = 10) ↔ contP b = true) := by decide +kernel
theorem it_le : ∀ b : Nat, b < 256 → itK b ≤ 10 := by decide +kernel
theorem it_form : ∀ b : Nat, b < 256 → (itF b = 0 ∨ ((itF b = 24 ∨ itF b = 25 ∨ itF b = 26 ∨ itF b = 27) ∧ (itK b = 1 ∨ itK b = 3 ∨ itK b = 7 ∨ itK b = 8 ∨ itK b = 9 ∨ itK b = 10))) := by decide +kernel
theorem it_3 : ∀ b : Nat, b < 256 → itK b = 3 → itF b ≠ 0 := by decide +kernel
theorem kd_kOf {K : Nat} (h : K = 1 ∨ K = 3 ∨ K = 7 ∨ K = 8 ∨ K = 9 ∨ K = 10) : kdK (kOf K) = K := by
  rcases h with rfl | rfl | rfl | rfl | rfl | rfl <;> rfl
theorem fm_pow {f : Nat} (h : f = 24 ∨ f = 25 ∨ f = 26 ∨ f = 27) : fmW (2 ^ (f - 24)) = f := by
  rcases h with rfl | rfl | rfl | rfl <;> rfl
theorem pow_fm {q : Nat} (h : q = 1 ∨ q = 2 ∨ q = 4 ∨ q = 8) : 2 ^ (fmW q - 24) = q ∧ 24 ≤ fmW q ∧ fmW q ≤ 27 := by
  rcases h with rfl | rfl | rfl | rfl <;> decide
theorem first_eqP (D : Nat) (s : List Bx) (hl : s.length ≤ D) (b : Nat) (hb : b < 256) : firstP D s false b = firstB D s b := by
  unfold firstP firstB refP; have i0 := it_0 b hb; have i8 := it_8 b hb; have i6 := it_6 b hb; have i5 := it_5 b hb; have ic := it_c b hb; by_cases h1 : b = 193
  · rw [if_pos (.inr h1)]
    simp only [if_pos (i0.2 h1)]; rfl
  rw [if_neg (by simpa using h1)]; have g0 : ¬ itK b = 0 := fun h => h1 (i0.1 h)
  by_cases h2 : keyB s = true ∧ textP b = false
  · have g : keyB s = true ∧ itK b ≠ 8 := ⟨h2.1, fun h => by rw [i8.1 h] at h2; cases h2.2⟩
    rw [if_pos h2]; simp only [if_neg g0, if_pos g]; rfl
  rw [if_neg h2]; have g1 : ¬ (keyB s = true ∧ itK b ≠ 8) := fun h => h2 ⟨h.1, by cases ht : textP b with | false => rfl | true => exact absurd (i8.2 ht) h.2⟩
  by_cases h3 : extP b = true
  · rw [if_pos h3]
    simp only [if_neg g0, if_neg g1, if_pos (i6.2 h3)]; rfl
  rw [if_neg h3]; have g2 : ¬ itK b = 6 := fun h => h3 (i6.1 h)
  by_cases h4 : b = 202 ∨ b = 203
  · rw [if_pos h4]
    simp only [if_neg g0, if_neg g1, if_neg g2, if_pos (i5.2 h4)]; rfl
  rw [if_neg h4]; have g3 : ¬ itK b = 5 := fun h => h4 (i5.1 h)
  by_cases h5 : contP b = true ∧ D ≤ s.length
  · have g : (itK b = 9 ∨ itK b = 10) ∧ s.length = D := ⟨ic.2 h5.1, by omega⟩
    rw [if_pos h5]; simp only [if_neg g0, if_neg g1, if_neg g2, if_neg g3, if_pos g]; rfl
  rw [if_neg h5]; have g4 : ¬ ((itK b = 9 ∨ itK b = 10) ∧ s.length = D) := fun h => h5 ⟨ic.1 h.1, by omega⟩
  simp only [if_neg g0, if_neg g1, if_neg g2, if_neg g3, if_neg g4]; rw [if_neg (show ¬ ((0 : Nat) ≠ 0) by simp)]; clear g0 g1 g2 g3 g4 i0 i8 i6 i5 ic h2 h5; unfold extP at h3; rw [decide_eq_true_eq] at h3; have lo : b < 192 → itF b = 0 := fun h => by unfold itF; rw [if_pos h]
  by_cases k1 : b < 128
  · rw [if_pos k1, if_pos (lo (by omega)), show itK b = 1 by unfold itK; rw [if_pos k1], show itN b = b by unfold itN; rw [if_pos k1]]
    rfl
  rw [if_neg k1]; by_cases k2 : b < 144
  · rw [if_pos k2, if_pos (lo (by omega)), show itK b = 10 by unfold itK; rw [if_neg k1, if_pos k2], show itN b = b - 128 by unfold itN; rw [if_neg k1, if_pos k2]]
    rfl
  rw [if_neg k2]; by_cases k3 : b < 160
  · rw [if_pos k3, if_pos (lo (by omega)), show itK b = 9 by unfold itK; rw [if_neg k1, if_neg k2, if_pos k3], show itN b = b - 144 by unfold itN; rw [if_neg k1, if_neg k2, if_pos k3]]
    rfl
  rw [if_neg k3]; by_cases k4 : b < 192
  · rw [if_pos k4, if_pos (lo (by omega)), show itK b = 8 by unfold itK; rw [if_neg k1, if_neg k2, if_neg k3, if_pos k4], show itN b = b - 160 by unfold itN; rw [if_neg k1, if_neg k2, if_neg k3, if_pos k4]]
    rfl
  rw [if_neg k4]; by_cases k5 : b < 224
  · have eK : itK b = otK b := by unfold itK; rw [if_neg k1, if_neg k2, if_neg k3, if_neg k4, if_pos k5]
    have eN : itN b = otN b := by unfold itN; rw [if_neg k1, if_neg k2, if_neg k3, if_neg k4, if_pos k5]
    have eF : itF b = otF b := by unfold itF; rw [if_neg k4, if_pos k5]
    rw [eK, eN, eF]; have hc : b = 192 ∨ b = 194 ∨ b = 195 ∨ b = 196 ∨ b = 197 ∨ b = 198 ∨ b = 204 ∨ b = 205 ∨ b = 206 ∨ b = 207 ∨ b = 208 ∨ b = 209 ∨ b = 210 ∨ b = 211 ∨ b = 217 ∨ b = 218 ∨ b = 219 ∨ b = 220 ∨ b = 221 ∨ b = 222 ∨ b = 223 := by omega
    clear eK eN eF k1 k2 k3 k4 k5 lo h1 h3 h4 hb; rcases hc with rfl | rfl | rfl | rfl | rfl | rfl | rfl | rfl | rfl | rfl | rfl | rfl | rfl | rfl | rfl | rfl | rfl | rfl | rfl | rfl | rfl <;> rfl
  · have e1 : itK b = 2 := by unfold itK; rw [if_neg k1, if_neg k2, if_neg k3, if_neg k4, if_neg k5]
    have e2 : itN b = 255 - b := by unfold itN; rw [if_neg k1, if_neg k2, if_neg k3, if_neg k4, if_neg k5]
    have e3 : itF b = 0 := by unfold itF; rw [if_neg k4, if_neg k5]
    rw [e1, e2, e3, if_neg (show ¬ b = 192 by omega), if_neg (show ¬ b < 196 by omega), if_neg (show ¬ b < 199 by omega), if_neg (show ¬ b < 208 by omega), if_neg (show ¬ b < 212 by omega), if_neg (show ¬ b < 220 by omega), if_neg (show ¬ b < 222 by omega), if_neg (show ¬ b < 224 by omega), if_pos rfl]; rfl
theorem text_eqP (D : Nat) (s : List Bx) (m : Bool) (n : Nat) (t : List UInt8) (u : Option (Nat × Nat × Nat)) (y : UInt8) : liftP (stepCi D (.text s m (n + 1) t u) y) = bytP s m t n u y := by
  simp only [stepCi]; unfold bytP goP mayH; cases m with
  | false =>
    have hn : nextU false u y = u := rfl; rw [hn]; by_cases h0 : n = 0
    · subst h0
      simp [liftP]
    · rw [if_neg (by simp), if_neg (by omega), if_pos (by simp), if_pos (by omega)]
      simp [liftP]
  | true =>
    cases hu : nextU true u y with
    | none => simp [liftP]
    | some a =>
      by_cases h0 : n = 0
      · subst h0
        cases hw : wholeS (some a) with
        | false => simp [liftP]
        | true => simp [liftP]
      · rw [if_neg (by simp), if_neg (by omega), if_pos (by simp; omega), if_pos (by omega)]
        simp [liftP]
theorem hed_eqP (s : List Bx) {k q : Nat} (hk : k ≤ 5) (hq : q = 1 ∨ q = 2 ∨ q = 4 ∨ q = 8) (v : Nat) : liftP (hedP s k q v) = begP s (kdK k) v (fmW q) := by
  have hc : k = 0 ∨ k = 1 ∨ k = 2 ∨ k = 3 ∨ k = 4 ∨ k = 5 := by omega
  rcases hc with rfl | rfl | rfl | rfl | rfl | rfl
  · rfl
  · rcases hq with rfl | rfl | rfl | rfl <;> rfl
  · rfl
  · rfl
  · rfl
  · rfl
def WfPm (D : Nat) : Pm → Prop
  | .c (.bad e) => e ≠ 0 ∧ e ≠ 3
  | .c (.item s dn) => OkP s ∧ s.length ≤ D ∧ (dn = true → s = [])
  | .c (.text s _ n t _) => OkP s ∧ s.length ≤ D ∧ 1 ≤ n ∧ t.length + n ≤ 200
  | .num s k q n a => OkP s ∧ s.length ≤ D ∧ k ≤ 5 ∧ (q = 1 ∨ q = 2 ∨ q = 4 ∨ q = 8) ∧ 1 ≤ n ∧ n ≤ q ∧ a < 256 ^ (q - n) ∧ (4 ≤ k → s.length < D)
  | _ => False
theorem wfP_at {D : Nat} {s : List Bx} (h : OutP s) (hd : s.length ≤ D) : WfPm D (.c (atC s)) := ⟨h.rest, Nat.le_trans (rest_len s) hd, fun h => by simpa using h⟩
theorem wfP_put {D : Nat} {s : List Bx} (h : OkP s) (hd : s.length ≤ D) (e : Ev) : WfPm D (liftP (putC s e)).1 := wfP_at h.inc (by rw [inc_lenK]; exact hd)
theorem wfP_len {D : Nat} {s : List Bx} (h : OkP s) (hd : s.length ≤ D) (m : Bool) (v : Nat) : WfPm D (liftP (lenP s m v)).1 := by
  unfold lenP; split
  · exact ⟨by decide, by decide⟩
  split
  · exact wfP_put h hd _
  · exact ⟨h, hd, by omega, by simp only [List.length_nil]; omega⟩
theorem wfP_cnt {D : Nat} (hD : D ≤ 16) {s : List Bx} (h : OkP s) (hd : s.length < D) (m : Bool) (v : Nat) : WfPm D (liftP (cntP s m v)).1 := by
  unfold cntP; split
  · exact ⟨by decide, by decide⟩
  · by_cases h0 : v = 0
    · subst h0
      show WfPm D (liftP (beginC s m 0)).1; rw [begin_zero]; exact wfP_at h.inc (by rw [inc_lenK]; omega)
    · rw [begin_ne s m (by omega)]
      exact ⟨h.push (by omega) m (by omega), by rw [List.length_cons, inc_lenK]; omega, fun h => by cases h⟩
theorem wfP_beg {D : Nat} (hD : D ≤ 16) {s : List Bx} (h : OkP s) (hd : s.length ≤ D) {K v f : Nat} (hc : K = 9 ∨ K = 10 → s.length < D) : WfPm D (begP s K v f).1 := by
  unfold begP; split
  · exact wfP_len h hd _ _
  split
  · exact wfP_len h hd _ _
  split
  · rename_i e; exact wfP_cnt hD h (hc (.inl e)) _ _
  split
  · rename_i e; exact wfP_cnt hD h (hc (.inr e)) _ _
  · exact wfP_put h hd _
theorem ref_len {D : Nat} {s : List Bx} {K : Nat} (h : refP D s K = 0) (hd : s.length ≤ D) : K ≠ 0 ∧ K ≠ 5 ∧ K ≠ 6 ∧ (K = 9 ∨ K = 10 → s.length < D) := by
  unfold refP at h; split at h
  · cases h
  split at h
  · cases h
  split at h
  · cases h
  split at h
  · cases h
  split at h
  · cases h
  · rename_i h0 _ h6 h5 hc
    exact ⟨h0, h5, h6, fun e => by have : ¬ s.length = D := fun e2 => hc ⟨e, e2⟩; omega⟩
theorem wfP_first {D : Nat} (hD : D ≤ 16) {s : List Bx} (h : OkP s) (hd : s.length ≤ D) (b : Nat) (hb : b < 256) : WfPm D (firstB D s b).1 := by
  unfold firstB; by_cases hr : refP D s (itK b) = 0
  · rw [if_neg (by simpa using hr)]
    obtain ⟨_, _, _, hc⟩ := ref_len hr hd; by_cases hf : itF b = 0
    · rw [if_pos hf]
      exact wfP_beg hD h hd hc
    · rw [if_neg hf]
      obtain ⟨e1, e2⟩ := (it_form b hb).resolve_left hf; refine ⟨h, hd, ?_, ?_, ?_, Nat.le_refl _, ?_, ?_⟩
      · rcases e2 with e | e | e | e | e | e <;> rw [e] <;> decide
      · rcases e1 with e | e | e | e <;> rw [e] <;> simp
      · exact Nat.pow_pos (by decide)
      · rw [Nat.sub_self]; decide
      · intro h4
        refine hc ?_; revert h4; rcases e2 with e | e | e | e | e | e <;> rw [e] <;> decide
  · rw [if_pos hr]
    refine ⟨hr, ?_⟩; unfold refP
    (repeat' split) <;> decide
theorem wfP_step {D : Nat} (hD : D ≤ 16) {s : Pm} (h : WfPm D s) (y : UInt8) : WfPm D (stepPm D s y).1 := by
  cases s with
  | c x =>
    cases x with
    | bad e => exact h
    | item s dn =>
      obtain ⟨h1, h2, h3⟩ := h; cases dn with
      | true =>
        have : stepPm D (.c (.item s true)) y = (.c (.bad 2), []) := by simp only [stepPm, firstP]; simp
        rw [this]; exact ⟨by decide, by decide⟩
      | false =>
        show WfPm D (firstP D s false y.toNat).1; rw [first_eqP D s h2 _ y.toNat_lt]; exact wfP_first hD h1 h2 _ y.toNat_lt
    | text s m n t u =>
      obtain ⟨h1, h2, h3, h4⟩ := h; obtain ⟨k, rfl⟩ : ∃ k, n = k + 1 := ⟨n - 1, by omega⟩
      show WfPm D (liftP (stepCi D (.text s m (k + 1) t u) y)).1; rw [text_eqP]; unfold bytP goP; split
      · split
        · exact ⟨h1, h2, by omega, by simp only [List.length_append, List.length_singleton]; omega⟩
        · exact wfP_put h1 h2 _
      · exact ⟨by decide, by decide⟩
    | head _ _ => exact h
    | open_ _ _ _ => exact h
    | chead _ _ _ _ => exact h
    | ctext _ _ _ _ _ => exact h
  | num s k q n a =>
    obtain ⟨h1, h2, h3, h4, h5, h6, h7, h8⟩ := h; simp only [stepPm]; by_cases hn : n = 1
    · rw [if_pos hn, hed_eqP s h3 h4]
      refine wfP_beg hD h1 h2 (fun e => h8 ?_); have hc : k = 0 ∨ k = 1 ∨ k = 2 ∨ k = 3 ∨ k = 4 ∨ k = 5 := by omega
      revert e; rcases hc with rfl | rfl | rfl | rfl | rfl | rfl <;> decide
    · rw [if_neg hn]
      refine ⟨h1, h2, h3, h4, by omega, by omega, ?_, h8⟩; have e : q - (n - 1) = (q - n) + 1 := by omega
      rw [e, Nat.pow_succ]; have := y.toNat_lt; omega
theorem wfP_0 (D : Nat) : WfPm D pm0 := ⟨⟨by simp, fun x hx => by simp at hx, fun x hx => by simp at hx, fun x r h => by cases h⟩, by simp, fun h => by cases h⟩
end
section
open Go.Lib
def stkN : Pm → Nat
  | .c x => stkC x
  | .num s _ _ _ _ => s.length
structure TolP (n : Nat) (r : Pm × List Ev) : Prop where
  told : ∀ e ∈ r.2, ToldC e
  len : r.2.length + stkN r.1 ≤ n + 2
theorem OkP.bx {s : List Bx} (h : OkP s) : BxOk s := fun x hx => by
  have := h.all x hx; exact ⟨by have := this.1; omega, this.2.1⟩
theorem tolP_of {D n : Nat} {r : Ci × List Ev} (h : FineC D n r) : TolP n (liftP r) := ⟨h.told, h.len⟩
theorem tolP_bad (n e : Nat) : TolP n (.c (.bad e), []) := ⟨by simp, by simp [stkN, stkC]⟩
theorem tolP_num (s : List Bx) (k w n a : Nat) : TolP s.length (.num s k w n a, []) := ⟨by simp, by simp [stkN]⟩
theorem tolP_text (s : List Bx) (m : Bool) (n : Nat) (t : List UInt8) (u : Option (Nat × Nat × Nat)) : TolP s.length (.c (.text s m n t u), []) := ⟨by simp, by simp [stkN, stkC]⟩
theorem tolP_put {s : List Bx} (h : OkP s) {e : Ev} (he : ToldC e) : TolP s.length (liftP (putC s e)) := tolP_of (fine_put (D := 16) h.bx h.deep he)
theorem tolP_len {s : List Bx} (h : OkP s) (m : Bool) (v : Nat) : TolP s.length (liftP (lenP s m v)) := by
  unfold lenP; split
  · exact tolP_bad _ _
  split
  · exact tolP_put h (tolc_text m (by simp))
  · exact tolP_text _ _ _ _ _
theorem tolP_cnt {s : List Bx} (h : OkP s) (hd : s.length < 16) (m : Bool) (v : Nat) : TolP s.length (liftP (cntP s m v)) := by
  unfold cntP; split
  · exact tolP_bad _ _
  · exact tolP_of (fine_begin (D := 16) m h.bx hd (by omega))
theorem tolP_hed {D : Nat} (hD : D ≤ 16) {s : List Bx} (h : OkP s) {k q v : Nat} (hq : q ≤ 8) (hv : v < 256 ^ q) (hk : k ≤ 5) (hd : 4 ≤ k → s.length < D) : TolP s.length (liftP (hedP s k q v)) := by
  have h8 : 256 ^ q ≤ 256 ^ 8 := Nat.pow_le_pow_right (by decide) hq; have h8' : (256 : Nat) ^ 8 = 18446744073709551616 := by decide
  unfold hedP; split
  · exact tolP_put h (told_int _ (by omega))
  split
  · unfold sgnP
    split
    · exact tolP_put h (told_int _ (by omega))
    · exact tolP_put h (told_int _ (by omega))
  split
  · exact tolP_len h _ _
  split
  · exact tolP_len h _ _
  · exact tolP_cnt h (Nat.lt_of_lt_of_le (hd (by omega)) hD) _ _
theorem tolP_ite {n : Nat} {p : Prop} [Decidable p] {x y : Pm × List Ev} (hx : p → TolP n x) (hy : ¬ p → TolP n y) : TolP n (if p then x else y) := by
  by_cases h : p
  · rw [if_pos h]; exact hx h
  · rw [if_neg h]; exact hy h
theorem tolP_first {D : Nat} (hD : D ≤ 16) {s : List Bx} (h : OkP s) (dn : Bool) (b : Nat) (hb : b < 256) : TolP s.length (firstP D s dn b) := by
  refine tolP_ite (fun _ => tolP_bad _ _) (fun _ => ?_); refine tolP_ite (fun _ => tolP_bad _ _) (fun _ => ?_); refine tolP_ite (fun _ => tolP_bad _ _) (fun _ => ?_); refine tolP_ite (fun _ => tolP_bad _ _) (fun _ => ?_); refine tolP_ite (fun _ => tolP_bad _ _) (fun hc => ?_); have hlen : ((128 ≤ b ∧ b ≤ 159) ∨ (220 ≤ b ∧ b ≤ 223)) → s.length < 16 := fun e => by
    by_cases h2 : D ≤ s.length
    · exact absurd ⟨by unfold contP; rw [decide_eq_true_eq]; exact e, h2⟩ hc
    · omega
  refine tolP_ite (fun _ => tolP_put h (told_int _ (by omega))) (fun k1 => ?_); refine tolP_ite (fun k2 => tolP_cnt h (hlen (by omega)) _ _) (fun k2 => ?_); refine tolP_ite (fun k3 => tolP_cnt h (hlen (by omega)) _ _) (fun k3 => ?_); refine tolP_ite (fun _ => tolP_len h _ _) (fun _ => ?_); refine tolP_ite (fun _ => tolP_put h tolc_null) (fun _ => ?_); refine tolP_ite (fun _ => tolP_put h (tolc_bool _)) (fun _ => ?_); refine tolP_ite (fun _ => tolP_num _ _ _ _ _) (fun _ => ?_); refine tolP_ite (fun _ => tolP_num _ _ _ _ _) (fun _ => ?_); refine tolP_ite (fun _ => tolP_num _ _ _ _ _) (fun _ => ?_); refine tolP_ite (fun _ => tolP_num _ _ _ _ _) (fun _ => ?_); refine tolP_ite (fun _ => tolP_num _ _ _ _ _) (fun _ => ?_); refine tolP_ite (fun _ => tolP_num _ _ _ _ _) (fun _ => ?_); exact tolP_put h (told_int _ (by omega))
theorem tolP_step {D : Nat} (hD : D ≤ 16) {s : Pm} (h : WfPm D s) (y : UInt8) : TolP (stkN s) (stepPm D s y) := by
  cases s with
  | c x =>
    cases x with
    | bad e => exact tolP_bad _ _
    | item s dn => exact tolP_first hD h.1 dn _ y.toNat_lt
    | text s m n t u =>
      obtain ⟨h1, h2, h3, h4⟩ := h; obtain ⟨k, rfl⟩ : ∃ k, n = k + 1 := ⟨n - 1, by omega⟩
      show TolP s.length (liftP (stepCi D (.text s m (k + 1) t u) y)); rw [text_eqP]; unfold bytP goP; split
      · split
        · exact tolP_text _ _ _ _ _
        · exact tolP_put h1 (tolc_text m (by simp only [List.length_append, List.length_singleton]; omega))
      · exact tolP_bad _ _
    | head _ _ => exact h.elim
    | open_ _ _ _ => exact h.elim
    | chead _ _ _ _ => exact h.elim
    | ctext _ _ _ _ _ => exact h.elim
  | num s k q n a =>
    obtain ⟨h1, h2, h3, h4, h5, h6, h7, h8⟩ := h; simp only [stepPm]; by_cases hn : n = 1
    · subst hn
      rw [if_pos rfl]; refine tolP_hed hD h1 (by omega) ?_ h3 h8; have e : q = (q - 1) + 1 := by omega
      have := y.toNat_lt; rw [e, Nat.pow_succ]; omega
    · rw [if_neg hn]
      exact tolP_num _ _ _ _ _
end
end Go.Proofs.YtkgconbdmnmbnaaGreat
