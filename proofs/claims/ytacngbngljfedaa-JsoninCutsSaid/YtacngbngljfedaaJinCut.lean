/-
  NO PROGRAM NEEDED: a document that is cut anywhere; one more byte behind it.
-/
import Derived.Test.YtacngbngljfedaaGi
namespace Go.Proofs.Ytacngbngljfedaa
open Go.Lib
/-! ### Numbers, cut -/
theorem runs_split : ∀ (a b : List UInt8) (s r : Dec), Runs s (a ++ b) r → ∃ q, Runs s a q ∧ Runs q b r
  | [], b, s, r, h => ⟨s, .nil s, h⟩
  | x :: a, b, s, r, h => by
    cases h with
    | cons h1 h2 h3 =>
      obtain ⟨q, g1, g2⟩ := runs_split a b _ r h3
      exact ⟨q, .cons h1 h2 g1, g2⟩
theorem runs_less {s r : Dec} {l : List UInt8} (h : Runs s l r) : ∀ p m v, s = .num p m v → 1 ≤ p → p ≤ 3 → ∃ p' v', r = .num p' m v' ∧ v ≤ v' ∧ (p ≤ p' ∧ p' ≤ 3) ∧ (l ≠ [] → 2 ≤ p') ∧ ((p ≤ 2 → v = 0) → p' ≤ 2 → v' = 0) := by
  induction h with
  | nil s => intro p m v hs hp hp3; exact ⟨p, v, hs, Nat.le_refl _, ⟨Nat.le_refl _, hp3⟩, fun h => absurd rfl h, fun h => h⟩
  | @cons s s' r b t h1 h2 h3 ih =>
    intro p m v hs hp hp3
    subst hs
    simp only [stepD] at h1
    split at h1
    · omega
    · split at h1
      · rename_i hd
        split at h1
        · simp only [Prod.mk.injEq, and_true] at h1
          subst h1
          obtain ⟨p', v', g1, g2, g3, g4, g5⟩ := ih 2 m v rfl (by omega) (by omega)
          exact ⟨p', v', g1, g2, ⟨by omega, g3.2⟩, fun _ => g3.1, fun h => g5 (fun _ => h (by omega))⟩
        · simp only [Prod.mk.injEq, and_true] at h1
          subst h1
          obtain ⟨p', v', g1, g2, g3, g4, g5⟩ := ih 3 m _ rfl (by omega) (by omega)
          exact ⟨p', v', g1, by omega, ⟨by omega, g3.2⟩, fun _ => by omega, fun _ h => by omega⟩
      · split at h1
        · simp at h1
        · split at h1 <;> simp at h1
theorem cut_num (w : Bool × Nat) (hw : w.2 < 18446744073709551616) (i : Nat) (h1 : 0 < i) (h2 : i < (printD w).length) :
    ∃ q, runX .idle ((printD w).take i) = (.num q, []) ∧ ((∃ y, endX (.num q) = ([numT y], 0)) ∨ (endX (.num q)).2 = 2 ∧ ((printD w).take i).getLast? = some 45) := by
  have hr := runs_print w
  rw [← List.take_append_drop i (printD w)] at hr
  obtain ⟨q, hq, hr2⟩ := runs_split _ _ _ _ hr
  have hne : (printD w).take i ≠ [] := by
    intro h
    have := congrArg List.length h
    rw [List.length_take, List.length_nil] at this
    omega
  refine ⟨q, num_in hq hne, ?_⟩
  generalize (printD w).take i = a at hq hne
  clear hr
  cases hq with
  | nil => exact absurd rfl hne
  | @cons _ s1 _ x t g1 g2 g3 =>
    have hs1 : ∃ p m v, s1 = .num p m v ∧ (1 ≤ p ∧ p ≤ 3) ∧ (p ≤ 2 → v = 0) ∧ (p = 1 → x = 45) := by
      have hx : x = UInt8.ofNat x.toNat := by simp
      simp only [d0, stepD] at g1
      split at g1
      · rename_i hc
        simp only [Prod.mk.injEq, and_true] at g1
        subst g1
        exact ⟨1, true, 0, rfl, ⟨by omega, by omega⟩, fun _ => rfl, fun _ => by rw [hx, hc.1]; rfl⟩
      · split at g1
        · split at g1
          · simp only [Prod.mk.injEq, and_true] at g1
            subst g1
            exact ⟨2, false, 0, rfl, ⟨by omega, by omega⟩, fun _ => rfl, fun h => by omega⟩
          · simp only [Prod.mk.injEq, and_true] at g1
            subst g1
            exact ⟨3, false, _, rfl, ⟨by omega, by omega⟩, fun h => by omega, fun h => by omega⟩
        · split at g1
          · simp at g1
          · split at g1 <;> simp at g1
    obtain ⟨p, m, v, rfl, hp, hv0, hx⟩ := hs1
    obtain ⟨p', v', rfl, k1, k2, k3, k4⟩ := runs_less g3 p m v rfl hp.1 hp.2
    obtain ⟨p2, v2, hpr, l1, l2, l3, l4⟩ := runs_less hr2 p' m v' rfl (by omega) k2.2
    by_cases hp' : p' < 2
    · have ht : t = [] := by
        by_cases h : t = []
        · exact h
        · have := k3 h; omega
      subst ht
      have hx := hx (by omega)
      subst hx
      refine .inr ⟨?_, rfl⟩
      have he : (endD (.num p' m v')).2 = 2 := by
        simp only [endD]
        rw [if_pos hp']
      simp only [endX]
      rw [if_pos (by rw [he]; decide)]
      exact he
    · have hbd : (m = true → v' ≤ 18446744073709551616) ∧ (m = false → v' < 18446744073709551616) := by
        obtain ⟨wm, wv⟩ := w
        simp only at hw
        cases wm with
        | true =>
          simp only [prD, if_true, Dec.num.injEq] at hpr
          obtain ⟨_, rfl, rfl⟩ := hpr
          exact ⟨fun _ => by omega, (fun h => by cases h)⟩
        | false =>
          simp only [prD, Bool.false_eq_true, if_false, atD] at hpr
          split at hpr
          · simp only [Dec.num.injEq] at hpr
            obtain ⟨_, rfl, rfl⟩ := hpr
            exact ⟨(fun h => by cases h), fun _ => by omega⟩
          · simp only [Dec.num.injEq] at hpr
            obtain ⟨_, rfl, rfl⟩ := hpr
            exact ⟨(fun h => by cases h), fun _ => by omega⟩
      have hz := k4 hv0
      left
      have he : (endD (.num p' m v')).2 = 0 := by
        simp only [endD]
        rw [if_neg hp']
        split
        · rename_i hm; rw [if_pos (hbd.1 hm.1)]
        · rename_i hm
          rw [if_pos ?_]
          cases m with
          | false => exact hbd.2 rfl
          | true =>
            have : p' = 2 := by
              by_cases h : p' = 2
              · exact h
              · exact absurd ⟨rfl, h⟩ hm
            have := hz (by omega)
            omega
      refine ⟨(endD (.num p' m v')).1, ?_⟩
      simp only [endX]
      rw [if_neg (by rw [he]; exact fun h => h rfl)]
      rfl
/-! ### Words and strings, cut -/
theorem cut_word (bs : List UInt8) (h : bs = [110, 117, 108, 108] ∨ bs = [116, 114, 117, 101] ∨ bs = [102, 97, 108, 115, 101]) (i : Nat) (h1 : 0 < i) (h2 : i < bs.length) : ∃ k r, runX .idle (bs.take i) = (.word k r, []) := by
  rcases h with rfl | rfl | rfl
  · have : i = 1 ∨ i = 2 ∨ i = 3 := by simp at h2; omega
    rcases this with rfl | rfl | rfl <;> exact ⟨_, _, rfl⟩
  · have : i = 1 ∨ i = 2 ∨ i = 3 := by simp at h2; omega
    rcases this with rfl | rfl | rfl <;> exact ⟨_, _, rfl⟩
  · have : i = 1 ∨ i = 2 ∨ i = 3 ∨ i = 4 := by simp at h2; omega
    rcases this with rfl | rfl | rfl | rfl <;> exact ⟨_, _, rfl⟩
theorem cut_str (l : List UInt8) (hv : validD l = true) (hl : l.length ≤ 200) (i : Nat) (h1 : 0 < i) (h2 : i < (34 :: escW l ++ [34]).length) : ∃ s t, runX .idle ((34 :: escW l ++ [34]).take i) = (.str s t, []) := by
  obtain ⟨k, rfl⟩ : ∃ k, i = k + 1 := ⟨i - 1, by omega⟩
  have hk : k ≤ (escW l).length := by simp at h2; omega
  have ht : (34 :: escW l ++ [34]).take (k + 1) = (34 :: escW l).take (k + 1) := by
    rw [List.take_append_of_le_length (by simp; omega)]
  rw [ht, quote_in l hv k hk]
  have hp := str_part (escW l) l (read_write l hv) k
  unfold strX
  rw [if_neg (by omega)]
  exact ⟨_, _, rfl⟩
/-- A value that is no container, cut. -/
theorem cut_out (e : Ev) (g : GoodW e) (hk : e.k = 0 ∨ e.k = 1 ∨ e.k = 2 ∨ e.k = 3) (i : Nat) (h1 : 0 < i) (h2 : i < (outW e).length) :
    ∃ lx, runX .idle ((outW e).take i) = (lx, []) ∧ badX lx = none ∧ (endX lx = ([], 3) ∨ (∃ y, endX lx = ([numT y], 0) ∧ e.k = 2) ∨ (endX lx).2 = 2 ∧ ((outW e).take i).getLast? = some 45) := by
  rcases hk with h | h | h | h
  · have ho : outW e = [110, 117, 108, 108] := by simp [outW, h]
    rw [ho] at h2 ⊢
    obtain ⟨k, r, hr⟩ := cut_word _ (.inl rfl) i h1 h2
    exact ⟨_, hr, rfl, .inl rfl⟩
  · have ho : outW e = [116, 114, 117, 101] ∨ outW e = [102, 97, 108, 115, 101] := by
      cases hy : e.y <;> simp [outW, h, hy]
    rcases ho with ho | ho
    all_goals rw [ho] at h2 ⊢
    · obtain ⟨k, r, hr⟩ := cut_word _ (.inr (.inl rfl)) i h1 h2
      exact ⟨_, hr, rfl, .inl rfl⟩
    · obtain ⟨k, r, hr⟩ := cut_word _ (.inr (.inr rfl)) i h1 h2
      exact ⟨_, hr, rfl, .inl rfl⟩
  · have ho : outW e = printD (e.y, e.m) := by simp [outW, h]
    rw [ho] at h2 ⊢
    obtain ⟨q, hq, hh⟩ := cut_num (e.y, e.m) g.mag i h1 h2
    refine ⟨_, hq, rfl, ?_⟩
    rcases hh with ⟨y, hy⟩ | hh
    · exact .inr (.inl ⟨y, hy, h⟩)
    · exact .inr (.inr hh)
  · have ho : outW e = 34 :: escW e.t.data.toList ++ [34] := by simp [outW, h]
    rw [ho] at h2 ⊢
    obtain ⟨s, t, hr⟩ := cut_str _ (g.text h).1 (g.text h).2 i h1 h2
    exact ⟨_, hr, rfl, .inl rfl⟩
/-! ### A document, cut -/
/-- What an end there tells. -/
def CutE (D : Nat) (j : Js) (l : List UInt8) : Prop := (endJ D (runJ D j l).1).2 = 3 ∨ (endJ D (runJ D j l).1).2 = 2 ∧ l.getLast? = some 45
theorem end_open (D : Nat) (st : List FrJ) : (endJ D ⟨.idle, .at_ st false⟩).2 = 3 := rfl
theorem cut_rel {D : Nat} {s : List Bx} {j : Js} {pend : List Ev} (h : RelW (.live s) j pend) : (endJ D j).2 = 3 := by
  rcases h with ⟨rfl, rfl⟩ | ⟨w, st, dn, hw, rfl, hr, hq, rfl⟩
  · rfl
  · simp only [pOf, Pj.at_.injEq] at hq
    simp only [endJ, num_end w hw]
    rw [if_neg (by simp), toks_one, tok_num D st dn w hr, ← hq.1, ← hq.2]
theorem cut_part (D : Nat) (s : List Bx) (e : Ev) (j : Js) (pend : List Ev) (h : RelW (.live s) j pend) (hg : GoodW e) (hb : ∀ f, stepC (.live s) e ≠ .bad f) (h2 : s = [] → e.k ≠ 2) (m : Nat) (hm : m < (writeW s e).length) : CutE D j ((writeW s e).take m) := by
  by_cases h0 : m = 0
  · subst h0
    exact .inl (cut_rel h)
  have h7 : e.k ≠ 7 := by
    intro h7
    have : (writeW s e).length ≤ 1 := by
      unfold writeW
      rw [if_pos h7]
      split
      · simp
      · split <;> simp
    omega
  have hw : writeW s e = sepW s ++ outW e := by unfold writeW; rw [if_neg h7]
  have hsl : (sepW s).length ≤ 1 := by
    unfold sepW
    repeat' split
    all_goals simp
  rw [hw] at hm ⊢
  rw [List.length_append] at hm
  obtain ⟨i, rfl⟩ : ∃ i, m = (sepW s).length + i := ⟨m - (sepW s).length, by omega⟩
  rw [List.take_length_add_append]
  have hsep := sep_step D s j pend h
  by_cases hi : i = 0
  · subst hi
    left
    rw [List.take_zero, List.append_nil, hsep]
    rfl
  have hmay : ¬ ¬ mayE e := fun hn => hb 2 (by simp only [stepC]; rw [if_pos hn])
  have h56 : ¬ (e.k = 5 ∨ e.k = 6) := by
    intro h56
    have : (outW e).length ≤ 1 := by
      unfold outW
      rw [if_neg (by omega), if_neg (by omega), if_neg (by omega), if_neg (by omega)]
      split <;> simp
    omega
  have hk4 : e.k = 0 ∨ e.k = 1 ∨ e.k = 2 ∨ e.k = 3 := by have := hg.kind; omega
  obtain ⟨lx, hr, hbx, hh⟩ := cut_out e hg hk4 i (by omega) (by omega)
  have hrun := run_still D (sepF s) false _ .idle lx hr hbx
  have hall : (runJ D j (sepW s ++ (outW e).take i)).1 = ⟨lx, .at_ (sepF s) false⟩ := by
    rw [runJ_append, hsep]
    simp only
    rw [hrun]
  unfold CutE
  rw [hall]
  rcases hh with hh | ⟨y, hy, hk2⟩ | ⟨hh, hl⟩
  · left
    simp only [endJ, hh]
    rw [if_pos (by decide)]
  · left
    have hkf : keyB s = false := by
      cases hk : keyB s with
      | false => rfl
      | true => exact absurd (by simp only [stepC]; rw [if_neg hmay, if_neg h7, if_pos ⟨hk, by omega⟩]) (hb 8)
    have hs : s ≠ [] := fun hs => h2 hs hk2
    obtain ⟨_, hdn, _⟩ := sep_paid s hkf
    have hie : s.isEmpty = false := by cases s with
      | nil => exact absurd rfl hs
      | cons _ _ => rfl
    simp only [endJ, hy]
    rw [if_neg (by simp), toks_one, tok_num D _ _ y (sep_ready s hkf), hdn, hie]
  · right
    refine ⟨?_, ?_⟩
    · simp only [endJ]
      rw [if_pos (by rw [hh]; decide), hh]
    · rw [List.getLast?_append, hl]
      rfl
theorem live_ne {s s' : List Bx} {e : Ev} (h : stepC (.live s) e = .live s') : s' ≠ [] := by
  have hinc : s ≠ [] → incB s ≠ [] := by
    intro h
    cases s with
    | nil => exact absurd rfl h
    | cons _ _ => simp [incB]
  simp only [stepC] at h
  split at h
  · cases h
  split at h
  · cases s with
    | nil => cases h
    | cons b r =>
      simp only at h
      split at h
      · cases h
      split at h
      · cases h
      · rename_i hr
        simp only [Ck.live.injEq] at h
        subst h
        exact hr
  split at h
  · cases h
  split at h
  · split at h
    · cases h
    · simp only [Ck.live.injEq] at h
      subst h
      simp
  split at h
  · cases h
  · rename_i hs
    simp only [Ck.live.injEq] at h
    subst h
    exact hinc hs
theorem cut_run (D : Nat) : ∀ (l : List Ev) (s : List Bx) (j : Js) (pend : List Ev), RelW (.live s) j pend → runC (.live s) l = .done → (∀ e ∈ l, GoodW e) → DeepW D s l → (∀ b ∈ s, b.c = -1) →
    (s = [] → ∀ e, l.head? = some e → e.k ≠ 2) → ∀ m, m < (writeAll [] [] s l).length → CutE D j ((writeAll [] [] s l).take m)
  | [], s, j, pend, _, hr, _, _, _, _, m, hm => by simp [runC] at hr
  | e :: l, s, j, pend, h, hr, hg, hd, ho, h2, m, hm => by
    rw [runC_cons] at hr
    have hb : ∀ f, stepC (.live s) e ≠ .bad f := fun f hf => by
      rw [hf, runC_bad] at hr
      cases hr
    have hw : writeAll [] [] s (e :: l) = writeW s e ++ (match stepC (.live s) e with
      | .live s' => writeAll [] [] s' l
      | _ => []) := rfl
    by_cases hlt : m < (writeW s e).length
    · rw [hw, List.take_append_of_le_length (by omega)]
      exact cut_part D s e j pend h (hg e (by simp)) hb (fun hs => h2 hs e rfl) m hlt
    · obtain ⟨j', ps, pend', r1, h1, e1⟩ := part_step D s e j pend h (hg e (by simp)) hb hd.1 ho
      have hd2 := hd.2
      rw [hw] at hm ⊢
      obtain ⟨i, rfl⟩ : ∃ i, m = (writeW s e).length + i := ⟨m - (writeW s e).length, by omega⟩
      rw [List.take_length_add_append]
      rw [List.length_append] at hm
      cases hs : stepC (.live s) e with
      | bad f => exact absurd hs (hb f)
      | done => rw [hs] at hm; simp only [List.length_nil] at hm; omega
      | live s' =>
        rw [hs] at hr h1 hd2 hm
        simp only at hm ⊢
        have ih := cut_run D l s' j' pend' h1 hr (fun x hx => hg x (by simp [hx])) hd2 (open_step hs ho (hg e (by simp))) (fun hh => absurd hh (live_ne hs)) i (by omega)
        unfold CutE at ih ⊢
        rw [runJ_append, r1]
        simp only
        rcases ih with ih | ⟨ih, il⟩
        · exact .inl ih
        · right
          refine ⟨ih, ?_⟩
          rw [List.getLast?_append, il]
          rfl
/-- Of a document that is no number: cut anywhere it is not at its end; or it ends with a minus. -/
theorem cut_all (D : Nat) (l : List Ev) (hc : checkE l = 0) (hg : ∀ e ∈ l, GoodW e) (hd : DeepW D [] l) (h2 : ∀ e, l.head? = some e → e.k ≠ 2) (m : Nat) (hm : m < (writeAll [] [] [] l).length) :
    (allJ D ((writeAll [] [] [] l).take m)).2 = 3 ∨ (allJ D ((writeAll [] [] [] l).take m)).2 = 2 ∧ ((writeAll [] [] [] l).take m).getLast? = some 45 :=
  cut_run D l [] ⟨.idle, .at_ [] false⟩ [] (.inl ⟨rfl, rfl⟩) (check_zero hc) hg hd (by simp) (fun _ => h2) m hm
/-- Behind it the reader is at its end, and between tokens. -/
theorem back_done (D : Nat) (l : List Ev) (hc : checkE l = 0) (hg : ∀ e ∈ l, GoodW e) (hd : DeepW D [] l) (h2 : ∀ e, l.head? = some e → e.k ≠ 2) : (runJ D ⟨.idle, .at_ [] false⟩ (writeAll [] [] [] l)).1 = ⟨.idle, .at_ [] true⟩ := by
  obtain ⟨j', ps, pend', h1, h3, h4⟩ := back_run D [] [] (by simp) (by simp) l [] ⟨.idle, .at_ [] false⟩ [] (.inl ⟨rfl, rfl⟩) (check_zero hc) hg hd (by simp)
  rw [h1]
  rcases h3 with ⟨rfl, rfl⟩ | ⟨w, st, dn, hw, rfl, hr, hq, rfl⟩
  · rfl
  · exfalso
    rw [List.nil_append] at h4
    have hrun := check_zero hc
    rw [h4, runC_append] at hrun
    cases ps with
    | nil => exact h2 (evNum w) (by rw [h4]; rfl) rfl
    | cons x ps =>
      cases hp : runC (.live []) (x :: ps) with
      | bad f => rw [hp, runC_bad] at hrun; cases hrun
      | done => rw [hp] at hrun; cases hrun
      | live s =>
        rw [hp] at hrun
        have hs : s ≠ [] := by
          rcases List.eq_nil_or_concat (x :: ps) with h | ⟨K, y, h⟩
          · cases h
          · rw [h, List.concat_eq_append, runC_append] at hp
            cases hk : runC (.live []) K with
            | bad f => rw [hk] at hp; cases hp
            | done => rw [hk] at hp; cases hp
            | live s1 => rw [hk] at hp; exact live_ne hp
        have hst : stepC (.live s) (evNum w) = .done := hrun
        simp only [stepC] at hst
        rw [if_neg (fun hn => hn (may_low (.inr (.inr (.inl rfl))))), if_neg (by simp [evNum])] at hst
        split at hst
        · cases hst
        · rw [if_neg (by simp [evNum])] at hst
          first | (cases hst; done) | (rw [if_neg hs] at hst; cases hst)
def moreB (b : UInt8) : Bool := (((endJ 8 (stepJ 8 ⟨.idle, .at_ [] true⟩ b).1).2 == 0) == isBlank b.toNat) && ((endJ 8 (stepJ 8 ⟨.idle, .at_ [] true⟩ b).1).2 == 0 || (endJ 8 (stepJ 8 ⟨.idle, .at_ [] true⟩ b).1).2 == 2 || (endJ 8 (stepJ 8 ⟨.idle, .at_ [] true⟩ b).1).2 == 3)
theorem more_all : ∀ i : Fin 256, moreB (UInt8.ofNat i.val) = true := by decide +kernel
theorem more_one (b : UInt8) : moreB b = true := by
  have := more_all ⟨b.toNat, b.toNat_lt⟩
  simpa using this
theorem more_end (l : List Ev) (b : UInt8) (hc : checkE l = 0) (hg : ∀ e ∈ l, GoodW e) (hd : DeepW 8 [] l) (h2 : ∀ e, l.head? = some e → e.k ≠ 2) :
    ((allJ 8 (writeAll [] [] [] l ++ [b])).2 = 0 ↔ isBlank b.toNat = true) ∧ ((allJ 8 (writeAll [] [] [] l ++ [b])).2 = 0 ∨ (allJ 8 (writeAll [] [] [] l ++ [b])).2 = 2 ∨ (allJ 8 (writeAll [] [] [] l ++ [b])).2 = 3) := by
  have h := more_one b
  have he : (allJ 8 (writeAll [] [] [] l ++ [b])).2 = (endJ 8 (stepJ 8 ⟨.idle, .at_ [] true⟩ b).1).2 := by
    simp only [allJ]
    rw [runJ_append, back_done 8 l hc hg hd h2, runJ_one]
  rw [he]
  unfold moreB at h
  generalize (endJ 8 (stepJ 8 ⟨.idle, .at_ [] true⟩ b).1).2 = E at h ⊢
  simp only [Bool.and_eq_true, Bool.or_eq_true, beq_iff_eq] at h
  refine ⟨?_, by omega⟩
  rw [← h.1]
  simp
end Go.Proofs.Ytacngbngljfedaa
