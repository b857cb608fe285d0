/-
  Parts: JinE, JinF, Lst, Vls, JinG, JinH, JinI, JinJ, JinK.
-/
import Derived.Test.YtkgconbdmnmbnaaGreatG0f
import Derived.Test.YtkgconbdmnmbnaaGreatG0a
import Derived.Deep.DeepCutAuto
import Derived.Deep.RegionLaw
import Derived.Test.YtkgconbdmnmbnaaGreatG0b
set_option maxRecDepth 100000
set_option maxHeartbeats 16000000
open Go.Lib (hid)
namespace Go.Proofs.YtkgconbdmnmbnaaGreat
section
open Go.RowKit
open Go.Lib
def OutJ (w : World) (b o D : Nat) : Pj → Prop
  | .bad _ => True
  | .at_ st dn => GJ w b o D st dn
def DoesJ (w : World) (b o D : Nat) (p : Pj) (r : Ending) (w' : World) : Prop := r = .returned (.int .i64 (errP p)) ∧ Sub b (o + 20) 18 w w' ∧ OutJ w' b o D p
theorem does_bad {w w' : World} {b o D : Nat} (e : Nat) (h : Sub b (o + 20) 18 w w') : DoesJ w b o D (.bad e) (.returned (.int .i64 e)) w' := ⟨rfl, h, trivial⟩
theorem sub_dr (w : World) (b o n q : Nat) : Sub b o n w (w.drewN q) := (Sub.refl _ _ _ _).drewN q
theorem colon_gj {w : World} {b o D : Nat} {st : List FrJ} {dn : Bool} (h : GJ w b o D st dn) :
    Calls Tryz.prog 96 #[.pointer (some ⟨b, o, none⟩)] w (DoesJ w b o D (colonJ st).1) := by
  obtain ⟨M, hG, hM, hW, hD⟩ := h; have no : plJ st dn ≠ 4 → (colonJ st).1 = .bad 2 → Calls Tryz.prog 96 #[.pointer (some ⟨b, o, none⟩)] w (DoesJ w b o D (colonJ st).1) := by
    intro h1 h2; rw [h2]; exact (colon_no hG h1).mono (by
      rintro r w' ⟨rfl, rfl⟩; exact does_bad 2 (Sub.refl _ _ _ _))
  match st, hG, hM, hW, no with
  | [], hG, _, hW, no => exact no (by cases dn <;> simp [plJ]) rfl
  | ⟨false, p⟩ :: r, hG, _, hW, no => exact no (by simp only [plJ]; split <;> (try split) <;> omega) rfl
  | ⟨true, p⟩ :: r, hG, hM, hW, no =>
    by_cases hp : p = 1
    · subst hp
      refine (colon_yes hG).mono ?_; rintro r w' ⟨rfl, rfl⟩; exact ⟨rfl, sub_pl _ _ _ _, gj_mk (hG.setPl 0) rfl rfl hM (wf_colon hW) hD⟩
    · refine no (by simp only [plJ]; repeat' split <;> try omega) ?_
      unfold colonJ; split
      · rename_i h; simp only [List.cons.injEq, FrJ.mk.injEq, true_and] at h; exact absurd h.1 hp
      · rfl
theorem comma_gj {w : World} {b o D : Nat} {st : List FrJ} {dn : Bool} (h : GJ w b o D st dn) :
    Calls Tryz.prog 97 #[.pointer (some ⟨b, o, none⟩)] w (DoesJ w b o D (commaJ st).1) := by
  obtain ⟨M, hG, hM, hW, hD⟩ := h
  match st, hG, hM, hW with
  | [], hG, _, hW =>
    refine (comma_none hG).mono ?_; rintro r w' ⟨rfl, rfl⟩; exact does_bad 2 (Sub.refl _ _ _ _)
  | ⟨m, p⟩ :: r, hG, hM, hW =>
    have hl := hW.2.1; simp only [List.length_cons] at hl; by_cases h5 : plJ (⟨m, p⟩ :: r) dn = 5
    · rw [h5] at hG
      refine (comma_yes (k := r.length) hG (by omega)).mono ?_; rintro r' w' ⟨rfl, hs, hg⟩; have hm : M r.length = m := hM.1; rw [hm] at hg; cases m with
      | false =>
        have hp : p = 1 := by simp only [plJ] at h5; split at h5 <;> (try split at h5) <;> omega
        subst hp; exact ⟨rfl, hs, gj_mk hg rfl rfl hM (wf_comma hW) hD⟩
      | true =>
        have hp : p = 3 := by simp only [plJ] at h5; repeat' split at h5 <;> try omega
        subst hp; exact ⟨rfl, hs, gj_mk hg rfl rfl hM (wf_comma hW) hD⟩
    · have hc : (commaJ (⟨m, p⟩ :: r)).1 = .bad 2 := by
        unfold commaJ; split
        · rename_i h; simp only [List.cons.injEq, FrJ.mk.injEq] at h; obtain ⟨⟨rfl, rfl⟩, _⟩ := h; exact absurd rfl h5
        · rename_i h; simp only [List.cons.injEq, FrJ.mk.injEq] at h; obtain ⟨⟨rfl, rfl⟩, _⟩ := h; exact absurd rfl h5
        · rfl
      rw [hc]; refine (comma_no (k := r.length) hG h5).mono ?_; rintro r w' ⟨rfl, rfl⟩; exact does_bad 2 (Sub.refl _ _ _ _)
theorem pl_done (st : List FrJ) (h : OuterJ st) : 5 = plJ st (doneJ st) := by
  match st, h with
  | [], _ => rfl
  | ⟨false, p⟩ :: r, h => have : p = 1 := h.1; subst this; rfl
  | ⟨true, p⟩ :: r, h => have : p = 3 := h.1; subst this; rfl
theorem pl_paid (st : List FrJ) : 5 = plJ (paidJ st) (doneJ st) := by
  match st with
  | [] => rfl
  | ⟨false, p⟩ :: r => rfl
  | ⟨true, p⟩ :: r => rfl
theorem shut_gj {w : World} {b o D : Nat} {st : List FrJ} {dn : Bool} (h : GJ w b o D st dn) (m : Bool) :
    Calls Tryz.prog 98 #[.pointer (some ⟨b, o, none⟩), .bool m] w (DoesJ w b o D (shutJ m st).1) := by
  obtain ⟨M, hG, hM, hW, hD⟩ := h
  match st, hG, hM, hW with
  | [], hG, _, hW =>
    refine (shut_none hG m).mono ?_; rintro r w' ⟨rfl, rfl⟩; exact does_bad 2 (Sub.refl _ _ _ _)
  | ⟨x, p⟩ :: r, hG, hM, hW =>
    have hl := hW.2.1; simp only [List.length_cons] at hl; have hm : M r.length = x := hM.1; have hw := wf_shut hW m; by_cases hx : x = m
    · subst hx
      have hpp := hW.2.2.1; simp only at hpp; by_cases hc : p = 0 ∨ p = if x = true then 3 else 1
      · have e : shutJ x (⟨x, p⟩ :: r) = (.at_ r (doneJ r), [evEnd]) := if_pos ⟨rfl, hc⟩
        rw [e] at hw ⊢; refine (shut_yes (k := r.length) hG (by omega) x hm ?_).mono ?_
        · cases x <;> simp only [plJ] at hc ⊢ <;> rcases hc with rfl | rfl <;> simp
        rintro r' w' ⟨rfl, hs, hg⟩; exact ⟨rfl, hs, gj_mk hg (pl_done r hW.2.2.2) rfl hM.2 hw hD⟩
      · have e : shutJ x (⟨x, p⟩ :: r) = (.bad 2, []) := if_neg (fun h => hc h.2)
        rw [e]; have hpl : plJ (⟨x, p⟩ :: r) dn ≠ 5 ∧ plJ (⟨x, p⟩ :: r) dn ≠ 1 ∧ plJ (⟨x, p⟩ :: r) dn ≠ 3 := by
          cases x <;> simp at hc hpp <;> simp only [plJ] <;> repeat' (first | omega | split)
        refine (shut_place (k := r.length) hG (by omega) x hm hpl.1 hpl.2.1 hpl.2.2).mono ?_; rintro r w' ⟨rfl, q, rfl⟩; exact does_bad 2 (sub_dr _ _ _ _ _)
    · have e : shutJ m (⟨x, p⟩ :: r) = (.bad 2, []) := if_neg (fun h => hx h.1)
      rw [e]; refine (shut_kind (k := r.length) hG (by omega) m (by rw [hm]; exact hx)).mono ?_; rintro r w' ⟨rfl, q, rfl⟩; exact does_bad 2 (sub_dr _ _ _ _ _)
theorem ready_pl {D : Nat} {st : List FrJ} {dn : Bool} (h : WfJ D st dn) : readyJ st dn = true ↔ plJ st dn = 0 ∨ plJ st dn = 1 := by
  match st, h with
  | [], _ => cases dn <;> simp [readyJ, plJ]
  | ⟨false, p⟩ :: r, h =>
    have hp : p ≤ 2 := h.2.2.1; simp only [readyJ, plJ, Bool.or_eq_true, beq_iff_eq]
    repeat' split
    all_goals omega
  | ⟨true, p⟩ :: r, h =>
    have hp : p ≤ 4 := h.2.2.1; simp only [readyJ, plJ, beq_iff_eq]
    repeat' split
    all_goals omega
theorem value_gj {w : World} {b o D : Nat} {st : List FrJ} {dn : Bool} (h : GJ w b o D st dn) (e : Ev) (v : Value) (hv : v = .nilIface ∨ ∃ d x, v = .iface d x ∧ d ≠ 163) :
    Calls Tryz.prog 100 #[.pointer (some ⟨b, o, none⟩), v] w (DoesJ w b o D (valJ st dn e).1) := by
  obtain ⟨M, hG, hM, hW, hD⟩ := h; have hw := wf_val hW e; unfold valJ at hw ⊢; by_cases hr : readyJ st dn = true
  · rw [if_pos hr] at hw ⊢
    refine (value_plain hG ((ready_pl hW).1 hr) v hv).mono ?_; rintro r w' ⟨rfl, hs, hg⟩; exact ⟨rfl, hs, gj_mk hg (pl_paid st) (paid_len st).symm hM.paid hw hD⟩
  · rw [if_neg hr]
    have hp : ¬ (plJ st dn = 0 ∨ plJ st dn = 1) := fun h => hr ((ready_pl hW).2 h)
    refine (value_place hG (fun h => hp (.inl h)) (fun h => hp (.inr h)) v).mono ?_; rintro r w' ⟨rfl, rfl⟩; exact does_bad 2 (Sub.refl _ _ _ _)
theorem open_gj {w : World} {b o D : Nat} {st : List FrJ} {dn : Bool} (h : GJ w b o D st dn) (m : Bool) (e : Ev) (c : Int) :
    Calls Tryz.prog 100 #[.pointer (some ⟨b, o, none⟩), .iface 163 (.agg #[.bool m, .int .i64 c])] w (DoesJ w b o D (openJ D st dn m e).1) := by
  obtain ⟨M, hG, hM, hW, hD⟩ := h; have hw := wf_open hW m e; have hl := hW.2.1; unfold openJ at hw ⊢; by_cases hr : readyJ st dn = true
  · rw [if_pos hr] at hw ⊢
    refine (value_begin hG ((ready_pl hW).1 hr) hl hD m c).mono ?_; rintro r w' ⟨rfl, hs, hg⟩; by_cases hd : D ≤ st.length
    · rw [if_pos hd]
      have e2 : st.length = D := by omega
      rw [if_pos e2]; exact does_bad 4 hs
    · rw [if_neg hd] at hw ⊢
      have e2 : st.length ≠ D := by omega
      rw [if_neg e2]; refine ⟨rfl, hs, gj_mk (hg e2) ?_ ?_ ⟨?_, ?_⟩ hw hD⟩
      · cases m <;> rfl
      · simp [paid_len]
      · show updM M st.length m (paidJ st).length = m
        simp [updM, paid_len]
      · exact MapJ.set (by rw [paid_len]; exact Nat.le_refl _) hM.paid
  · rw [if_neg hr]
    have hp : ¬ (plJ st dn = 0 ∨ plJ st dn = 1) := fun h => hr ((ready_pl hW).2 h)
    refine (value_place hG (fun h => hp (.inl h)) (fun h => hp (.inr h)) _).mono ?_; rintro r w' ⟨rfl, rfl⟩; exact does_bad 2 (Sub.refl _ _ _ _)
end
section
open Go.RowKit
open Go.Lib
theorem jtake_colon {w : World} {b o D : Nat} {p : Pj} (v : Value) (h : Calls Tryz.prog 96 #[.pointer (some ⟨b, o, none⟩)] w (DoesJ w b o D p)) :
    Calls Tryz.prog 92 #[.pointer (some ⟨b, o, none⟩), .int .u8 58, v] w (DoesJ w b o D p) := by
  have H := hid h; clear h; go_enter Tryz.func92, Tryz.ntmps92; (go_wp2_with fail); refine H.out.mono ?_; rintro r w1 ⟨rfl, h1⟩; have H1 := hid h1; clear h1; obtain ⟨E, hE⟩ : ∃ E : Nat, errP p = E := ⟨_, rfl⟩
  have HE := hid hE; rw [hE]; clear hE; go_wp2; go_ret; exact ⟨by rw [HE.out]; rfl, H1.out⟩
theorem jtake_comma {w : World} {b o D : Nat} {p : Pj} (v : Value) (h : Calls Tryz.prog 97 #[.pointer (some ⟨b, o, none⟩)] w (DoesJ w b o D p)) :
    Calls Tryz.prog 92 #[.pointer (some ⟨b, o, none⟩), .int .u8 44, v] w (DoesJ w b o D p) := by
  have H := hid h; clear h; go_enter Tryz.func92, Tryz.ntmps92; (go_wp2_with fail); refine H.out.mono ?_; rintro r w1 ⟨rfl, h1⟩; have H1 := hid h1; clear h1; obtain ⟨E, hE⟩ : ∃ E : Nat, errP p = E := ⟨_, rfl⟩
  have HE := hid hE; rw [hE]; clear hE; go_wp2; go_ret; exact ⟨by rw [HE.out]; rfl, H1.out⟩
theorem jtake_shut {w : World} {b o D : Nat} {p : Pj} (m : Bool) (v : Value) (h : Calls Tryz.prog 98 #[.pointer (some ⟨b, o, none⟩), .bool m] w (DoesJ w b o D p)) :
    Calls Tryz.prog 92 #[.pointer (some ⟨b, o, none⟩), .int .u8 (if m = true then 125 else 93), v] w (DoesJ w b o D p) := by
  have H := hid h; clear h; cases m
  all_goals
    simp only [if_true, Bool.false_eq_true, if_false]; go_enter Tryz.func92, Tryz.ntmps92; (go_wp2_with fail); refine H.out.mono ?_; rintro r w1 ⟨rfl, h1⟩; have H1 := hid h1; clear h1; obtain ⟨E, hE⟩ : ∃ E : Nat, errP p = E := ⟨_, rfl⟩
    have HE := hid hE; rw [hE]; clear hE; go_wp2; go_ret; exact ⟨by rw [HE.out]; rfl, H1.out⟩
theorem jtake_val {w : World} {b o D pl k : Nat} {M : Nat → Bool} {p : Pj} (hG : GAt w b o D pl k M) (h2 : pl ≠ 2) (h3 : pl ≠ 3) (K : Int) (k1 : (K == 58) = false) (k2 : (K == 44) = false) (k3 : (K == 93) = false) (k4 : (K == 125) = false) (v : Value)
    (h : Calls Tryz.prog 100 #[.pointer (some ⟨b, o, none⟩), v] w (DoesJ w b o D p)) :
    Calls Tryz.prog 92 #[.pointer (some ⟨b, o, none⟩), .int .u8 K, v] w (DoesJ w b o D p) := by
  have H := hid h; have c1 := hG.plc; have z2 : ((pl : Int) == 2) = false := by simp; omega
  have z3 : ((pl : Int) == 3) = false := by simp; omega
  clear h h2 h3 hG; go_enter Tryz.func92, Tryz.ntmps92; (go_wp2_with fail); refine H.out.mono ?_; rintro r w1 ⟨rfl, h1⟩; have H1 := hid h1; clear h1; obtain ⟨E, hE⟩ : ∃ E : Nat, errP p = E := ⟨_, rfl⟩
  have HE := hid hE; rw [hE]; clear hE; go_wp2; go_ret; exact ⟨by rw [HE.out]; rfl, H1.out⟩
theorem jtake_key {w : World} {b o D pl k : Nat} {M : Nat → Bool} {p : Pj} (hG : GAt w b o D pl k M) (h2 : pl = 2 ∨ pl = 3) (K : Int) (k1 : (K == 58) = false) (k2 : (K == 44) = false) (k3 : (K == 93) = false) (k4 : (K == 125) = false) (v : Value)
    (h : Calls Tryz.prog 99 #[.pointer (some ⟨b, o, none⟩), v] w (DoesJ w b o D p)) :
    Calls Tryz.prog 92 #[.pointer (some ⟨b, o, none⟩), .int .u8 K, v] w (DoesJ w b o D p) := by
  have H := hid h; have c1 := hG.plc; clear h hG; rcases h2 with rfl | rfl
  all_goals
    go_enter Tryz.func92, Tryz.ntmps92; (go_wp2_with fail); refine H.out.mono ?_; rintro r w1 ⟨rfl, h1⟩; have H1 := hid h1; clear h1; obtain ⟨E, hE⟩ : ∃ E : Nat, errP p = E := ⟨_, rfl⟩
    have HE := hid hE; rw [hE]; clear hE; go_wp2; go_ret; exact ⟨by rw [HE.out]; rfl, H1.out⟩
theorem pl_key {D : Nat} {st : List FrJ} {dn : Bool} (h : WfJ D st dn) (hp : plJ st dn = 2 ∨ plJ st dn = 3) : ∃ p r, st = ⟨true, p⟩ :: r ∧ (p = 0 ∨ p = 4) := by
  match st, h with
  | [], _ => cases dn <;> simp [plJ] at hp
  | ⟨false, p⟩ :: r, h =>
    have hq : p ≤ 2 := h.2.2.1; have hc : p = 0 ∨ p = 1 ∨ p = 2 := by omega
    rcases hc with rfl | rfl | rfl <;> simp [plJ] at hp
  | ⟨true, p⟩ :: r, h =>
    have hq : p ≤ 4 := h.2.2.1; refine ⟨p, r, rfl, ?_⟩; have hc : p = 0 ∨ p = 1 ∨ p = 2 ∨ p = 3 ∨ p = 4 := by omega
    rcases hc with rfl | rfl | rfl | rfl | rfl <;> simp [plJ] at hp ⊢
theorem key_bad {D : Nat} {st : List FrJ} {dn : Bool} (h : WfJ D st dn) (hp : plJ st dn = 2 ∨ plJ st dn = 3) : readyJ st dn = false := by
  obtain ⟨p, r, rfl, h0 | h0⟩ := pl_key h hp <;> subst h0 <;> rfl
theorem key_at_no {w : World} {b o D : Nat} (v : Value) (hv : v = .nilIface ∨ ∃ d x, v = .iface d x ∧ d ≠ 176) (p : Pj) (hp : p = .bad 2) :
    Calls Tryz.prog 99 #[.pointer (some ⟨b, o, none⟩), v] w (DoesJ w b o D p) := by
  subst hp; refine (key_no v hv).mono ?_; rintro r w' ⟨rfl, rfl⟩; exact does_bad 2 (Sub.refl _ _ _ _)
theorem key_at_yes {w : World} {b o D : Nat} {st : List FrJ} {dn : Bool} (h : GJ w b o D st dn) (hp : plJ st dn = 2 ∨ plJ st dn = 3) (t : List UInt8) :
    Calls Tryz.prog 99 #[.pointer (some ⟨b, o, none⟩), .iface 176 (.string ⟨t.toArray⟩)] w (DoesJ w b o D (strJ st dn t).1) := by
  obtain ⟨M, hG, hM, hW, hD⟩ := h; have hw := wf_str hW t; obtain ⟨p, r, rfl, h0 | h0⟩ := pl_key hW hp
  all_goals
    subst h0; refine (key_yes hG ⟨t.toArray⟩).mono ?_; rintro r' w' ⟨rfl, rfl⟩; exact ⟨rfl, sub_pl _ _ _ _, gj_mk (hG.setPl 4) rfl rfl hM hw hD⟩
theorem str_val {st : List FrJ} {dn : Bool} {D : Nat} (h : WfJ D st dn) (hp : ¬ (plJ st dn = 2 ∨ plJ st dn = 3)) (t : List UInt8) : strJ st dn t = valJ st dn (evText t) := by
  unfold strJ; split
  · exact absurd (.inr rfl) hp
  · exact absurd (.inl rfl) hp
  · rfl
theorem jtake_at {w : World} {b o D : Nat} {st : List FrJ} {dn : Bool} (h : GJ w b o D st dn) (t : Tk) (hk : KindT t) :
    Calls Tryz.prog 92 #[.pointer (some ⟨b, o, none⟩), .int .u8 t.k, partV t] w (DoesJ w b o D (tokJ D (.at_ st dn) t).1) := by
  have h0 := h; obtain ⟨M, hG, hM, hW, hD⟩ := h0; have vals : ∀ (e : Ev) (v : Value) (K : Int), (K == 58) = false → (K == 44) = false → (K == 93) = false → (K == 125) = false → (v = .nilIface ∨ ∃ d x, v = .iface d x ∧ d ≠ 163 ∧ d ≠ 176) →
      Calls Tryz.prog 92 #[.pointer (some ⟨b, o, none⟩), .int .u8 K, v] w (DoesJ w b o D (valJ st dn e).1) := by
    intro e v K k1 k2 k3 k4 hv; by_cases hp : plJ st dn = 2 ∨ plJ st dn = 3
    · refine jtake_key hG hp K k1 k2 k3 k4 v (key_at_no v ?_ _ ?_)
      · rcases hv with hv | ⟨d, x, hv, _, hd⟩
        · exact .inl hv
        · exact .inr ⟨d, x, hv, hd⟩
      · unfold valJ; rw [if_neg (by rw [key_bad hW hp]; decide)]
    · refine jtake_val hG (fun h => hp (.inl h)) (fun h => hp (.inr h)) K k1 k2 k3 k4 v (value_gj h e v ?_)
      rcases hv with hv | ⟨d, x, hv, hd, _⟩
      · exact .inl hv
      · exact .inr ⟨d, x, hv, hd⟩
  have opens : ∀ (m : Bool) (K : Int), (K == 58) = false → (K == 44) = false → (K == 93) = false → (K == 125) = false →
      Calls Tryz.prog 92 #[.pointer (some ⟨b, o, none⟩), .int .u8 K, valE (evOpen m)] w (DoesJ w b o D (openJ D st dn m (evOpen m)).1) := by
    intro m K k1 k2 k3 k4; have hv : valE (evOpen m) = .iface 163 (.agg #[.bool m, .int .i64 (-1)]) := by cases m <;> rfl
    rw [hv]; by_cases hp : plJ st dn = 2 ∨ plJ st dn = 3
    · refine jtake_key hG hp K k1 k2 k3 k4 _ (key_at_no _ (.inr ⟨163, _, rfl, by decide⟩) _ ?_)
      unfold openJ; rw [if_neg (by rw [key_bad hW hp]; decide)]
    · exact jtake_val hG (fun h => hp (.inl h)) (fun h => hp (.inr h)) K k1 k2 k3 k4 _ (open_gj h m (evOpen m) (-1))
  obtain ⟨k, x, n⟩ := t; rcases hk.1 with hh | hh | hh | hh | hh | hh | hh | hh | hh | hh | hh
  all_goals simp only at hh; subst hh
  · exact jtake_comma _ (comma_gj h)
  · exact jtake_colon _ (colon_gj h)
  · exact jtake_shut false _ (shut_gj h false)
  · exact jtake_shut true _ (shut_gj h true)
  · exact opens false _ rfl rfl rfl rfl
  · exact opens true _ rfl rfl rfl rfl
  · show Calls _ _ #[_, .int .u8 115, .iface 176 (.string ⟨x.toArray⟩)] w (DoesJ w b o D (strJ st dn x).1)
    by_cases hp : plJ st dn = 2 ∨ plJ st dn = 3
    · exact jtake_key hG hp _ rfl rfl rfl rfl _ (key_at_yes h hp x)
    · rw [str_val hW hp]
      exact jtake_val hG (fun h => hp (.inl h)) (fun h => hp (.inr h)) _ rfl rfl rfl rfl _ (value_gj h _ _ (.inr ⟨176, _, rfl, by decide⟩))
  · exact vals (evNum n) _ _ rfl rfl rfl rfl (.inr ⟨123, _, rfl, by decide, by decide⟩)
  · exact vals (evBool true) _ _ rfl rfl rfl rfl (.inr ⟨4, _, rfl, by decide, by decide⟩)
  · exact vals (evBool false) _ _ rfl rfl rfl rfl (.inr ⟨4, _, rfl, by decide, by decide⟩)
  · exact vals evNull _ _ rfl rfl rfl rfl (.inl rfl)
end
section
open Go.RowKit
open Go.Lib
def pre (E : Nat → Ev) (j : Nat) : List Ev := (List.range j).map E
def evsC : List Ev → List Value
  | [] => []
  | e :: r => evCells e ++ evsC r
theorem evsC_length (L : List Ev) : (evsC L).length = L.length * 5 := by
  induction L with
  | nil => rfl
  | cons e L ih =>
    rw [evsC, List.length_append, ih]; simp [evCells]; omega
theorem evsC_one (L : List Ev) : ∀ u ∈ evsC L, u.oneCell' = true := by
  induction L with
  | nil => intro u h; simp [evsC] at h
  | cons e L ih =>
    intro u h; rw [evsC, List.mem_append] at h; rcases h with h | h
    · simp [evCells] at h
      rcases h with rfl | rfl | rfl | rfl | rfl <;> rfl
    · exact ih u h
def getE (L : List Ev) (i : Nat) : Ev := L[i]?.getD evZ
theorem evsC_get (L : List Ev) : ∀ (i j : Nat), i < L.length → j < 5 → (evsC L)[i * 5 + j]? = (evCells (getE L i))[j]? := by
  induction L with
  | nil => intro i j h; simp at h
  | cons e L ih =>
    intro i j hi hj; rw [evsC]; cases i with
    | zero =>
      rw [List.getElem?_append_left (by simp [evCells]; omega)]; simp [getE]
    | succ i =>
      rw [List.getElem?_append_right (by simp [evCells]; omega)]; have h1 : (i + 1) * 5 + j - (evCells e).length = i * 5 + j := by simp [evCells]; omega
      rw [h1, ih i j (by simpa using hi) hj]; simp [getE]
theorem pre_length (E : Nat → Ev) (n : Nat) : (pre E n).length = n := by simp [pre]
theorem getE_pre (E : Nat → Ev) (n i : Nat) (h : i < n) : getE (pre E n) i = E i := by simp [getE, pre, h]
def Made (w0 w : World) (v : Value) (n : Nat) (L : List Ev) : Prop := Below w0.heap.size w0 w ∧ Win w 43 5 v n (evsC L) ∧ ∀ k ∈ Value.owner v, w0.heap.size ≤ k
end
section
open Go.RowKit
open Go.Lib
theorem info_any : (Tryz.prog.info? 20).map (fun i => (i.zero, i.size, i.bytes)) = some (some .nilIface, 1, 16) := by kernel_rfl
structure Vls (w0 w : World) (v : Value) (L : List Ev) : Prop where
  win : Win w 20 1 v L.length (L.map valE)
  new : ∀ k ∈ Value.owner v, w0.heap.size ≤ k
theorem Vls.nil_ (w0 w : World) : Vls w0 w (.slice none 0 0) [] := ⟨Win.nil_ _ _ _, fun k hk => by simp [Value.owner] at hk⟩
theorem Vls.keep {w0 w w' : World} {v : Value} {L : List Ev} (h : Vls w0 w v L) (hk : ∀ k, k < w.heap.size → w0.heap.size ≤ k → w'.heap[k]? = w.heap[k]?) : Vls w0 w' v L :=
  ⟨h.win.keep fun k ho => hk k (h.win.lt k ho) (h.new k ho), h.new⟩
theorem Vls.go {w0 w w' : World} {v : Value} {L : List Ev} (h : Vls w0 w v L) (k : Below w.heap.size w w') : Vls w0 w' v L := h.keep fun i hi _ => k.block i hi
theorem Vls.sub {w0 w w' : World} {v : Value} {L : List Ev} {b o n : Nat} (h : Vls w0 w v L) (k : Sub b o n w w') (hb : b < w0.heap.size) : Vls w0 w' v L :=
  h.keep fun i hi h0 => k.step.block i hi (by simp only [List.mem_singleton]; omega)
theorem Vls.old {w0 w1 w : World} {v : Value} {L : List Ev} (h : Vls w0 w v L) (hs : w1.heap.size ≤ w0.heap.size) : Vls w1 w v L := ⟨h.win, fun k hk => Nat.le_trans hs (h.new k hk)⟩
theorem Vls.form {w0 w : World} {v : Value} {L : List Ev} (h : Vls w0 w v L) : ∃ a c, v = .slice a L.length c := by
  obtain ⟨a, c, h, _, _⟩ := h.win.slice_form; exact ⟨a, c, h⟩
theorem vals_one (L : List Ev) : ∀ u ∈ L.map valE, u.oneCell' = true := by
  intro u hu; obtain ⟨e, _, rfl⟩ := List.mem_map.1 hu; unfold valE
  repeat' split
  all_goals rfl
theorem vls_more {w0 w w2 : World} {v v' : Value} {L K : List Ev} {n m : Nat} (h : Vls w0 w v L) (hn : L.length = n) (hm : K.length = m) (hs : w0.heap.size ≤ w.heap.size) (hW : Win w2 20 1 v' (n + m) (L.map valE ++ K.map valE))
    (hO : v'.ownBlock = v.ownBlock ∨ v'.ownBlock = some w.heap.size ∧ w.heap.size < w2.heap.size) : Vls w0 w2 v' (L ++ K) := by
  refine ⟨by rw [List.length_append, List.map_append, hn, hm]; exact hW, fun k hk => ?_⟩; rcases hO with e | ⟨e, _⟩
  · exact h.new k ((ob_iff _ _).1 (e ▸ (ob_iff _ _).2 hk))
  · have := (ob_iff _ _).2 hk
    rw [e] at this; cases this; exact hs
end
section
open Go.RowKit
open Go.Lib
theorem toksJ_append (D : Nat) : ∀ (a b : List Tk) (p : Pj), toksJ D p (a ++ b) = ((toksJ D (toksJ D p a).1 b).1, (toksJ D p a).2 ++ (toksJ D (toksJ D p a).1 b).2)
  | [], b, p => by simp [toksJ]
  | t :: a, b, p => by simp only [List.cons_append, toksJ, toksJ_append D a b, List.append_assoc]
theorem getT_eq {ts : List Tk} {j : Nat} (h : j < ts.length) : ts[j] = getT ts j := by simp [getT, h]
theorem toks_at {D : Nat} {p q : Pj} {ts : List Tk} {L : List Ev} {j : Nat} (hj : j < ts.length) (h : toksJ D p (ts.take j) = (q, L)) :
    toksJ D p (ts.take (j + 1)) = ((tokJ D q (getT ts j)).1, L ++ (tokJ D q (getT ts j)).2) := by
  rw [List.take_add_one, List.getElem?_eq_getElem hj, getT_eq hj, toksJ_append, h]; simp only [Option.toList_some, toks_one]
theorem toks_stop {D e : Nat} {p : Pj} {ts : List Tk} {L : List Ev} {j : Nat} (h : toksJ D p (ts.take j) = (.bad e, L)) : toksJ D p ts = (.bad e, L) := by
  have := toksJ_append D (ts.take j) (ts.drop j) p; rw [List.take_append_drop, h, toks_bad] at this; simpa using this
theorem GJ.below {w w' : World} {b o D : Nat} {st : List FrJ} {dn : Bool} (h : GJ w b o D st dn) (k : Below w.heap.size w w') : GJ w' b o D st dn := by
  obtain ⟨M, hG, r⟩ := h; exact ⟨M, hG.below k, r⟩
theorem GJ.room {w : World} {b o D : Nat} {st : List FrJ} {dn : Bool} (h : GJ w b o D st dn) : Room w b o 38 := by
  obtain ⟨M, hG, r⟩ := h; exact hG.room
structure RdJ (w0 w wr : World) (b o D : Nat) (st : List FrJ) (dn : Bool) (ts : List Tk) (v : Value) (j : Nat) (u : Value) (st' : List FrJ) (dn' : Bool) (L : List Ev) : Prop where
  toks : Tks w0 wr v ts
  own : ∀ k ∈ Value.owner v, k < w.heap.size
  at_ : toksJ D (.at_ st dn) (ts.take j) = (.at_ st' dn', L)
  vls : Vls w wr u L
  gj : GJ wr b o D st' dn'
  sub : Sub b (o + 20) 18 w wr
  len : L.length ≤ j
def endE (q : Pj) (E : Nat) : Nat := match q with
  | .bad e => e
  | .at_ _ _ => E
structure ReadJ (w w' : World) (b o D : Nat) (q : Pj × List Ev) (E : Nat) (r : Ending) : Prop where
  tells : ∃ u, r = .returned (.tuple #[u, .int .i64 (endE q.1 E)]) ∧ Vls w w' u q.2
  sub : Sub b (o + 20) 18 w w'
  out : OutJ w' b o D q.1
theorem partV_form (t : Tk) : partV t = .nilIface ∨ ∃ d x, partV t = .iface d x := by
  unfold partV; cases partE t with
  | none => exact .inl rfl
  | some e =>
    simp only; unfold valE
    repeat' split
    all_goals first | exact .inl rfl | exact .inr ⟨_, _, rfl⟩
theorem read_at {w0 w : World} {b o D : Nat} {st : List FrJ} {dn : Bool} (h : GJ w b o D st dn) {ts : List Tk} {v : Value} (hT : Tks w0 w v ts) (hb : b < w0.heap.size) (hw : w0.heap.size ≤ w.heap.size) (hk : ∀ t ∈ ts, KindT t) (hn : ts.length ≤ 900) (E : Nat) :
    Calls Tryz.prog 86 #[.pointer (some ⟨b, o, none⟩), v, .int .i64 E] w fun r w' => ReadJ w w' b o D (toksJ D (.at_ st dn) ts) E r := by
  obtain ⟨a, c, rfl⟩ := hT.form; have H0 : Hid (RdJ w0 w w b o D st dn ts (.slice a ts.length c) 0 (.slice none 0 0) st dn []) := hid ⟨hT, hT.win.lt, by simp [toksJ], Vls.nil_ _ _, h, Sub.refl _ _ _ _, by simp⟩; have HB := hid hb; have HW := hid hw; have HK := hid hk; have HN := hid hn; clear hT hb hw hk hn h; obtain ⟨n, hnn⟩ : ∃ n, ts.length = n := ⟨_, rfl⟩
  have HNN := hid hnn; rw [hnn] at H0 ⊢; have hn9 : n ≤ 900 := by have := HN.out; omega
  clear hnn; go_enter Tryz.func86, Tryz.ntmps86; go_wp2
  go_loopw [8, 10, 11, 12, 13, 16] (fun u _ _ _ _ i wr => ∃ (j : Nat) (st' : List FrJ) (dn' : Bool) (L : List Ev), i = .int .i64 j ∧ j ≤ n ∧ Hid (RdJ w0 w wr b o D st dn ts (.slice a n c) j u st' dn' L)) (fun _ _ _ _ _ i _ => n - (RowKit.intOf i).toNat)
  case atStart => exact ⟨0, st, dn, [], rfl, by omega, H0⟩
  case round =>
    obtain ⟨j, st', dn', L, rfl, hj, HR⟩ := hrel; clear H0; by_cases hlt : j < n
    · have hjt : j < ts.length := by rw [HNN.out]; exact hlt
      obtain ⟨g, off, c', hv, x0, x1, x2, x3⟩ := HR.out.toks.cells hjt; obtain ⟨ua, uc, rfl⟩ := HR.out.vls.form; have hkt := HK.out _ (List.getElem_mem hjt); rw [getT_eq hjt] at hkt; have hq := toks_at hjt HR.out.at_; have hp := tok_part D st' dn' (getT ts j) hkt; have hwq : WfP D (tokJ D (.at_ st' dn') (getT ts j)).1 := wf_tok (by obtain ⟨M, _, _, h, _⟩ := HR.out.gj; exact h) _; have hP := fun W => part_of (getT ts j) hkt W
      have hTk := fun W (h : GJ W b o D st' dn') => jtake_at h (getT ts j) hkt
      have hL1 := HR.out.len; have hL2 : L.length ≤ 900 := by have := HN.out; omega
      obtain ⟨m, hm⟩ : ∃ m, L.length = m := ⟨_, rfl⟩
      have hform := partV_form (getT ts j); generalize getT ts j = t at *
      generalize hV : partV t = V at *
      obtain ⟨e, hS⟩ : ∃ e, partE t = e := ⟨_, rfl⟩
      rw [hS] at hP hp; have hVe : ∀ x, e = some x → V = valE x := by
        rintro x rfl; rw [← hV]; unfold partV; rw [hS]
      generalize hQ : tokJ D (.at_ st' dn') t = Q at *
      obtain ⟨q, qs⟩ := Q; simp only at hq hp hwq hTk; simp only [Value.slice.injEq] at hv; obtain ⟨rfl, hvn, rfl⟩ := hv; clear hvn; unfold tkV at hP; obtain ⟨k, tx, n1, n2⟩ := t; simp only at x0 x1 x2 x3 hP hTk; generalize (k : Int) = kk at *
      generalize (⟨tx.toArray⟩ : ByteArray) = X at *
      generalize (n2 : Int) = nn2 at *
      have HP := hid hP; have HT := hid hTk; have HQ := hid hq; have HPP := hid hp; have HVE := hid hVe; have HL := hid (And.intro hm (And.intro hL1 hL2)); rw [hm]; clear hkt hq hp hP hTk hQ hV hS hVe hL1 hL2 hjt hm; (go_wp2_with fail); refine (HP.out _).mono ?_; rintro r w1 ⟨rfl, b1⟩; have hb0 := up_trans (up_alloc (Below.refl _ wr) (.cells #[.int .u8 kk, .string X, .bool n1, .int .u64 nn2] 201)) b1; have c0 := ((blk_new wr #[.int .u8 kk, .string X, .bool n1, .int .u64 nn2] 201).go b1).cell 0; have hG1 := HR.out.gj.below hb0; have HB1 := hid hb0; have HG1 := hid hG1; simp only [List.getElem?_toArray, List.getElem?_cons_zero] at c0; clear b1 hb0 hG1; (go_wp2_with fail); refine (HT.out _ HG1.out).mono ?_; rintro r w2 ⟨rfl, hs2, ho2⟩; have HS2 := hid hs2; have HO2 := hid ho2; clear hs2 ho2; have hbw : b < w.heap.size := Nat.lt_of_lt_of_le HB.out HW.out; have hbr : b < wr.heap.size := Nat.lt_of_lt_of_le hbw HR.out.sub.step.size; have hsub : Sub b (o + 20) 18 w w2 := (HR.out.sub.trans (sub_of_below HB1.out hbr _ _)).trans HS2.out; have hvls : Vls w w2 (.slice ua m uc) L := (HL.out.1 ▸ (HR.out.vls.go HB1.out)).sub HS2.out hbw; have htks : Tks w0 w2 (.slice (some ⟨g, off, none⟩) n c) ts := (HR.out.toks.go HB1.out).sub HS2.out HB.out; have HS3 := hid (And.intro hsub (And.intro hvls (And.intro htks (And.intro hbw hbr)))); clear hsub hvls htks hbw hbr; cases q with
      | bad x =>
        have hz : ((x : Int) != 0) = true := by have := hwq.1; simp; omega
        have HF : Hid (ReadJ w w2 b o D (toksJ D (.at_ st dn) ts) E (.returned (.tuple #[.slice ua m uc, .int .i64 x]))) := hid (by
          have h1 := HQ.out; have h2 := HPP.out; rw [if_neg (by exact hwq.1)] at h2; rw [h2, List.append_nil] at h1; rw [toks_stop h1]; exact ⟨⟨_, rfl, HS3.out.2.1⟩, HS3.out.1, trivial⟩)
        simp only [errP]; clear hwq; go_wp2; go_ret2; exact HF.out
      | at_ st2 dn2 =>
        have h2 : qs = e.toList := by simpa [errP] using HPP.out
        subst h2; simp only [errP]; cases e with
        | none =>
          have HN1 : Hid (RdJ w0 w w2 b o D st dn ts (.slice (some ⟨g, off, none⟩) n c) (j + 1) (.slice ua m uc) st2 dn2 L) := hid ⟨HS3.out.2.2.1, HR.out.own, by rw [HQ.out]; simp, HS3.out.2.1, HO2.out, HS3.out.1, by have := HL.out.2.1; omega⟩; simp only [Option.isSome]; clear hwq; go_wp2
          go_roundw
          case rel => exact ⟨j + 1, st2, dn2, L, rfl, hlt, HN1⟩
          case measure => simp [RowKit.intOf]; omega
        | some x =>
          simp only [Option.isSome]; have hVx := HVE.out x rfl; have hm9 : m ≤ 900 := by have := HL.out; omega
          have HNX : Hid (∀ v3 w4, Win w4 20 1 v3 (m + 1) (L.map valE ++ [V]) → (w2.alloc (.cells #[V] 20)).grownBy w4 (Value.slice ua m uc).ownBlock → (v3.ownBlock = (Value.slice ua m uc).ownBlock ∨ v3.ownBlock = some (w2.heap.size + 1) ∧ w2.heap.size + 1 < w4.heap.size) →
              RdJ w0 w w4 b o D st dn ts (.slice (some ⟨g, off, none⟩) n c) (j + 1) v3 st2 dn2 (L ++ [x])) := hid (by
            intro v3 w4 hW3 hG3 hO3; have hbw := HS3.out.2.2.2.1; have s2 : w.heap.size ≤ w2.heap.size := HS3.out.1.step.size; have s3 : w2.heap.size ≤ (w2.alloc (.cells #[V] 20)).heap.size := by simp
            have hrow : ∀ k, (Value.slice ua m uc).ownBlock = some k → w.heap.size ≤ k := fun k hk => HS3.out.2.1.new k ((ob_iff _ _).1 hk)
            have ha : Sub b (o + 20) 18 w (w2.alloc (.cells #[V] 20)) := HS3.out.1.alloc _ hbw; have hblk : ∀ k, k < w.heap.size → w4.heap[k]? = w2.heap[k]? := fun k hk => (hG3.block k (by omega) (fun e => by have := hrow k e.symm; omega)).trans (Below.heap_alloc w2 _ k (by omega))
            refine ⟨⟨HS3.out.2.2.1.win.keep fun k ho => hblk k (HR.out.own k ho), HS3.out.2.2.1.new⟩, HR.out.own, by rw [HQ.out]; rfl, ?_, ?_, sub_grown ha hG3 hbw hrow, ?_⟩
            · exact vls_more (w := w2.alloc (.cells #[V] 20)) (K := [x]) (HS3.out.2.1.keep fun i hi _ => Below.heap_alloc w2 _ i hi) HL.out.1 rfl (Nat.le_trans s2 s3) (by rw [hVx] at hW3; exact hW3) (by simpa using hO3)
            · obtain ⟨M, hG, r⟩ := HO2.out
              exact ⟨M, hG.keep (hblk b hbw), r⟩
            · have := HL.out.2.1
              simp only [List.length_append, List.length_cons, List.length_nil]; omega)
          have HWV : Hid (Win (w2.alloc (.cells #[V] 20)) 20 1 (.slice ua m uc) m (L.map valE)) := hid (by
            have := HS3.out.2.1.win.alloc (.cells #[V] 20)
            rwa [HL.out.1] at this)
          clear hwq hVx; rcases hform with rfl | ⟨d, z, rfl⟩
          all_goals
            go_wp2_with (at_builtin; refine wpList_append_win rfl _ _ _ rfl Tryz.underlying67 info_any rfl rfl HWV.out _ rfl 1 _ (src_one _ Tryz.underlying67 _ _ _ rfl ?e3) ?e1 ?e2 ?_)
            case e1 => unfold maxLen; omega
            case e2 => omega
            case e3 => rfl
            intro v3 w4 hW3 hG3 hO3; have HN1 := hid (HNX.out v3 w4 hW3.out hG3.out hO3.out); clear hW3 hG3 hO3; go_wp2
            go_roundw
            case rel => exact ⟨j + 1, st2, dn2, L ++ [x], rfl, hlt, HN1⟩
            case measure => simp [RowKit.intOf]; omega
    · obtain rfl : j = n := by omega
      have HF : Hid (ReadJ w wr b o D (toksJ D (.at_ st dn) ts) E (.returned (.tuple #[_, .int .i64 E]))) := hid (by
        have h1 := HR.out.at_; rw [List.take_of_length_le (by rw [HNN.out]; exact Nat.le_refl _)] at h1; rw [h1]; exact ⟨⟨_, rfl, HR.out.vls⟩, HR.out.sub, HR.out.gj⟩)
      go_wp2; go_ret2; exact HF.out
end
section
open Go.RowKit
open Go.Lib
theorem GJ.sub {w w' : World} {b o D o' n : Nat} {st : List FrJ} {dn : Bool} (h : GJ w b o D st dn) (k : Sub b o' n w w') (h1 : o + 2 ≤ o') (h2 : o' + n ≤ o + 20) : GJ w' b o D st dn := by
  obtain ⟨M, hG, r⟩ := h; exact ⟨M, ⟨hG.room.sub k, (k.cell _ (by omega)).trans hG.dep, (k.cell _ (by omega)).trans hG.plc, (k.cell _ (by omega)).trans hG.opn, fun i hi => (k.cell _ (by omega)).trans (hG.maps i hi)⟩, r⟩
abbrev paZ (e D : Int) : List Value := [.int .i64 e, .int .i64 D] ++ lxZ 0 ++ [.int .i64 0, .int .i64 0, .bool false, .bool false, .bool false, .bool false, .bool false, .bool false, .bool false, .bool false, .bool false, .bool false, .bool false, .bool false, .bool false, .bool false, .bool false, .bool false]
def PAt (w : World) (b o D : Nat) (s : Js) : Prop := (1 ≤ D ∧ D ≤ 16) ∧ match s.p with
  | .bad e => e ≠ 0 ∧ At w b o (paZ e D)
  | .at_ st dn => w.cell? ⟨b, o, none⟩ = some (.int .i64 0) ∧ LAt w b (o + 2) s.lx ∧ GJ w b o D st dn ∧ badX s.lx = none ∧ WfX s.lx
def j0 : Js := ⟨.idle, .at_ [] false⟩
theorem pat_zero {w : World} {b o D : Nat} (hD : 1 ≤ D ∧ D ≤ 16) (h : At w b o (paZ 0 D)) : PAt w b o D j0 := by
  have hl : At w b (o + 2) (lxZ 0) := At.right (vs := [.int .i64 0, .int .i64 D]) (us := lxZ 0) (At.left (vs := [.int .i64 0, .int .i64 D] ++ lxZ 0) h); refine ⟨hD, (h 0 _ rfl).1, hl, ⟨fun _ => false, ⟨h.room (by simp), (h 1 _ rfl).1, (h 20 _ rfl).1, (h 21 _ rfl).1, fun i hi => ?_⟩, trivial, ⟨fun h => (by cases h), by simp, trivial⟩, hD.2⟩, rfl, trivial⟩; have h3 : ∀ i, i < 16 → (paZ 0 D)[22 + i]? = some (.bool false) := by
    intro i hi; have hc : i = 0 ∨ i = 1 ∨ i = 2 ∨ i = 3 ∨ i = 4 ∨ i = 5 ∨ i = 6 ∨ i = 7 ∨ i = 8 ∨ i = 9 ∨ i = 10 ∨ i = 11 ∨ i = 12 ∨ i = 13 ∨ i = 14 ∨ i = 15 := by omega
    rcases hc with rfl | rfl | rfl | rfl | rfl | rfl | rfl | rfl | rfl | rfl | rfl | rfl | rfl | rfl | rfl | rfl <;> rfl
  have := (h (22 + i) _ (h3 i hi)).1
  rwa [← Nat.add_assoc] at this
theorem PAt.room {w : World} {b o D : Nat} {s : Js} (h : PAt w b o D s) : Room w b o 38 := by
  obtain ⟨hD, h⟩ := h; revert h; cases s.p with
  | bad e => exact fun h => h.2.room (by simp)
  | at_ st dn => exact fun h => h.2.2.1.room
theorem PAt.lt {w : World} {b o D : Nat} {s : Js} (h : PAt w b o D s) : b < w.heap.size := h.room.lt
theorem PAt.keep {w w' : World} {b o D : Nat} {s : Js} (h : PAt w b o D s) (hk : w'.heap[b]? = w.heap[b]?) : PAt w' b o D s := by
  obtain ⟨hD, h⟩ := h; refine ⟨hD, ?_⟩; revert h; cases s.p with
  | bad e => exact fun h => ⟨h.1, h.2.keep hk⟩
  | at_ st dn =>
    rintro ⟨h1, h2, ⟨M, hG, r⟩, h4⟩; exact ⟨by simpa only [World.cell?, hk] using h1, h2.keep hk, ⟨M, hG.keep hk, r⟩, h4⟩
theorem PAt.head {w : World} {b o D : Nat} {s : Js} (h : PAt w b o D s) : w.cell? ⟨b, o, none⟩ = some (.int .i64 (errP s.p)) ∧ w.cell? ⟨b, o + 1, none⟩ = some (.int .i64 D) := by
  obtain ⟨hD, h⟩ := h; revert h; cases s.p with
  | bad e => exact fun h => ⟨(h.2 0 _ rfl).1, (h.2 1 _ rfl).1⟩
  | at_ st dn =>
    rintro ⟨h1, h2, ⟨M, hG, r⟩, h4⟩; exact ⟨h1, hG.dep⟩
theorem jhad_at {w : World} {b o D : Nat} {s : Js} (h : PAt w b o D s) :
    Calls Tryz.prog 85 #[.pointer (some ⟨b, o, none⟩)] w fun r w' => r = .returned (.int .i64 (errP s.p)) ∧ w = w' := by
  obtain ⟨c0, c1⟩ := h.head; have hz : ((D : Int) == 0) = false := by have := h.1; simp; omega
  clear h; generalize (errP s.p : Int) = e at *
  go_enter Tryz.func85, Tryz.ntmps85; go_wp2; go_ret; exact ⟨rfl, rfl⟩
theorem jtold_ok (p v : Value) (w : World) : Calls Tryz.prog 88 #[p, v, .int .i64 0] w fun r w' => r = .returned (.tuple #[v, .int .i64 0]) ∧ w' = w := by
  go_enter Tryz.func88, Tryz.ntmps88; go_wp2; go_ret2; exact ⟨rfl, rfl⟩
theorem jtold_err {w : World} {b o D : Nat} (h : Room w b o 38) (hc : w.cell? ⟨b, o + 1, none⟩ = some (.int .i64 D)) (v : Value) (e : Nat) (he : e ≠ 0) :
    Calls Tryz.prog 88 #[.pointer (some ⟨b, o, none⟩), v, .int .i64 e] w fun r w' => r = .returned (.tuple #[v, .int .i64 e]) ∧ At w' b o (paZ e D) ∧ Sub b o 38 w w' := by
  have hz : ((e : Int) != 0) = true := by simp; omega
  have HT := hid h; clear h he; go_enter Tryz.func88, Tryz.ntmps88
  go_wp2_with (refine wpList_store_room rfl 134 _ _ rfl b o (paZ e D) rfl rfl HT.out (by kernel_rfl) (by kernel_rfl) ?_)
  intro w1 HP; go_wp2; go_ret2; exact ⟨rfl, HP.out⟩
theorem jdone_at {w : World} {b o D : Nat} {st : List FrJ} {dn : Bool} (h : GJ w b o D st dn) :
    Calls Tryz.prog 81 #[.pointer (some ⟨b, o, none⟩)] w fun r w' => r = .returned (.bool dn) ∧ w' = w := by
  obtain ⟨M, hG, hM, hW, hD⟩ := h; have c1 := hG.opn; have c2 := hG.plc
  match st, hW with
  | [], hW =>
    have c1' : w.cell? ⟨b, o + 21, none⟩ = some (.int .i64 0) := c1; clear hG hM hW hD c1; cases dn
    · have c2' : w.cell? ⟨b, o + 20, none⟩ = some (.int .i64 0) := c2
      clear c2; go_enter Tryz.func81, Tryz.ntmps81; go_wp2; go_ret; exact ⟨rfl, rfl⟩
    · have c2' : w.cell? ⟨b, o + 20, none⟩ = some (.int .i64 5) := c2
      clear c2; go_enter Tryz.func81, Tryz.ntmps81; go_wp2; go_ret; exact ⟨rfl, rfl⟩
  | f :: r, hW =>
    have hdn : dn = false := by
      cases dn
      · rfl
      · exact absurd (hW.1 rfl) (by simp)
    subst hdn; have hz : (((f :: r).length : Int) == 0) = false := by simp; omega
    clear hG hM hW hD c2; generalize ((f :: r).length : Int) = K at *
    go_enter Tryz.func81, Tryz.ntmps81; go_wp2; go_ret; exact ⟨rfl, rfl⟩
theorem jnew_any (D : Nat) (hD : 1 ≤ D ∧ D ≤ 16) (w : World) :
    Calls Tryz.prog 37 #[.int .i64 D] w fun r w' => r = .returned (.pointer (some ⟨w.heap.size, 0, none⟩)) ∧ PAt w' w.heap.size 0 D j0 ∧ Below w.heap.size w w' := by
  have h1 : ((D : Int) < 1) = False := by simp; omega
  have h2 : ((16 : Int) < (D : Int)) = False := by simp; omega
  have HP : Hid (PAt (w.alloc (.cells (paZ 0 D).toArray 134)) w.heap.size 0 D j0) := hid (pat_zero hD (at_block (heap_alloc_new w _))); clear hD; go_enter Tryz.func37, Tryz.ntmps37; go_wp2; go_ret; exact ⟨rfl, HP.out, up_alloc (Below.refl _ _) _⟩
end
section
open Go.RowKit
open Go.Lib
structure StepR (w w' : World) (b o D : Nat) (q : Js × List Ev) (r : Ending) : Prop where
  tells : ∃ u, r = .returned (.tuple #[u, .int .i64 (errP q.1.p)]) ∧ Vls w w' u q.2
  at_ : PAt w' b o D q.1
  sub : Sub b o 38 w w'
theorem step_cases (D : Nat) (lx : Lx) (st : List FrJ) (dn : Bool) (hW : WfJ D st dn) (hl : ∀ e, lx = .bad e → e ≠ 0) (y : UInt8) :
    (endE (toksJ D (.at_ st dn) (stepX lx y).2).1 (errX (stepX lx y).1) = 0 → badX (stepX lx y).1 = none ∧ stepJ D ⟨lx, .at_ st dn⟩ y = (⟨(stepX lx y).1, (toksJ D (.at_ st dn) (stepX lx y).2).1⟩, (toksJ D (.at_ st dn) (stepX lx y).2).2) ∧ ∃ st' dn', (toksJ D (.at_ st dn) (stepX lx y).2).1 = .at_ st' dn') ∧
    (endE (toksJ D (.at_ st dn) (stepX lx y).2).1 (errX (stepX lx y).1) ≠ 0 → (stepJ D ⟨lx, .at_ st dn⟩ y).2 = (toksJ D (.at_ st dn) (stepX lx y).2).2 ∧ (stepJ D ⟨lx, .at_ st dn⟩ y).1.p = .bad (endE (toksJ D (.at_ st dn) (stepX lx y).2).1 (errX (stepX lx y).1))) := by
  have hb := bare_step lx y; have hne : ∀ e, (stepX lx y).1 = .bad e → e ≠ 0 := by
    intro e he; by_cases hlb : badX lx = none
    · exact step_err hlb y (by rw [he]; rfl)
    · cases lx with
      | bad e' =>
        simp only [stepX, Lx.bad.injEq] at he; subst he; exact hl _ rfl
      | _ => exact absurd rfl hlb
  simp only [stepJ]; generalize stepX lx y = X at hb hne; obtain ⟨x1, x2⟩ := X; have wf := fun q (h : (toksJ D (.at_ st dn) x2).1 = q) => show WfP D q from h ▸ wf_toks x2 (p := .at_ st dn) hW
  cases x1 with
  | bad e =>
    have he := hne e rfl; obtain rfl : x2 = [] := by
      have := hb (by simpa [errX] using he); exact (Prod.mk.inj this).2
    simp only [toksJ, endE, errX, badX]; exact ⟨fun h => absurd h he, fun _ => ⟨trivial, trivial⟩⟩
  | idle | str _ _ | num _ | word _ _ =>
    simp only [badX, errX]; cases hq : (toksJ D (.at_ st dn) x2).1 with
    | bad e =>
      have := (wf _ hq).1; simp only [endE]; exact ⟨fun h => absurd h this, fun _ => ⟨trivial, trivial⟩⟩
    | at_ st' dn' =>
      simp only [endE]; exact ⟨fun _ => ⟨trivial, trivial, _, _, rfl⟩, fun h => absurd rfl h⟩
theorem toks_len (s : Lx) (y : UInt8) : (stepX s y).2.length ≤ 900 := by
  have start : ∀ x, (startX x).2.length ≤ 1 := by
    intro x; unfold startX
    repeat' split
    all_goals simp
  have h := start y.toNat
  match s with
  | .bad e => simp [stepX]
  | .idle => simp only [stepX]; omega
  | .str s t => simp only [stepX]; repeat' split
                all_goals simp
  | .num d =>
    simp only [stepX]
    repeat' split
    all_goals first | simp | skip
    generalize startX y.toNat = q at *
    obtain ⟨q1, q2⟩ := q; cases q1 <;> simp [tellX] at h ⊢ <;> omega
  | .word k [] => simp [stepX]
  | .word k (x :: q) =>
    simp only [stepX]
    repeat' split
    all_goals simp
theorem jstep_good {w : World} {b o D : Nat} {lx : Lx} {st : List FrJ} {dn : Bool} (h : PAt w b o D ⟨lx, .at_ st dn⟩) (y : UInt8) :
    Calls Tryz.prog 84 #[.pointer (some ⟨b, o, none⟩), .int .u8 y.toNat] w fun r w' => StepR w w' b o D (stepJ D ⟨lx, .at_ st dn⟩ y) r := by
  have h0 := h; obtain ⟨hD, c0, hL, hG, hb, hW⟩ := h0; have hbl := h.lt; obtain ⟨M, hg, hM, hWJ, hD2⟩ := hG; have hc := step_cases D lx st dn hWJ (fun e he => by rw [he] at hb; cases hb) y; have hS := lstep_at hL y; have hw := step_wf lx hW y; have hln := toks_len lx y; have HAD := hid (jhad_at h); generalize stepX lx y = X at *
  generalize stepJ D ⟨lx, .at_ st dn⟩ y = R at *
  obtain ⟨x1, x2⟩ := X; simp only at hc hS hw hln; generalize hE : Go.Proofs.YtkgconbdmnmbnaaGreat.errX x1 = E at *
  have HRD : Hid (∀ w1 v, Tks w w1 v x2 → Sub b (o + 2) 18 w w1 → Calls Tryz.prog 86 #[.pointer (some ⟨b, o, none⟩), v, .int .i64 E] w1 fun r w' => ReadJ w1 w' b o D (toksJ D (.at_ st dn) x2) E r) := hid (fun w1 v hT hs =>
    read_at (GJ.sub ⟨M, hg, hM, hWJ, hD2⟩ hs (by omega) (by omega)) hT hbl hs.step.size hw.2 hln E)
  generalize toksJ D (.at_ st dn) x2 = Q at *
  obtain ⟨q1, q2⟩ := Q; simp only at hc; obtain ⟨F, hF⟩ : ∃ F, endE q1 E = F := ⟨_, rfl⟩
  rw [hF] at hc; have HS := hid hS; have HC := hid hc; have HF := hid hF; have HL := hid (And.intro hL (And.intro hbl (And.intro hW (And.intro hD (And.intro hw.1 h.room))))); have HE := hid hE; have HDP := hid hg.dep; have HC0 := hid c0; clear hS hc hF hL hbl hb hW hD hw hln hg hM hWJ hD2 h c0 hE; simp only [errP] at HAD; by_cases hz : F = 0
  · go_enter Tryz.func84, Tryz.ntmps84
    (go_wp2_with fail); refine HAD.out.mono ?_; rintro r w1 ⟨rfl, rfl⟩; (go_wp2_with fail); refine HS.out.mono ?_; rintro r w1 ⟨v1, rfl, hT1, hL1, hs1⟩; have H1 := hid (And.intro hT1 (And.intro hL1 hs1)); clear hT1 hL1 hs1; (go_wp2_with fail); refine (HRD.out _ _ H1.out.1 H1.out.2.2).mono ?_; rintro r w2 ⟨⟨u, rfl, hV⟩, hs2, ho2⟩; simp only; rw [HF.out]; have H2 := hid (And.intro hV (And.intro hs2 ho2)); clear hV hs2 ho2; subst hz; (go_wp2_with fail); refine (jtold_ok _ u w2).mono ?_; rintro r w3 ⟨rfl, rfl⟩; go_wp2; go_ret2; obtain ⟨k1, k2, st', dn', k3⟩ := HC.out.1 trivial; rw [k2]; subst k3; have hs : Sub b o 38 w w3 := (H1.out.2.2.widen (by omega) (by omega)).trans (H2.out.2.1.widen (by omega) (by omega)); exact ⟨⟨_, rfl, H2.out.1.old H1.out.2.2.step.size⟩, ⟨HL.out.2.2.2.1, ((H2.out.2.1.cell _ (by omega)).trans (H1.out.2.2.cell _ (by omega))).trans HC0.out, H1.out.2.1.sub H2.out.2.1 (by omega), H2.out.2.2, k1, HL.out.2.2.2.2.1⟩, hs⟩
  · go_enter Tryz.func84, Tryz.ntmps84
    (go_wp2_with fail); refine HAD.out.mono ?_; rintro r w1 ⟨rfl, rfl⟩; (go_wp2_with fail); refine HS.out.mono ?_; rintro r w1 ⟨v1, rfl, hT1, hL1, hs1⟩; have H1 := hid (And.intro hT1 (And.intro hL1 hs1)); clear hT1 hL1 hs1; (go_wp2_with fail); refine (HRD.out _ _ H1.out.1 H1.out.2.2).mono ?_; rintro r w2 ⟨⟨u, rfl, hV⟩, hs2, ho2⟩; simp only; rw [HF.out]; have H2 := hid (And.intro hV hs2); clear hV hs2 ho2; have HT := hid (jtold_err (w := w2) (D := D) ((HL.out.2.2.2.2.2.sub H1.out.2.2).sub H2.out.2) (((H2.out.2.cell _ (by omega)).trans (H1.out.2.2.cell _ (by omega))).trans HDP.out) u F hz); (go_wp2_with fail); refine HT.out.mono ?_; rintro r w3 ⟨rfl, hA, hs3⟩; have H3 := hid (And.intro hA hs3); clear hA hs3; go_wp2; go_ret2; obtain ⟨k1, k2⟩ := HC.out.2 hz; have hs : Sub b o 38 w w3 := ((H1.out.2.2.widen (by omega) (by omega)).trans (H2.out.2.widen (by omega) (by omega))).trans H3.out.2; have hv : Vls w w3 u q2 := (H2.out.1.old H1.out.2.2.step.size).sub H3.out.2 HL.out.2.1; refine ⟨⟨_, by rw [k2]; rfl, by rw [k1]; exact hv⟩, ⟨HL.out.2.2.2.1, ?_⟩, hs⟩; rw [k2]; exact ⟨hz, H3.out.1⟩
theorem jstep_bad {w : World} {b o D e : Nat} {lx : Lx} (h : PAt w b o D ⟨lx, .bad e⟩) (y : UInt8) :
    Calls Tryz.prog 84 #[.pointer (some ⟨b, o, none⟩), .int .u8 y.toNat] w fun r w' => StepR w w' b o D (stepJ D ⟨lx, .bad e⟩ y) r := by
  have HAD := hid (jhad_at h); have HP := hid h; have hz : ((e : Int) != 0) = true := by have := h.2.1; simp; omega
  simp only [errP] at HAD; clear h; go_enter Tryz.func84, Tryz.ntmps84; (go_wp2_with fail); refine HAD.out.mono ?_; rintro r w1 ⟨rfl, rfl⟩; go_wp2; go_ret2; exact ⟨⟨_, rfl, Vls.nil_ _ _⟩, HP.out, Sub.refl _ _ _ _⟩
theorem jstep_at {w : World} {b o D : Nat} {s : Js} (h : PAt w b o D s) (y : UInt8) :
    Calls Tryz.prog 84 #[.pointer (some ⟨b, o, none⟩), .int .u8 y.toNat] w fun r w' => StepR w w' b o D (stepJ D s y) r := by
  obtain ⟨lx, p⟩ := s; cases p with
  | bad e => exact jstep_bad h y
  | at_ st dn => exact jstep_good h y
end
section
open Go.RowKit
open Go.Lib
structure EndR (w w' : World) (b o : Nat) (q : List Ev × Nat) (r : Ending) : Prop where
  tells : ∃ u, r = .returned (.tuple #[u, .int .i64 q.2]) ∧ Vls w w' u q.1
  sub : Sub b o 38 w w'
theorem end_nil (s : Lx) (h : (endX s).2 ≠ 0) : (endX s).1 = [] := by
  cases s with
  | num d =>
    simp only [endX] at h ⊢; split at h
    · rename_i h1; rw [if_pos h1]
    · exact absurd rfl h
  | _ => rfl
theorem end_len (s : Lx) : (endX s).1.length ≤ 900 := by
  cases s with
  | num d => simp only [endX]; split <;> simp
  | _ => simp [endX]
theorem end_cases (D : Nat) (lx : Lx) (st : List FrJ) (dn : Bool) (hW : WfJ D st dn) :
    (endE (toksJ D (.at_ st dn) (endX lx).1).1 (endX lx).2 = 0 → ∃ st' dn', (toksJ D (.at_ st dn) (endX lx).1).1 = .at_ st' dn' ∧ endJ D ⟨lx, .at_ st dn⟩ = ((toksJ D (.at_ st dn) (endX lx).1).2, if dn' = true then 0 else 3)) ∧
    (endE (toksJ D (.at_ st dn) (endX lx).1).1 (endX lx).2 ≠ 0 → endJ D ⟨lx, .at_ st dn⟩ = ((toksJ D (.at_ st dn) (endX lx).1).2, endE (toksJ D (.at_ st dn) (endX lx).1).1 (endX lx).2)) := by
  have h1 := end_nil lx; simp only [endJ]; generalize endX lx = X at h1; obtain ⟨x1, x2⟩ := X; simp only at h1 ⊢; by_cases he : x2 ≠ 0
  · rw [h1 he, if_pos he]
    simp only [toksJ, endE]; exact ⟨fun h => absurd h he, fun _ => trivial⟩
  · rw [if_neg he]
    obtain rfl : x2 = 0 := by omega
    have wf := wf_toks x1 (p := .at_ st dn) hW; generalize toksJ D (.at_ st dn) x1 = Q at wf ⊢; obtain ⟨q1, q2⟩ := Q; cases q1 with
    | bad e =>
      simp only [endE]; exact ⟨fun h => absurd h wf.1, fun _ => trivial⟩
    | at_ st' dn' =>
      simp only [endE]; refine ⟨fun _ => ⟨st', dn', rfl, ?_⟩, fun h => absurd rfl h⟩; cases dn' <;> rfl
theorem jend_good {w : World} {b o D : Nat} {lx : Lx} {st : List FrJ} {dn : Bool} (h : PAt w b o D ⟨lx, .at_ st dn⟩) :
    Calls Tryz.prog 82 #[.pointer (some ⟨b, o, none⟩)] w fun r w' => EndR w w' b o (endJ D ⟨lx, .at_ st dn⟩) r := by
  have h0 := h; obtain ⟨hD, c0, hL, hG, hb, hW⟩ := h0; have hbl := h.lt; obtain ⟨M, hg, hM, hWJ, hD2⟩ := hG; have hc := end_cases D lx st dn hWJ; have hS := lfin_at hL; have hw := end_wf lx; have hln := end_len lx; have HAD := hid (jhad_at h); generalize endX lx = X at *
  generalize endJ D ⟨lx, .at_ st dn⟩ = R at *
  obtain ⟨x1, E⟩ := X; simp only at hc hS hw hln; have HRD : Hid (∀ w1 v, Tks w w1 v x1 → Sub b (o + 2) 18 w w1 → Calls Tryz.prog 86 #[.pointer (some ⟨b, o, none⟩), v, .int .i64 E] w1 fun r w' => ReadJ w1 w' b o D (toksJ D (.at_ st dn) x1) E r) := hid (fun w1 v hT hs =>
    read_at (GJ.sub ⟨M, hg, hM, hWJ, hD2⟩ hs (by omega) (by omega)) hT hbl hs.step.size hw hln E)
  generalize toksJ D (.at_ st dn) x1 = Q at *
  obtain ⟨q1, q2⟩ := Q; simp only at hc; obtain ⟨F, hF⟩ : ∃ F, endE q1 E = F := ⟨_, rfl⟩
  rw [hF] at hc; have HS := hid hS; have HC := hid hc; have HF := hid hF; have HL := hid (And.intro hbl (And.intro hD h.room)); have HDP := hid hg.dep; clear hS hc hF hL hbl hb hW hD hw hln hg hM hWJ hD2 h c0; simp only [errP] at HAD; by_cases hz : F = 0
  · obtain ⟨st', dn', k1, k2⟩ := HC.out.1 hz
    subst k1; subst hz; have HK := hid k2; clear k2; cases dn' with
    | true =>
      go_enter Tryz.func82, Tryz.ntmps82; (go_wp2_with fail); refine HAD.out.mono ?_; rintro r w1 ⟨rfl, rfl⟩; (go_wp2_with fail); refine HS.out.mono ?_; rintro r w1 ⟨v1, rfl, hT1, hL1, hs1⟩; have H1 := hid (And.intro hT1 hs1); clear hT1 hL1 hs1; (go_wp2_with fail); refine (HRD.out _ _ H1.out.1 H1.out.2).mono ?_; rintro r w2 ⟨⟨u, rfl, hV⟩, hs2, ho2⟩; simp only; rw [HF.out]; have H2 := hid (And.intro hV (And.intro hs2 ho2)); clear hV hs2 ho2; (go_wp2_with fail); refine (jdone_at H2.out.2.2).mono ?_; rintro r w3 ⟨rfl, rfl⟩; (go_wp2_with fail); refine (jtold_ok _ u _).mono ?_; rintro r w3 ⟨rfl, rfl⟩; go_wp2; go_ret2; rw [HK.out]; exact ⟨⟨_, rfl, H2.out.1.old H1.out.2.step.size⟩, (H1.out.2.widen (by omega) (by omega)).trans (H2.out.2.1.widen (by omega) (by omega))⟩
    | false =>
      go_enter Tryz.func82, Tryz.ntmps82; (go_wp2_with fail); refine HAD.out.mono ?_; rintro r w1 ⟨rfl, rfl⟩; (go_wp2_with fail); refine HS.out.mono ?_; rintro r w1 ⟨v1, rfl, hT1, hL1, hs1⟩; have H1 := hid (And.intro hT1 hs1); clear hT1 hL1 hs1; (go_wp2_with fail); refine (HRD.out _ _ H1.out.1 H1.out.2).mono ?_; rintro r w2 ⟨⟨u, rfl, hV⟩, hs2, ho2⟩; simp only; rw [HF.out]; have H2 := hid (And.intro hV (And.intro hs2 ho2)); have HT := hid (jtold_err (w := w2) (D := D) ((HL.out.2.2.sub H1.out.2).sub hs2) (((hs2.cell _ (by omega)).trans (H1.out.2.cell _ (by omega))).trans HDP.out) u 3 (by decide)); clear hV hs2 ho2; (go_wp2_with fail); refine (jdone_at H2.out.2.2).mono ?_; rintro r w3 ⟨rfl, rfl⟩; (go_wp2_with fail); refine HT.out.mono ?_; rintro r w4 ⟨rfl, hA, hs3⟩; have H3 := hid hs3; clear hA hs3; go_wp2; go_ret2; rw [HK.out]; exact ⟨⟨_, rfl, (H2.out.1.old H1.out.2.step.size).sub H3.out HL.out.1⟩, ((H1.out.2.widen (by omega) (by omega)).trans (H2.out.2.1.widen (by omega) (by omega))).trans H3.out⟩
  · have HK := hid (HC.out.2 hz)
    have hz2 : ((F : Int) == 0) = false := by simp; omega
    go_enter Tryz.func82, Tryz.ntmps82; (go_wp2_with fail); refine HAD.out.mono ?_; rintro r w1 ⟨rfl, rfl⟩; (go_wp2_with fail); refine HS.out.mono ?_; rintro r w1 ⟨v1, rfl, hT1, hL1, hs1⟩; have H1 := hid (And.intro hT1 hs1); clear hT1 hL1 hs1; (go_wp2_with fail); refine (HRD.out _ _ H1.out.1 H1.out.2).mono ?_; rintro r w2 ⟨⟨u, rfl, hV⟩, hs2, ho2⟩; simp only; rw [HF.out]; have H2 := hid (And.intro hV hs2); have HT := hid (jtold_err (w := w2) (D := D) ((HL.out.2.2.sub H1.out.2).sub hs2) (((hs2.cell _ (by omega)).trans (H1.out.2.cell _ (by omega))).trans HDP.out) u F hz); clear hV hs2 ho2; (go_wp2_with fail); refine HT.out.mono ?_; rintro r w4 ⟨rfl, hA, hs3⟩; have H3 := hid hs3; clear hA hs3; go_wp2; go_ret2; rw [HK.out]; exact ⟨⟨_, rfl, (H2.out.1.old H1.out.2.step.size).sub H3.out HL.out.1⟩, ((H1.out.2.widen (by omega) (by omega)).trans (H2.out.2.widen (by omega) (by omega))).trans H3.out⟩
theorem jend_bad {w : World} {b o D e : Nat} {lx : Lx} (h : PAt w b o D ⟨lx, .bad e⟩) :
    Calls Tryz.prog 82 #[.pointer (some ⟨b, o, none⟩)] w fun r w' => EndR w w' b o (endJ D ⟨lx, .bad e⟩) r := by
  have HAD := hid (jhad_at h); have hz : ((e : Int) != 0) = true := by have := h.2.1; simp; omega
  simp only [errP] at HAD; clear h; go_enter Tryz.func82, Tryz.ntmps82; (go_wp2_with fail); refine HAD.out.mono ?_; rintro r w1 ⟨rfl, rfl⟩; go_wp2; go_ret2; exact ⟨⟨_, rfl, Vls.nil_ _ _⟩, Sub.refl _ _ _ _⟩
theorem jend_at {w : World} {b o D : Nat} {s : Js} (h : PAt w b o D s) :
    Calls Tryz.prog 82 #[.pointer (some ⟨b, o, none⟩)] w fun r w' => EndR w w' b o (endJ D s) r := by
  obtain ⟨lx, p⟩ := s; cases p with
  | bad e => exact jend_bad h
  | at_ st dn => exact jend_good h
end
section
open Go.RowKit
open Go.Lib
theorem tok_len (D : Nat) (p : Pj) (t : Tk) : (tokJ D p t).2.length ≤ 1 := by
  have hv : ∀ st dn e, (valJ st dn e).2.length ≤ 1 := by intro st dn e; unfold valJ; split <;> simp
  have hs : ∀ m st, (shutJ m st).2.length ≤ 1 := by
    intro m st
    match st with
    | [] => simp [shutJ]
    | ⟨b, q⟩ :: r =>
      by_cases hc : b = m ∧ (q = 0 ∨ q = if m = true then 3 else 1)
      · have e : shutJ m (⟨b, q⟩ :: r) = (.at_ r (doneJ r), [evEnd]) := if_pos hc
        rw [e]; simp
      · have e : shutJ m (⟨b, q⟩ :: r) = (.bad 2, []) := if_neg hc
        rw [e]; simp
  have ho : ∀ st dn m e, (openJ D st dn m e).2.length ≤ 1 := by
    intro st dn m e; unfold openJ; split
    · split <;> simp
    · simp
  have hc : ∀ st, (commaJ st).2.length ≤ 1 := by intro st; unfold commaJ; split <;> simp
  have hl : ∀ st, (colonJ st).2.length ≤ 1 := by intro st; unfold colonJ; split <;> simp
  have ht : ∀ st dn x, (strJ st dn x).2.length ≤ 1 := by
    intro st dn x; have := hv st dn (evText x); unfold strJ; split
    · simp
    · simp
    · exact this
  cases p with
  | bad e => simp [tokJ]
  | at_ st dn =>
    simp only [tokJ]
    repeat' split
    all_goals first | exact hc _ | exact hl _ | exact hs _ _ | exact ho _ _ _ _ | exact ht _ _ _ | exact hv _ _ _
theorem toksJ_len (D : Nat) : ∀ (l : List Tk) (p : Pj), (toksJ D p l).2.length ≤ l.length
  | [], p => by simp [toksJ]
  | t :: l, p => by
    have h1 := tok_len D p t; have h2 := toksJ_len D l (tokJ D p t).1; simp only [toksJ, List.length_append, List.length_cons]; omega
theorem stepX_len (s : Lx) (y : UInt8) : (stepX s y).2.length ≤ 2 := by
  have start : ∀ x, (startX x).2.length ≤ 1 := by
    intro x; unfold startX
    repeat' split
    all_goals simp
  have h := start y.toNat
  match s with
  | .bad e => simp [stepX]
  | .idle => simp only [stepX]; omega
  | .str s t => simp only [stepX]; repeat' split
                all_goals simp
  | .num d =>
    simp only [stepX]
    repeat' split
    all_goals first | simp | skip
    generalize startX y.toNat = q at *
    obtain ⟨q1, q2⟩ := q; cases q1 <;> simp [tellX] at h ⊢ <;> omega
  | .word k [] => simp [stepX]
  | .word k (x :: q) =>
    simp only [stepX]
    repeat' split
    all_goals simp
theorem stepJ_len (D : Nat) (s : Js) (b : UInt8) : (stepJ D s b).2.length ≤ 2 := by
  unfold stepJ; split
  · simp
  · split
    · simp
    · have h1 := toksJ_len D (stepX s.lx b).2 s.p
      have h2 := stepX_len s.lx b; simp only; omega
theorem endX_len (s : Lx) : (endX s).1.length ≤ 1 := by
  cases s with
  | num d => simp only [endX]; split <;> simp
  | _ => simp [endX]
theorem endJ_len (D : Nat) (s : Js) : (endJ D s).1.length ≤ 1 := by
  unfold endJ; split
  · simp
  · split
    · simp
    · have h1 := toksJ_len D (endX s.lx).1 s.p
      have h2 := endX_len s.lx; split
      all_goals
        rename_i h; rw [h] at h1; simp only at h1 ⊢; omega
def WfS (D : Nat) (s : Js) : Prop := WfX s.lx ∧ WfP D s.p
theorem told_step (D : Nat) (s : Js) (h : WfS D s) (b : UInt8) : ∀ e ∈ (stepJ D s b).2, ToldE e := by
  intro e he; unfold stepJ at he; split at he
  · simp at he
  · split at he
    · simp at he
    · exact told_toks D _ _ (step_wf _ h.1 b).2 e he
theorem told_fin (D : Nat) (s : Js) : ∀ e ∈ (endJ D s).1, ToldE e := by
  intro e he; unfold endJ at he; split at he
  · simp at he
  · split at he
    · simp at he
    · have := told_toks D (endX s.lx).1 s.p (end_wf _)
      split at he
      all_goals
        rename_i h; rw [h] at this; exact this e he
end
end Go.Proofs.YtkgconbdmnmbnaaGreat
