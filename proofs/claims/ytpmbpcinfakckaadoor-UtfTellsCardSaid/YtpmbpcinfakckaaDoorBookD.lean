/-
  THE HELPERS' BOOK OF LISTS OF INTS, PART 4: putInts.
-/
import Derived.Test.YtpmbpcinfakckaaDoorBookB
import Derived.Test.YtpmbpcinfakckaaDoorBookC
namespace Go.Proofs.YtpmbpcinfakckaaDoor
open Go.RowKit
open Go.Lib
/-- What marking has made of the lists. -/
def PutS (w0 w : World) (b : Nat) (vi : Value) (vs : List Value) (ns : Nat → Nat) (k : Nat) : Prop :=
  (∃ c : Nat → List Int, FamF w vs c ∧ (∀ i, (c i).length = ns i) ∧ ∀ i, i < k → c i = marks i 0 (ns i)) ∧ w.cell? ⟨b, 2, none⟩ = some vi ∧ LWin w vi vs ∧ Fr (Owns vs) w0 w
/-- .. and of list k's first j places. -/
def PutT (w0 w : World) (b : Nat) (vi u : Value) (vs : List Value) (ns : Nat → Nat) (k j : Nat) : Prop :=
  (∃ c : Nat → List Int, FamF w vs c ∧ (∀ i, (c i).length = ns i) ∧ (∀ i, i < k → c i = marks i 0 (ns i)) ∧ (c k).take j = marks k 0 j) ∧ w.cell? ⟨b, 2, none⟩ = some vi ∧ LWin w vi vs ∧ IWin w u (marks k 0 (ns k)) ∧ Fr (Owns vs) w0 w ∧ (∀ x ∈ Value.owner u, ¬ Owns vs x)
theorem cell_kept {F : Nat → Prop} {a b : World} {p : Addr} {v : Value} (h : Fr F a b) (hc : a.cell? p = some v) (hF : ¬ F p.block) : b.cell? p = some v := by
  have hl : p.block < a.heap.size := by
    rcases Nat.lt_or_ge p.block a.heap.size with h' | h'
    · exact h'
    · simp [World.cell?, Array.getElem?_eq_none h'] at hc
  exact (World.cell?_of_block (w := a) (h.block p.block hl hF)).trans hc
theorem put_step {w0 w : World} {b : Nat} {vi u : Value} {vs : List Value} {ns : Nat → Nat} {k j : Nat} {g off cap : Nat} (h : PutT w0 w b vi u vs ns k j) (hd : Disj vs) (hk : vs[k]? = some (.slice (some ⟨g, off, none⟩) (ns k) cap)) (hj : j < ns k)
    (hb : ¬ Owns vs b) (hvi : ∀ x ∈ Value.owner vi, ¬ Owns vs x) : PutT w0 (w.setCell ⟨g, off + j, none⟩ (.int .i64 (mk k j))) b vi u vs ns k (j + 1) := by
  obtain ⟨⟨c, h1, h2, h3, h4⟩, h5, h6, h7, h8, h9⟩ := h
  have hg : Owns vs g := ⟨k, _, hk, by simp [Value.owner]⟩
  have hfr : Fr (fun x => x = g) w (w.setCell ⟨g, off + j, none⟩ (.int .i64 (mk k j))) := (Fr.refl _ w).setCell _ _ (.inl rfl)
  refine ⟨⟨_, h1.store hd hk (h2 k) j hj (mk k j), fun i => ?_, fun i hi => ?_, ?_⟩, cell_kept hfr h5 (fun e => hb (by rw [show b = g from e]; exact hg)), ?_, ?_, h8.setCell _ _ (.inl hg), h9⟩
  · by_cases e : i = k
    · subst e; simp [h2]
    · simp [e, h2]
  · rw [if_neg (by omega)]
    exact h3 i hi
  · rw [if_pos rfl, marks_snoc, Nat.zero_add, ← h4, List.take_add_one, List.getElem?_set_self (by rw [h2]; exact hj), List.take_set_of_le (Nat.le_refl _)]
    rfl
  · exact Win.setCell_far h6 (p := ⟨g, off + j, none⟩) (fun e => hvi g e hg) _
  · exact Win.setCell_far h7 (p := ⟨g, off + j, none⟩) (fun e => h9 g e hg) _
theorem PutT.drew {w0 w : World} {b : Nat} {vi u : Value} {vs : List Value} {ns : Nat → Nat} {k j : Nat} (h : PutT w0 w b vi u vs ns k j) : PutT w0 w.drew b vi u vs ns k j := ⟨h.1, h.2.1, h.2.2.1, h.2.2.2.1, h.2.2.2.2.1.drew, h.2.2.2.2.2⟩
set_option maxRecDepth 100000 in
set_option maxHeartbeats 1000000 in
theorem put_any {w : World} {b : Nat} {vi : Value} {vs : List Value} {ns : Nat → Nat} (h : PutS w w b vi vs ns 0) (hd : Disj vs) (hb : ¬ Owns vs b) (hvi : ∀ x ∈ Value.owner vi, ¬ Owns vs x) (hn : ∀ i, i < vs.length → ns i ≤ 100000) (hm : vs.length ≤ 1000) :
    Calls Tryd.prog 32 #[.pointer (some ⟨b, 0, none⟩)] w fun e w' => e = .returned (.tuple #[]) ∧ PutS w w' b vi vs ns vs.length := by
  have H := Lib.hid h
  have HD := Lib.hid hd
  have HO := Lib.hid hb
  have HVI := Lib.hid hvi
  have HN := Lib.hid hn
  obtain ⟨a, c, rfl, _, _⟩ := Win.slice_form h.2.2.1
  clear h hd hb hvi hn
  go_enter Tryd.func32, Tryd.ntmps32
  go_wp2
  go_loopw [2, 3, 4] (fun i _ _ wr => ∃ k : Nat, k ≤ vs.length ∧ i = .int .i64 k ∧ Hid (PutS w wr b (.slice a vs.length c) vs ns k)) (fun i _ _ _ => vs.length - (RowKit.intOf i).toNat)
  case atStart => exact ⟨0, Nat.zero_le _, rfl, H⟩
  case round =>
    obtain ⟨k, hk, rfl, HP⟩ := hrel
    have hc2 := HP.out.2.1
    by_cases hlt : k < vs.length
    · have hv : vs[k]? = some vs[k] := List.getElem?_eq_getElem hlt
      obtain ⟨g, off, cap, f1, hgl, _, hcl⟩ := HP.out.2.2.1.at_ k hlt
      injection f1 with f1 _ f1'
      subst f1; subst f1'
      have d1 := hcl k _ hv
      obtain ⟨cf, q1, q2, q3⟩ := HP.out.1
      have iw := q1 k _ hv
      obtain ⟨va, vc, hva, _, _⟩ := Win.slice_form iw
      rw [q2] at hva
      rw [hva] at d1 hv
      have HV := Lib.hid hv
      have hnb := HN.out k hlt
      have HM := Lib.hid (mark0 k (ns k) (by omega) hnb)
      clear hcl q1 q2 q3 iw hva hv
      go_wp2_with fail
      refine (HM.out _).mono ?_
      rintro e w1 ⟨u, rfl, iu, fu⟩
      have HT : Hid (PutT w w1 b (.slice (some ⟨g, off, none⟩) vs.length c) u vs ns k 0) := by
        obtain ⟨⟨c1, r1, r2, r3⟩, r4, r5, r6⟩ := HP.out
        refine Lib.hid ⟨⟨c1, r1.new fu.1, r2, r3, by simp [marks]⟩, ?_, r5.new fu.1, iu, r6.new fu.1, ?_⟩
        · have hbl : b < wr.heap.size := by
            rcases Nat.lt_or_ge b wr.heap.size with h' | h'
            · exact h'
            · simp [World.cell?, Array.getElem?_eq_none h'] at r4
          exact (fu.1.cell (p := ⟨b, 2, none⟩) hbl).trans r4
        · rintro x hx ⟨i, v, hi, hxv⟩
          have h1 := fu.2 x hx
          have h2 := Win.lt (r1 i v hi) x hxv
          omega
      obtain ⟨ua, uc, rfl, _, _⟩ := Win.slice_form iu
      rw [marks_length] at HT ⊢
      clear iu fu HM HP hc2 d1
      go_wp2
      go_loopw [4] (fun j wi => ∃ t : Nat, t ≤ ns k ∧ j = .int .i64 t ∧ Hid (PutT w wi b (.slice (some ⟨g, off, none⟩) vs.length c) (.slice ua (ns k) uc) vs ns k t)) (fun j _ => ns k - (RowKit.intOf j).toNat)
      case atStart => exact ⟨0, Nat.zero_le _, rfl, HT⟩
      case round =>
        obtain ⟨t, ht, rfl, HP⟩ := hrel
        clear HT
        have hc2 := HP.out.2.1
        by_cases hlj : t < ns k
        · obtain ⟨g', off', cap', f1, _, _, hcl⟩ := HP.out.2.2.1.at_ k hlt
          injection f1 with f1 _ f1'
          injection f1 with f1
          injection f1 with f1 f2 _
          subst f1; subst f2; subst f1'
          have d1 := hcl k _ HV.out
          obtain ⟨cf, q1, q2, q3, q4⟩ := HP.out.1
          have iw := q1 k _ HV.out
          have hlen := q2 k
          unfold IWin at iw
          rw [hlen] at iw
          obtain ⟨gv, ov, cv, e1, _, _, _, _, hcv⟩ := Win.form iw (by omega)
          injection e1 with e1 _ e1'
          subst e1; subst e1'
          have hz : (zCells (cf k))[t]? = some (.int .i64 ((cf k)[t]'(by omega))) := by rw [zCells_get, List.getElem?_eq_getElem (by omega)]; rfl
          obtain ⟨hd2, hf2⟩ := hcv t _ hz
          have iu := HP.out.2.2.2.1
          unfold IWin at iu
          rw [marks_length] at iu
          obtain ⟨gu, ou, cu, e2, _, _, _, _, hcu⟩ := Win.form iu (by omega)
          injection e2 with e2 _ e2'
          subst e2; subst e2'
          have hm2 : (marks k 0 (ns k))[t]? = some (mk k t) := by simp [marks, hlj]
          obtain ⟨hd3, _⟩ := hcu t (.int .i64 (mk k t)) (by rw [zCells_get, hm2]; rfl)
          have HN2 := Lib.hid (put_step HP.out HD.out HV.out hlj HO.out HVI.out)
          have hnk := HN.out k hlt
          obtain ⟨z, hzz⟩ : ∃ z, mk k t = z := ⟨_, rfl⟩
          rw [hzz] at hd3 HN2
          clear hcl q1 q2 q3 q4 iw hcv hcu iu hm2 HP hz hzz
          have HN3 := Lib.hid HN2.out.drew
          clear HN2
          go_wp2
          go_region
          go_wp2
          go_roundw
          case rel => exact ⟨t + 1, by omega, by go_num, HN3⟩
          case measure => simp [RowKit.intOf]; omega
        · have e : t = ns k := by omega
          subst e
          have HF : Hid (PutS w wr b (.slice (some ⟨g, off, none⟩) vs.length c) vs ns (k + 1)) := by
            obtain ⟨⟨cf, q1, q2, q3, q4⟩, r4, r5, r6, r7, r8⟩ := HP.out
            refine Lib.hid ⟨⟨cf, q1, q2, fun i hi => ?_⟩, r4, r5, r7⟩
            by_cases hik : i = k
            · subst hik
              rw [← q4, List.take_of_length_le (by rw [q2]; exact Nat.le_refl _)]
            · exact q3 i (by omega)
          clear HP
          go_wp2
          go_roundw
          case rel => exact ⟨k + 1, by omega, by go_num, HF⟩
          case measure => simp [RowKit.intOf]; omega
    · have e : k = vs.length := by omega
      subst e
      go_wp2
      refine bodyPost_end (results_none rfl _ _ _) rfl ?_
      exact ⟨rfl, HP.out⟩
end Go.Proofs.YtpmbpcinfakckaaDoor
