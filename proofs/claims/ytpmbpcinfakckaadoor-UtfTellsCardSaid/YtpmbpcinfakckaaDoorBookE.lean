/-
  THE HELPERS' BOOK OF LISTS OF INTS, PART 5: growInts.
-/
import Derived.Test.YtpmbpcinfakckaaDoorBookD
namespace Go.Proofs.YtpmbpcinfakckaaDoor
open Go.RowKit
open Go.Lib
/-- What growing has made of the first k lists. -/
def GrowS (w0 w : World) (b : Nat) (vi : Value) (vs : List Value) (ns : Nat → Nat) (k : Nat) (out : Value) (gs : List Value) : Prop :=
  gs.length = k ∧ LWin w out gs ∧ (∀ x ∈ Value.owner out, w0.heap.size ≤ x) ∧ FamF w vs (fun i => marks i 0 (ns i)) ∧
    (∀ (i : Nat) (u : Value), gs[i]? = some u → IWin w u (marks i 0 (ns i + 72)) ∧ ∀ x ∈ Value.owner u, (∃ v, vs[i]? = some v ∧ x ∈ Value.owner v) ∨ w0.heap.size ≤ x) ∧
    w.cell? ⟨b, 2, none⟩ = some vi ∧ LWin w vi vs ∧ Fr (Owns vs) w0 w
theorem infoil : (Tryd.prog.info? 39).map (fun i => (i.zero, i.size, i.bytes)) = some (some (.slice none 0 0), 1, 24) := by kernel_rfl
theorem grow_next {w0 W0 w2 w3 : World} {b : Nat} {vi : Value} {vs : List Value} {ns : Nat → Nat} {k : Nat} {out out2 v l : Value} {gs : List Value} {o : Obj} (h : GrowS w0 W0 b vi vs ns k out gs) (hd : Disj vs) (hb : ¬ Owns vs b) (hvi : ∀ x ∈ Value.owner vi, ¬ Owns vs x)
    (hv : vs[k]? = some v) (hold : ∀ x, Owns vs x → x < w0.heap.size) (hg : Grows W0 w2 v l k (ns k) 72)
    (hbl : b < w0.heap.size) (hvl : ∀ x ∈ Value.owner vi, x < w0.heap.size)
    (hw : Win w3 39 1 out2 (k + 1) (gs ++ [l])) (hgr : (w2.alloc o).grownBy w3 out.ownBlock) (ho : out2.ownBlock = out.ownBlock ∨ out2.ownBlock = some (w2.alloc o).heap.size ∧ (w2.alloc o).heap.size < w3.heap.size) : GrowS w0 w3 b vi vs ns (k + 1) out2 (gs ++ [l]) := by
  obtain ⟨h1, h2, h3, h4, h5, h6, h7, h8⟩ := h
  have hfv : ∀ x, x ∈ Value.owner v → Owns vs x := fun x hx => ⟨k, v, hv, hx⟩
  have hsz := h8.size
  have hsz2 := hg.frame.size
  have hoty := Win.typed h2
  -- from the round's start to behind the list's growth
  have keep : ∀ x, x < W0.heap.size → x ∉ Value.owner v → w2.heap[x]? = W0.heap[x]? := fun x hx hn => hg.frame.block x hx hn
  have keep3 : ∀ x, x < w2.heap.size → some x ≠ out.ownBlock → w3.heap[x]? = w2.heap[x]? := fun x hx hn => (hgr.block x (by simp; omega) hn).trans (Below.heap_alloc _ _ _ hx)
  -- a list's block is none of out's
  have notout : ∀ {w : World} {u : Value} {xs : List Int}, IWin w u xs → (∀ x ∈ Value.owner out, w.heap[x]? = W0.heap[x]?) → ∀ x ∈ Value.owner u, some x ≠ out.ownBlock := by
    intro w u xs hu hsame x hx e
    have hxo := (ob_iff _ _).1 e.symm
    obtain ⟨c1, e1⟩ := hoty x hxo
    obtain ⟨c2, e2⟩ := Win.typed hu x hx
    rw [hsame x hxo, e1] at e2
    injection e2 with e2
    injection e2 with _ e2 _
    revert e2
    decide
  have outsame : ∀ x ∈ Value.owner out, w2.heap[x]? = W0.heap[x]? := fun x hx => keep x (Win.lt h2 x hx) (fun e => by
    have := h3 x hx
    have := hold x (hfv x e)
    omega)
  have carry : ∀ {u : Value} {xs : List Int}, IWin w2 u xs → IWin w3 u xs := fun {u xs} hu => Win.keep hu fun x hx => keep3 x (Win.lt hu x hx) (notout hu outsame x hx)
  have far : ∀ {u : Value} {xs : List Int}, IWin W0 u xs → (∀ x ∈ Value.owner u, x ∉ Value.owner v) → IWin w2 u xs := fun {u xs} hu hn => Win.keep hu fun x hx => keep x (Win.lt hu x hx) (hn x hx)
  refine ⟨by simp [h1], by unfold LWin; rw [List.length_append, h1]; exact hw, fun x hx => ?_, fun i u hu => ?_, fun i u hu => ?_, ?_, ?_, ?_⟩
  · rw [← ob_iff] at hx
    rcases ho with e | ⟨e, _⟩
    · exact h3 x ((ob_iff _ _).1 (e ▸ hx))
    · rw [e] at hx
      injection hx with hx
      simp at hx
      omega
  · by_cases hik : i = k
    · subst hik
      obtain rfl := Option.some.inj (hu.symm.trans hv)
      exact carry hg.own
    · exact carry (far (h4 i u hu) (hd i k u v hik hu hv))
  · by_cases hik : i < gs.length
    · rw [List.getElem?_append_left hik] at hu
      obtain ⟨q1, q2⟩ := h5 i u hu
      refine ⟨carry (far q1 fun x hx hxv => ?_), q2⟩
      rcases q2 x hx with ⟨v', hv', hxv'⟩ | hge
      · exact hd i k v' v (by omega) hv' hv x hxv' hxv
      · have := hold x (hfv x hxv); omega
    · rw [List.getElem?_append_right (by omega)] at hu
      have hi0 : i - gs.length = 0 := by
        rcases Nat.eq_zero_or_pos (i - gs.length) with h | h
        · exact h
        · rw [List.getElem?_eq_none (by simp; omega)] at hu; cases hu
      rw [hi0] at hu
      simp at hu
      subst hu
      obtain rfl : i = k := by omega
      refine ⟨carry hg.cur, fun x hx => ?_⟩
      rcases hg.foot x hx with h | h
      · exact .inl ⟨v, hv, h⟩
      · exact .inr (by omega)
  · have hb1 : b ∉ Value.owner v := fun e => hb (hfv b e)
    have hb2 : some b ≠ out.ownBlock := fun e => by have := h3 b ((ob_iff _ _).1 e.symm); omega
    exact ((World.cell?_of_block (w := w2) (a := ⟨b, 2, none⟩) (keep3 b (by omega) hb2)).trans (World.cell?_of_block (w := W0) (a := ⟨b, 2, none⟩) (keep b (by omega) hb1))).trans h6
  · refine Win.keep h7 fun x hx => ?_
    have hl := hvl x hx
    exact (keep3 x (by omega) (fun e => by have := h3 x ((ob_iff _ _).1 e.symm); omega)).trans (keep x (by omega) (fun e => hvi x hx (hfv x e)))
  · have f1 : Fr (Owns vs) w0 w2 := h8.trans hg.frame (fun x hx => .inl (hfv x hx))
    have f2 : Fr (fun _ => False) w2 (w2.alloc o) := ⟨rfl, rfl, rfl, by simp, fun x hx _ => Below.heap_alloc _ _ _ hx⟩
    exact (f1.trans f2 (fun _ h => h.elim)).grown hgr (fun x hx => .inr (h3 x ((ob_iff _ _).1 hx)))
set_option maxRecDepth 100000 in
set_option maxHeartbeats 1600000 in
theorem grow_any {w : World} {b : Nat} {vi : Value} {vs : List Value} {ns : Nat → Nat} (h : FamF w vs (fun i => marks i 0 (ns i))) (hc2 : w.cell? ⟨b, 2, none⟩ = some vi) (hlv : LWin w vi vs) (hd : Disj vs) (hb : ¬ Owns vs b) (hvi : ∀ x ∈ Value.owner vi, ¬ Owns vs x) (hn : ∀ i, i < vs.length → ns i ≤ 90000) (hm : vs.length ≤ 1000) :
    Calls Tryd.prog 35 #[.pointer (some ⟨b, 0, none⟩)] w fun e w' => ∃ out gs, e = .returned out ∧ GrowS w w' b vi vs ns vs.length out gs := by
  have hold : ∀ x, Owns vs x → x < w.heap.size := fun x ⟨i, v, hi, hx⟩ => Win.lt (h i v hi) x hx
  have hbl : b < w.heap.size := by
    rcases Nat.lt_or_ge b w.heap.size with h' | h'
    · exact h'
    · simp [World.cell?, Array.getElem?_eq_none h'] at hc2
  have hvl : ∀ x ∈ Value.owner vi, x < w.heap.size := Win.lt hlv
  have H0 : Hid (GrowS w w b vi vs ns 0 (.slice none 0 0) []) := Lib.hid ⟨rfl, Win.nil_ _ _ _, by simp [Value.owner], h, by simp, hc2, hlv, Fr.refl _ _⟩
  have HD := Lib.hid (And.intro hd (And.intro hb (And.intro hvi (And.intro hold (And.intro hbl hvl)))))
  have HN := Lib.hid hn
  obtain ⟨a, c, rfl, _, _⟩ := Win.slice_form hlv
  clear h hc2 hlv hd hb hvi hn hold hbl hvl
  have hc2 := H0.out.2.2.2.2.2.1
  go_enter Tryd.func35, Tryd.ntmps35
  go_wp2
  clear hc2
  go_loopw [3, 4, 5, 6] (fun out i _ _ wr => ∃ (k : Nat) (gs : List Value), k ≤ vs.length ∧ i = .int .i64 k ∧ Hid (GrowS w wr b (.slice a vs.length c) vs ns k out gs)) (fun _ i _ _ _ => vs.length - (RowKit.intOf i).toNat)
  case atStart => exact ⟨0, [], Nat.zero_le _, rfl, H0⟩
  case round =>
    obtain ⟨k, gs, hk, rfl, HP⟩ := hrel
    clear H0
    obtain ⟨W0, rfl⟩ : ∃ W0, W0 = wr := ⟨_, rfl⟩
    have hc2 := HP.out.2.2.2.2.2.1
    obtain ⟨oa, oc, rfl, _, _⟩ := Win.slice_form HP.out.2.1
    by_cases hlt : k < vs.length
    · have hv : vs[k]? = some vs[k] := List.getElem?_eq_getElem hlt
      obtain ⟨g, off, cap, f1, _, _, hcl⟩ := HP.out.2.2.2.2.2.2.1.at_ k hlt
      injection f1 with f1 _ f1'
      subst f1; subst f1'
      have d1 := hcl k _ hv
      have iw := HP.out.2.2.2.1 k _ hv
      obtain ⟨va, vc, hva, _, _⟩ := Win.slice_form iw
      rw [marks_length] at hva
      rw [hva] at d1 hv iw
      have HV := Lib.hid hv
      have hnb := HN.out k hlt
      have HG : Hid (Grows W0 W0 (.slice va (ns k) vc) (.slice va (ns k) vc) k (ns k) 0) := Lib.hid (Grows.start iw)
      clear hcl iw hva hv
      go_wp2
      clear d1 hc2
      go_loopw [5, 6] (fun l t wr => ∃ n : Nat, n ≤ 12 ∧ t = .int .i64 n ∧ Hid (Grows W0 wr (.slice va (ns k) vc) l k (ns k) n)) (fun _ t _ => 12 - (RowKit.intOf t).toNat)
      case atStart => exact ⟨0, by omega, rfl, HG⟩
      case round =>
        obtain ⟨t, ht, rfl, HG1⟩ := hrel
        clear HG
        obtain ⟨la, lc, rfl, _, _⟩ := Win.slice_form HG1.out.cur
        rw [marks_length] at HG1 ⊢
        by_cases hlj : t < 12
        · have hltz : (t : Int) < 12 := by omega
          have HM := Lib.hid (fun W => mark_any k (ns k + t) 1 (by omega) (by omega) (by omega) W)
          go_wp2_with fail
          refine (HM.out _).mono ?_
          rintro e w1 ⟨u, rfl, iu, fu⟩
          have HG2 := Lib.hid (HG1.out.new fu.1)
          have IU : Hid (Win w1 3 1 u 1 (zCells (marks k (ns k + t) 1))) := Lib.hid (by have := iu; unfold IWin at this; rw [marks_length] at this; exact this)
          have hcw : Hid (Win w1 3 1 (.slice la (ns k + t) lc) (ns k + t) (zCells (marks k 0 (ns k + t)))) := Lib.hid (by have := HG2.out.cur; unfold IWin at this; rw [marks_length] at this; exact this)
          obtain ⟨ua, uc, rfl, _, _⟩ := Win.slice_form IU.out
          clear iu fu HM HG1
          go_wp2_with (at_builtin; refine wpList_append_tell rfl _ _ _ rfl Tryd.underlying39 infozz rfl rfl hcw.out _ rfl 1 (zCells (marks k (ns k + t) 1)) (Win.src IU.out Tryd.underlying39 (zCells_one _)) (by omega) ?d1 ?d2 ?_)
          case d1 => unfold maxLen; omega
          case d2 => omega
          intro l2 w2 hW2 hG2 hT2
          have HG3 := Lib.hid (HG2.out.more hW2.out hG2.out (hT2.out.imp (fun ⟨g, off, cap, ⟨e1, e2⟩, e3⟩ => ⟨g, off, cap, by rw [e1, e2], e3⟩) id))
          clear hW2 hG2 hT2 HG2 IU hcw
          obtain ⟨l2a, l2c, rfl, _, _⟩ := Win.slice_form HG3.out.cur
          go_wp2
          go_roundw
          case rel => exact ⟨t + 1, by omega, by go_num, HG3⟩
          case measure => simp [RowKit.intOf]; omega
        · have ht12 : t = 12 := by omega
          subst ht12
          have HM := Lib.hid (fun W => mark_any k (ns k + 12) 60 (by omega) (by omega) (by omega) W)
          go_wp2_with fail
          refine (HM.out _).mono ?_
          rintro e w1 ⟨u, rfl, iu, fu⟩
          have HG2 := Lib.hid (HG1.out.new fu.1)
          have IU : Hid (Win w1 3 1 u 60 (zCells (marks k (ns k + 12) 60))) := Lib.hid (by have := iu; unfold IWin at this; rw [marks_length] at this; exact this)
          have hcw : Hid (Win w1 3 1 (.slice la (ns k + 12) lc) (ns k + 12) (zCells (marks k 0 (ns k + 12)))) := Lib.hid (by have := HG2.out.cur; unfold IWin at this; rw [marks_length] at this; exact this)
          obtain ⟨ua, uc, rfl, _, _⟩ := Win.slice_form IU.out
          clear iu fu HM HG1
          go_wp2_with (at_builtin; refine wpList_append_tell rfl _ _ _ rfl Tryd.underlying39 infozz rfl rfl hcw.out _ rfl 60 (zCells (marks k (ns k + 12) 60)) (Win.src IU.out Tryd.underlying39 (zCells_one _)) (by omega) ?d1 ?d2 ?_)
          case d1 => unfold maxLen; omega
          case d2 => omega
          intro l2 w2 hW2 hG2 hT2
          have HG3 := Lib.hid (HG2.out.more hW2.out hG2.out (hT2.out.imp (fun ⟨g, off, cap, ⟨e1, e2⟩, e3⟩ => ⟨g, off, cap, by rw [e1, e2], e3⟩) id))
          clear hW2 hG2 hT2 HG2 IU hcw
          obtain ⟨l2a, l2c, rfl, _, _⟩ := Win.slice_form HG3.out.cur
          rw [marks_length, show 12 + 60 = 72 from rfl] at HG3 ⊢
          have HLO : Hid (LWin w2 (.slice oa gs.length oc) gs) := Lib.hid (HG3.out.frame.win HP.out.2.1 (fun x hx hxv => by
            have h1 := HP.out.2.2.1 x hx
            have h2 := HD.out.2.2.2.1 x ⟨k, _, HV.out, hxv⟩
            omega))
          go_wp2_with (at_builtin; refine wpList_append_win rfl _ _ _ rfl Tryd.underlying35 infoil rfl rfl (Win.alloc HLO.out _) _ rfl 1 [.slice l2a (ns k + 72) l2c] (src_one _ Tryd.underlying35 _ _ _ rfl ?e3) ?e1 ?e2 ?_)
          case e1 => have := HP.out.1; unfold maxLen; omega
          case e2 => have := HP.out.1; omega
          case e3 => rfl
          intro o3 w3 hW3 hG3 hO3
          have HF : Hid (GrowS w w3 b (.slice (some ⟨g, off, none⟩) vs.length c) vs ns (k + 1) o3 (gs ++ [.slice l2a (ns k + 72) l2c])) :=
            Lib.hid (grow_next HP.out HD.out.1 HD.out.2.1 HD.out.2.2.1 HV.out HD.out.2.2.2.1 HG3.out HD.out.2.2.2.2.1 HD.out.2.2.2.2.2 (by have h := hW3.out; rw [HP.out.1] at h; exact h) hG3.out (by simpa using hO3.out))
          obtain ⟨o3a, o3c, rfl, _, _⟩ := Win.slice_form hW3.out
          clear hW3 hG3 hO3 HG3 HLO HP
          go_wp2
          go_roundw
          case rel => exact ⟨k + 1, _, by omega, by go_num, HF⟩
          case measure => simp [RowKit.intOf]; omega
    · have e : k = vs.length := by omega
      subst e
      go_wp2
      go_ret
      exact ⟨_, gs, rfl, HP.out⟩
end Go.Proofs.YtpmbpcinfakckaaDoor
