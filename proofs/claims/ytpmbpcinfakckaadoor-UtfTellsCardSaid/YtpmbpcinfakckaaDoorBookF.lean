/-
  THE HELPERS' BOOK OF LISTS OF INTS, PART 6: Ints.
-/
import Derived.Test.YtpmbpcinfakckaaDoorBookE
import Derived.Deep.RegionLaw
namespace Go.Proofs.YtpmbpcinfakckaaDoor
open Go.RowKit
open Go.Lib
/-- The book at block b keeps these lists (and copies ws of them), all of it new since B. -/
def BookI (B : Nat) (w : World) (b : Nat) (vs ws : List Value) (xss : Nat → List Int) : Prop :=
  ∃ vi wi, w.heap[b]? = some (.cells #[.slice none 0 0, .slice none 0 0, vi, wi, .slice none 0 0, .slice none 0 0] 38 (0, 0)) ∧ LWin w vi vs ∧ LWin w wi ws ∧ ws.length = vs.length ∧ FamF w vs xss ∧ FamF w ws xss ∧ Disj vs ∧
    (∀ x ∈ Value.owner vi, x ∉ Value.owner wi) ∧ B ≤ b ∧ (∀ x, Owns vs x → B ≤ x) ∧ (∀ x ∈ Value.owner vi, B ≤ x) ∧ (∀ x ∈ Value.owner wi, B ≤ x)
theorem book_new (w : World) : BookI w.heap.size (w.alloc (.cells #[.slice none 0 0, .slice none 0 0, .slice none 0 0, .slice none 0 0, .slice none 0 0, .slice none 0 0] 38)) w.heap.size [] [] (fun _ => []) :=
  ⟨_, _, heap_alloc_new w _, Win.nil_ _ _ _, Win.nil_ _ _ _, rfl, fun i v h => by simp at h, fun i v h => by simp at h, fun i j v u _ h => by simp at h, by simp [Value.owner], Nat.le_refl _, fun x ⟨i, v, h, _⟩ => by simp at h, by simp [Value.owner], by simp [Value.owner]⟩
theorem FamF.off {w w' : World} {vs : List Value} {c : Nat → List Int} (h : FamF w vs c) (ho : Off [38, 39] w w') : FamF w' vs c := fun i v hv => Win.keep (h i v hv) fun k hk => by
  obtain ⟨cur, hc⟩ := Win.typed (h i v hv) k hk
  rw [ho k _ _ _ hc (by decide), hc]
theorem IWin.off {w w' : World} {v : Value} {xs : List Int} (h : IWin w v xs) (ho : Off [38, 39] w w') : IWin w' v xs := Win.keep h fun k hk => by
  obtain ⟨cur, hc⟩ := Win.typed h k hk
  rw [ho k _ _ _ hc (by decide), hc]
/-- Between the two statements of Ints. -/
def IntsMid (B : Nat) (w W : World) (b : Nat) (v2 wi : Value) (vs ws : List Value) (xs : List Int) (l : Value) : Prop :=
  W.heap[b]? = some (.cells #[.slice none 0 0, .slice none 0 0, v2, wi, .slice none 0 0, .slice none 0 0] 38 (0, 0)) ∧ LWin W v2 (vs ++ [l]) ∧ LWin W wi ws ∧ IWin W l xs ∧ Below B w W ∧ Off [38, 39] w W ∧
    (∀ x ∈ Value.owner v2, x ∉ Value.owner wi) ∧ (∀ x ∈ Value.owner v2, B ≤ x) ∧ w.heap.size ≤ W.heap.size
theorem ints_mid {B : Nat} {w w2 : World} {b : Nat} {vi wi v2 l : Value} {vs ws : List Value} {xs : List Int} {o : Array Value} (hb : w.heap[b]? = some (.cells #[.slice none 0 0, .slice none 0 0, vi, wi, .slice none 0 0, .slice none 0 0] 38 (0, 0)))
    (hvi : LWin w vi vs) (hwi : LWin w wi ws) (hdis : ∀ x ∈ Value.owner vi, x ∉ Value.owner wi) (hbB : B ≤ b) (hviB : ∀ x ∈ Value.owner vi, B ≤ x) (hl : IWin w l xs) (hB : B ≤ w.heap.size)
    (hW : Win w2 39 1 v2 (vs.length + 1) (vs ++ [l])) (hG : (w.alloc (.cells o 39)).grownBy w2 vi.ownBlock) (hO : v2.ownBlock = vi.ownBlock ∨ v2.ownBlock = some (w.heap.size + 1) ∧ w.heap.size + 1 < w2.heap.size) :
    IntsMid B w (w2.setCell ⟨b, 2, none⟩ v2) b v2 wi vs ws xs l := by
  have hbl : b < w.heap.size := (Array.getElem?_eq_some_iff.1 hb).1
  have hvb : vi.ownBlock ≠ some b := fun e => hvi.apart hb (by decide) ((ob_iff _ _).1 e)
  have hb2 : w2.heap[b]? = some (.cells #[.slice none 0 0, .slice none 0 0, vi, wi, .slice none 0 0, .slice none 0 0] 38 (0, 0)) := (hG.block b (by simp; omega) (fun e => hvb e.symm)).trans ((Below.heap_alloc _ _ _ hbl).trans hb)
  have hb3 := heap_setCell_same w2 b 2 _ _ v2 hb2
  have hown : ∀ x ∈ Value.owner v2, x ∈ Value.owner vi ∨ x = w.heap.size + 1 := fun x hx => by
    rw [← ob_iff] at hx
    rcases hO with e | ⟨e, _⟩
    · exact .inl ((ob_iff _ _).1 (e ▸ hx))
    · rw [e] at hx; injection hx with hx; exact .inr hx.symm
  have ho1 : Off [38, 39] w w2 := ((Off.refl _ w).alloc (.cells o 39)).trans (off_grown hG fun k cs t fr hk hc => by
    have hkl : k < w.heap.size := Win.lt hvi k ((ob_iff _ _).1 hk)
    rw [Below.heap_alloc _ _ _ hkl] at hc
    obtain ⟨cur, hcur⟩ := Win.typed hvi k ((ob_iff _ _).1 hk)
    rw [hcur] at hc
    injection hc with hc
    injection hc with _ h2 _
    subst h2
    simp)
  have ho2 : Off [38, 39] w (w2.setCell ⟨b, 2, none⟩ v2) := ho1.setCell hb (by simp) _
  have hwi2 : LWin w2 wi ws := Win.keep hwi fun x hx => (hG.block x (by have := Win.lt hwi x hx; simp; omega) (fun e => hdis x ((ob_iff _ _).1 e.symm) hx)).trans (Below.heap_alloc _ _ _ (Win.lt hwi x hx))
  refine ⟨hb3, ?_, Win.setCell_far hwi2 (p := ⟨b, 2, none⟩) (Win.apart hwi2 hb2 (by decide)) _, hl.off ho2, ?_, ho2, fun x hx hxw => ?_, fun x hx => ?_, ?_⟩
  · unfold LWin
    rw [List.length_append]
    exact Win.setCell_far hW (p := ⟨b, 2, none⟩) (Win.apart hW hb2 (by decide)) _
  · exact ((((Below.refl B w).alloc hB _).grown hG (by simp; omega) (fun k hk => hviB k ((ob_iff _ _).1 hk)))).setCell (p := ⟨b, 2, none⟩) hbB _
  · rcases hown x hx with h | h
    · exact hdis x h hxw
    · have := Win.lt hwi x hxw; omega
  · rcases hown x hx with h | h
    · exact hviB x h
    · omega
  · have := hG.size
    simp [World.setCell] at this ⊢
    omega
theorem ints_cell {v1 w3 : World} {b : Nat} {v2 wi : Value} {o : Obj} {row : Option Nat} (h : v1.heap[b]? = some (.cells #[.slice none 0 0, .slice none 0 0, v2, wi, .slice none 0 0, .slice none 0 0] 38 (0, 0))) (hG : (v1.alloc o).grownBy w3 row) (hne : row ≠ some b) :
    w3.heap[b]? = some (.cells #[.slice none 0 0, .slice none 0 0, v2, wi, .slice none 0 0, .slice none 0 0] 38 (0, 0)) ∧ w3.cell? ⟨b, 3, none⟩ = some wi ∧ w3.frozen? ⟨b, 3, none⟩ = false := by
  have hl := (Array.getElem?_eq_some_iff.1 h).1
  have h3 := (hG.block b (by simp; omega) (fun e => hne e.symm)).trans ((Below.heap_alloc _ _ _ hl).trans h)
  exact ⟨h3, by simp [World.cell?, h3], by simp [World.frozen?, h3]⟩
/-- Behind the second statement of Ints. -/
theorem ints_end {B : Nat} {w W v1 w3 : World} {b : Nat} {v2 wi v3 u l : Value} {vs ws : List Value} {xs : List Int} {xss : Nat → List Int} {o : Array Value} (hM : IntsMid B w W b v2 wi vs ws xs l)
    (hlen : ws.length = vs.length) (hfv : FamF w vs xss) (hfw : FamF w ws xss) (hd : Disj vs) (hbB : B ≤ b) (hoB : ∀ x, Owns vs x → B ≤ x) (hwiB : ∀ x ∈ Value.owner wi, B ≤ x) (hB : B ≤ w.heap.size) (hlB : ∀ x ∈ Value.owner l, B ≤ x) (hld : ∀ x ∈ Value.owner l, ¬ Owns vs x)
    (hu : IWin v1 u xs) (hF : Fresh W.drew v1 u) (h3 : w3.heap[b]? = some (.cells #[.slice none 0 0, .slice none 0 0, v2, wi, .slice none 0 0, .slice none 0 0] 38 (0, 0)))
    (hW : Win w3 39 1 v3 (ws.length + 1) (ws ++ [u])) (hG : (v1.alloc (.cells o 39)).grownBy w3 wi.ownBlock) (hO0 : v3.ownBlock = wi.ownBlock ∨ v3.ownBlock = some (v1.alloc (.cells o 39)).heap.size ∧ (v1.alloc (.cells o 39)).heap.size < w3.heap.size) :
    (∃ ws', BookI B (w3.setCell ⟨b, 3, none⟩ v3) b (vs ++ [l]) ws' (fun i => if i = vs.length then xs else xss i)) ∧ Below B w (w3.setCell ⟨b, 3, none⟩ v3) ∧ Off [38, 39] w (w3.setCell ⟨b, 3, none⟩ v3) := by
  obtain ⟨m1, m2, m3, m4, m5, m6, m7, m8, m9⟩ := hM
  have hO : v3.ownBlock = wi.ownBlock ∨ v3.ownBlock = some (v1.heap.size + 1) ∧ v1.heap.size + 1 < w3.heap.size := by simpa using hO0
  have hBW : B ≤ W.heap.size := by omega
  have f1 : Below W.heap.size W v1 := ⟨hF.1.os, hF.1.tape, hF.1.output, hF.1.size, hF.1.block⟩
  have hw1 : LWin v1 wi ws := LWin.new m3 f1
  have hbl1 : b < W.heap.size := (Array.getElem?_eq_some_iff.1 m1).1
  have hv1 : v1.heap[b]? = _ := (f1.block b hbl1).trans m1
  have hvi1 : LWin v1 v2 (vs ++ [l]) := LWin.new m2 f1
  have o1 : Off [38, 39] W v1 := fun k c t fr hk _ => (f1.block k (Array.getElem?_eq_some_iff.1 hk).1).trans hk
  have o2 : Off [38, 39] v1 w3 := ((Off.refl _ v1).alloc (.cells o 39)).trans (off_grown hG fun k cs t fr hk hc => by
    have hkl : k < v1.heap.size := Win.lt hw1 k ((ob_iff _ _).1 hk)
    rw [Below.heap_alloc _ _ _ hkl] at hc
    obtain ⟨cur, hcur⟩ := Win.typed hw1 k ((ob_iff _ _).1 hk)
    rw [hcur] at hc
    injection hc with hc
    injection hc with _ h2 _
    subst h2
    simp)
  have o3 : Off [38, 39] v1 (w3.setCell ⟨b, 3, none⟩ v3) := o2.setCell hv1 (by simp) _
  have oall := m6.trans (o1.trans o3)
  have hsz1 := f1.size
  have b3 : Below B v1 (w3.setCell ⟨b, 3, none⟩ v3) := (((Below.refl B v1).alloc (by omega) _).grown hG (by simp; omega) (fun k hk => hwiB k ((ob_iff _ _).1 hk))).setCell (p := ⟨b, 3, none⟩) hbB _
  have ball := m5.trans ((f1.mono hBW).trans b3)
  have hvi3 : LWin w3 v2 (vs ++ [l]) := Win.keep hvi1 fun x hx => (hG.block x (by have := Win.lt hvi1 x hx; simp; omega) (fun e => m7 x hx ((ob_iff _ _).1 e.symm))).trans (Below.heap_alloc _ _ _ (Win.lt hvi1 x hx))
  have hown : ∀ x ∈ Value.owner v3, x ∈ Value.owner wi ∨ x = v1.heap.size + 1 := fun x hx => by
    rw [← ob_iff] at hx
    rcases hO with e | ⟨e, _⟩
    · exact .inl ((ob_iff _ _).1 (e ▸ hx))
    · rw [e] at hx; injection hx with hx; exact .inr hx.symm
  refine ⟨⟨ws ++ [u], v2, v3, heap_setCell_same w3 b 3 _ _ v3 h3, Win.setCell_far hvi3 (p := ⟨b, 3, none⟩) (Win.apart hvi3 h3 (by decide)) _, ?_, by simp [hlen], fun i v hv => ?_, fun i v hv => ?_, ?_, fun x hx hx3 => ?_, hbB, ?_, m8, fun x hx => ?_⟩, ball, oall⟩
  · unfold LWin
    rw [List.length_append]
    exact Win.setCell_far hW (p := ⟨b, 3, none⟩) (Win.apart hW h3 (by decide)) _
  · by_cases hi : i < vs.length
    · rw [List.getElem?_append_left hi] at hv
      show IWin _ v (if i = vs.length then xs else xss i)
      rw [if_neg (by omega)]
      exact (hfv i v hv).off oall
    · rw [List.getElem?_append_right (by omega)] at hv
      have hi0 : i = vs.length := by
        rcases Nat.lt_or_ge vs.length i with h | h
        · rw [List.getElem?_eq_none (by simp; omega)] at hv; cases hv
        · omega
      subst hi0
      simp at hv
      subst hv
      show IWin _ _ (if vs.length = vs.length then xs else xss vs.length)
      rw [if_pos rfl]
      exact m4.off (o1.trans o3)
  · by_cases hi : i < ws.length
    · rw [List.getElem?_append_left hi] at hv
      show IWin _ v (if i = vs.length then xs else xss i)
      rw [if_neg (by omega)]
      exact (hfw i v hv).off oall
    · rw [List.getElem?_append_right (by omega)] at hv
      have hi0 : i = ws.length := by
        rcases Nat.lt_or_ge ws.length i with h | h
        · rw [List.getElem?_eq_none (by simp; omega)] at hv; cases hv
        · omega
      subst hi0
      simp at hv
      subst hv
      show IWin _ _ (if ws.length = vs.length then xs else xss ws.length)
      rw [if_pos hlen]
      exact hu.off o3
  · have hsplit : ∀ (i : Nat) (v : Value), (vs ++ [l])[i]? = some v → (i < vs.length ∧ vs[i]? = some v) ∨ (i = vs.length ∧ v = l) := fun i v hv => by
      by_cases hi : i < vs.length
      · rw [List.getElem?_append_left hi] at hv
        exact .inl ⟨hi, hv⟩
      · rw [List.getElem?_append_right (by omega)] at hv
        rcases Nat.lt_or_ge vs.length i with h | h
        · rw [List.getElem?_eq_none (by simp; omega)] at hv; cases hv
        · have : i = vs.length := by omega
          subst this
          simp at hv
          exact .inr ⟨rfl, hv.symm⟩
    intro i j v v' hij hv hv' k hk hk'
    rcases hsplit i v hv with ⟨_, q1⟩ | ⟨q0, rfl⟩ <;> rcases hsplit j v' hv' with ⟨_, r1⟩ | ⟨r0, rfl⟩
    · exact hd i j v v' hij q1 r1 k hk hk'
    · exact hld k hk' ⟨i, v, q1, hk⟩
    · exact hld k hk ⟨j, v', r1, hk'⟩
    · omega
  · rcases hown x hx3 with h | h
    · exact m7 x hx h
    · have := Win.lt hvi1 x hx; omega
  · rintro x ⟨i, v, hv, hx⟩
    by_cases hi : i < vs.length
    · rw [List.getElem?_append_left hi] at hv
      exact hoB x ⟨i, v, hv, hx⟩
    · rw [List.getElem?_append_right (by omega)] at hv
      rcases Nat.lt_or_ge vs.length i with h | h
      · rw [List.getElem?_eq_none (by simp; omega)] at hv; cases hv
      · have : i = vs.length := by omega
        subst this
        simp at hv
        subst hv
        exact hlB x hx
  · rcases hown x hx with h | h
    · exact hwiB x h
    · omega
set_option maxRecDepth 100000 in
set_option maxHeartbeats 1000000 in
theorem ints_any {B : Nat} {w : World} {b : Nat} {vs ws : List Value} {xss : Nat → List Int} (h : BookI B w b vs ws xss) (hB : B ≤ w.heap.size) {l : Value} {xs : List Int} (hl : IWin w l xs) (hn : xs.length ≤ 100000) (hlB : ∀ x ∈ Value.owner l, B ≤ x) (hld : ∀ x ∈ Value.owner l, ¬ Owns vs x) (hm : vs.length < 250) :
    Calls Tryd.prog 19 #[.pointer (some ⟨b, 0, none⟩), l] w fun e w' => e = .returned (.tuple #[]) ∧ (∃ ws', BookI B w' b (vs ++ [l]) ws' (fun i => if i = vs.length then xs else xss i)) ∧ Below B w w' ∧ Off [38, 39] w w' := by
  obtain ⟨vi, wi, hb, hvi, hwi, hlen, hfv, hfw, hd, hdis, hbB, hoB, hviB, hwiB⟩ := h
  obtain ⟨a, c, rfl, _, _⟩ := Win.slice_form hvi
  obtain ⟨a', c', rfl, _, _⟩ := Win.slice_form hwi
  obtain ⟨la, lc, rfl, _, _⟩ := Win.slice_form hl
  have hc2 : w.cell? ⟨b, 2, none⟩ = some (.slice a vs.length c) := by simp [World.cell?, hb]
  have hf2 : w.frozen? ⟨b, 2, none⟩ = false := by simp [World.frozen?, hb]
  have HVI := Lib.hid hvi
  have HWI := Lib.hid hwi
  have HB := Lib.hid hb
  have HR := Lib.hid (And.intro hlen (And.intro hfv (And.intro hfw (And.intro hd (And.intro hdis (And.intro hbB (And.intro hoB (And.intro hviB (And.intro hwiB (And.intro hB (And.intro hl (And.intro hn (And.intro hlB hld)))))))))))))
  have hbl : b < w.heap.size := (Array.getElem?_eq_some_iff.1 hb).1
  have hvib : (Value.slice a vs.length c).ownBlock ≠ some b := fun e => hvi.apart hb (by decide) ((ob_iff _ _).1 e)
  have HVB := Lib.hid hvib
  have HWB : Hid ((Value.slice a' ws.length c').ownBlock ≠ some b) := Lib.hid fun e => hwi.apart hb (by decide) ((ob_iff _ _).1 e)
  have hltz : (vs.length : Int) < 250 := by omega
  clear hb hvi hwi hlen hfv hfw hd hdis hbB hoB hviB hwiB hl hlB hld hB hvib
  go_enter Tryd.func19, Tryd.ntmps19
  go_wp2_with (at_builtin; refine wpList_append_win rfl _ _ _ rfl Tryd.underlying35 infoil rfl rfl (Win.alloc HVI.out _) _ rfl 1 [.slice la xs.length lc] (src_one _ Tryd.underlying35 _ _ _ rfl ?e3) ?e1 ?e2 ?_)
  case e1 => unfold maxLen; omega
  case e2 => omega
  case e3 => rfl
  intro v2 w2 hW2 hG2 hO2
  obtain ⟨a2, c2, rfl, _, _⟩ := Win.slice_form hW2.out
  have hb2 : w2.heap[b]? = some (.cells #[.slice none 0 0, .slice none 0 0, .slice a vs.length c, .slice a' ws.length c', .slice none 0 0, .slice none 0 0] 38 (0, 0)) :=
    (hG2.out.block b (by simp; omega) (fun e => HVB.out e.symm)).trans ((Below.heap_alloc _ _ _ hbl).trans HB.out)
  have hc2' : w2.cell? ⟨b, 2, none⟩ = some (.slice a vs.length c) := by simp [World.cell?, hb2]
  have hf2' : w2.frozen? ⟨b, 2, none⟩ = false := by simp [World.frozen?, hb2]
  have HM := Lib.hid (ints_mid HB.out HVI.out HWI.out HR.out.2.2.2.2.1 HR.out.2.2.2.2.2.1 HR.out.2.2.2.2.2.2.2.1 HR.out.2.2.2.2.2.2.2.2.2.2.1 HR.out.2.2.2.2.2.2.2.2.2.1 hW2.out hG2.out (by simpa using hO2.out))
  clear hb2 hW2 hG2 hO2
  go_wp2
  clear hc2' hf2' hc2 hf2
  generalize w2.setCell ⟨b, 2, none⟩ (.slice a2 (vs.length + 1) c2) = W at HM ⊢
  have hbW := HM.out.1
  have hbl2 : b < W.heap.size := (Array.getElem?_eq_some_iff.1 hbW).1
  have hc3 : W.cell? ⟨b, 3, none⟩ = some (.slice a' ws.length c') := by simp [World.cell?, hbW]
  have IWd : Hid (IWin W.drew (.slice la xs.length lc) xs) := Lib.hid HM.out.2.2.2.1
  have LWd : Hid (LWin W.drew (.slice a' ws.length c') ws) := Lib.hid HM.out.2.2.1
  have HBW := Lib.hid hbW
  have hxn : xs.length ≤ 1000000 := by omega
  have HLen := Lib.hid HR.out.1
  have hwl : ws.length < 250 := by rw [HLen.out]; omega
  clear hbW
  go_region_law (first
    | (go_simp; (go_at_call 27); (refine (copy_any IWd.out hxn).mono ?_); rintro e v1 ⟨u, rfl, iu, fu⟩; have hh1 : v1.heap[b]? = _ := (fu.1.block b hbl2).trans HBW.out; have d3 : v1.cell? ⟨b, 3, none⟩ = some (.slice a' ws.length c') := (by simp [World.cell?, hh1]); have d3' : ∀ o, (v1.alloc o).cell? ⟨b, 3, none⟩ = some (.slice a' ws.length c') := fun o => (World.cell?_alloc_lt v1 o ⟨b, 3, none⟩ (Array.getElem?_eq_some_iff.1 hh1).1).trans d3; have HH1 := Lib.hid hh1; have LW1 := Lib.hid (LWin.new LWd.out fu.1); have IU := Lib.hid iu; have FU := Lib.hid fu; obtain ⟨ua, uc, rfl, _, _⟩ := Win.slice_form iu; clear hh1 iu fu)
    | (refine step_append_win rfl _ _ _ rfl Tryd.underlying35 infoil rfl rfl (Win.alloc LW1.out _) _ rfl 1 _ (src_one _ Tryd.underlying35 _ _ _ rfl rfl) (by unfold maxLen; omega) (by omega) ?_; intro v3 w3 hW3 hG3 hO3; obtain ⟨q3, q4, q5⟩ := ints_cell HH1.out hG3.out HWB.out; obtain ⟨a3, c3, rfl, _, _⟩ := Win.slice_form hW3.out; have HQ3 := Lib.hid q3; clear q3))
  all_goals
    have HE := Lib.hid (ints_end HM.out HR.out.1 HR.out.2.1 HR.out.2.2.1 HR.out.2.2.2.1 HR.out.2.2.2.2.2.1 HR.out.2.2.2.2.2.2.1 HR.out.2.2.2.2.2.2.2.2.1 HR.out.2.2.2.2.2.2.2.2.2.1 HR.out.2.2.2.2.2.2.2.2.2.2.2.2.1 HR.out.2.2.2.2.2.2.2.2.2.2.2.2.2 IU.out FU.out HQ3.out hW3.out hG3.out hO3.out)
    clear hW3 hG3 hO3 HQ3
    go_wp2
    refine bodyPost_end (results_none rfl _ _ _) rfl ?_
    exact ⟨rfl, HE.out⟩
end Go.Proofs.YtpmbpcinfakckaaDoor
