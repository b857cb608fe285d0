/-
  LAWS of chapter 9: the book's copyEvs, LentEvs, SameEvs, StaysEvs; EventChecks.
-/
import Derived.Test.YtnhabheofdifhaaEvO
import Derived.Deep.QuietTactic
namespace Go.Proofs.Ytnhabheofdifhaa
open Go.RowKit
open Go.Lib
/-- What came in is a source for append. -/
theorem EvsAt.from {P : Program} {w : World} {B n c : Nat} {A : Option Addr} {E : Nat → Ev} (h : EvsAt w B A n E) {tx e' : TypeId} (hk : P.underlying tx = some (.slice e')) : Src P 5 tx (.slice A n c) n (evsC (pre E n)) w := by
  by_cases h0 : n = 0
  · subst h0
    cases A with
    | none => exact Src.ofNil w hk c
    | some a => exact Src.ofSlice w hk a 0 c _ (by simp [pre, evsC]) (fun j u hu => by simp [pre, evsC] at hu) (evsC_one _)
  · exact h.src hk (fun h1 => absurd h1 h0)
theorem info_ev : (Try.prog.info? 24).map (fun i => (i.zero, i.size, i.bytes)) = some (some (.agg #[.int .i64 0, .bool false, .int .u64 0, .string ⟨#[]⟩, .int .i64 0]), 5, 48) := by kernel_rfl
/-- A list that a call made, of blocks that were not there. -/
def Made (w0 w : World) (v : Value) (n : Nat) (L : List Ev) : Prop := Below w0.heap.size w0 w ∧ Win w 24 5 v n (evsC L) ∧ ∀ k ∈ Value.owner v, w0.heap.size ≤ k
theorem Made.go {w0 w w' : World} {v : Value} {n : Nat} {L : List Ev} (h : Made w0 w v n L) (k : Below w.heap.size w w') : Made w0 w' v n L :=
  ⟨up_trans h.1 k, h.2.1.keep fun g hg => k.block g (h.2.1.lt g hg), h.2.2⟩
/-- More of them. -/
theorem made_more {w0 wA w w2 : World} {v v' : Value} {n m : Nat} {L K : List Ev} (h : Made w0 wA v n L) (hA : Below wA.heap.size wA w) (hW : Win w2 24 5 v' (n + m) (evsC L ++ evsC K)) (hG : w.grownBy w2 v.ownBlock)
    (hO : v'.ownBlock = v.ownBlock ∨ v'.ownBlock = some w.heap.size ∧ w.heap.size < w2.heap.size) : Made w0 w2 v' (n + m) (L ++ K) := by
  have hw0 : w0.heap.size ≤ w.heap.size := Nat.le_trans h.1.size hA.size
  refine ⟨(up_trans h.1 hA).grown hG hw0 (fun k hk => h.2.2 k ((ob_iff _ _).1 hk)), by rw [evsC_append]; exact hW, fun k hk => ?_⟩
  rcases hO with e | ⟨e, _⟩
  · exact h.2.2 k ((ob_iff _ _).1 (e ▸ (ob_iff _ _).2 hk))
  · have := (ob_iff _ _).2 hk
    rw [e] at this
    cases this
    exact hw0
theorem made_nil (w : World) : Made w w (.slice none 0 0) 0 [] := ⟨Below.refl _ _, Win.nil_ _ _ _, fun k hk => by simp [Value.owner] at hk⟩
theorem evs_one (e : Ev) : evsC [e] = evCells e := by simp [evsC]
set_option maxHeartbeats 1000000 in
theorem ev_copy (A : Option Addr) (n cp : Nat) (E : Nat → Ev) (w : World) (hn : n ≤ 200) (hE : EvsAt w w.heap.size A n E) :
    Calls Try.prog 27 #[.slice A n cp] w fun r w' => ∃ v, r = .returned v ∧ Made w w' v n (pre E n) := by
  have HE := Lib.hid hE
  clear hE
  go_enter Try.func27, Try.ntmps27
  go_wp2_with (at_builtin; refine wpList_append_win rfl _ _ _ rfl Try.underlying38 info_ev rfl rfl (Win.nil_ _ _ _) _ rfl n _ (HE.out.from Try.underlying38) ?e1 ?e2 ?_)
  case e1 => unfold maxLen; omega
  case e2 => omega
  intro v2 w2 hW2 hG2 hO2
  have HM : Hid (Made w w2 v2 n (pre E n)) := Lib.hid (by
    have h := made_more (K := pre E n) (m := n) (made_nil w) (Below.refl _ _) (by simpa [evsC] using hW2.out) hG2.out (by simpa using hO2.out)
    simpa using h)
  clear hW2 hG2 hO2
  go_wp2
  go_ret
  exact ⟨_, rfl, HM.out⟩
theorem slice_hi {t : TypeId} {g off n cap k : Nat} (ht : Try.prog.underlying t = some (.slice 24)) (hk : k ≤ cap) (W : World) :
    (Instr.slice t (.slice (some ⟨g, off, none⟩) n cap) none (some (.int .i64 (k : Int))) none).run Try.prog W = .ok (.slice (some ⟨g, off, none⟩) k cap) W := by
  have ht' : Try.prog.underlying t = some (.slice (Try.prog.elem t)) := by simp [Program.elem, ht]
  have he : Try.prog.elem t = 24 := by simp [Program.elem, ht]
  have hz : ∀ W, (Go.sizeOf 24).run Try.prog W = .ok 5 W := fun W => by kernel_rfl
  rw [run_slice_h W t _ _ _ ht' .i64 _ (by omega) (by omega), he, hz]
  by_cases h0 : cap = 0 <;> simp [Result.andThen, sliced, h0, add_flat]
def evMark : Ev := ⟨0, false, 0, ⟨#[]⟩, -77⟩
set_option maxHeartbeats 1000000 in
theorem lent_any (A : Option Addr) (n cp : Nat) (E : Nat → Ev) (w : World) (hn : n ≤ 200) (hE : EvsAt w w.heap.size A n E) :
    Calls Try.prog 19 #[.slice A n cp] w fun r w' => ∃ g off cap, r = .returned (.slice (some ⟨g, off, none⟩) n cap) ∧ n + 1 ≤ cap ∧ cap ≤ 9223372036854775807 ∧ Made w w' (.slice (some ⟨g, off, none⟩) (n + 1) cap) (n + 1) (pre E n ++ [evMark]) := by
  have HE := Lib.hid hE
  clear hE
  go_enter Try.func19, Try.ntmps19
  go_wp2_with fail
  refine (ev_copy A n cp E _ hn HE.out).mono ?_
  rintro e w1 ⟨v1, rfl, h1⟩
  have H1 := Lib.hid h1
  clear h1
  obtain ⟨a1, c1, rfl, _, _⟩ := H1.out.2.1.slice_form
  go_wp2_with (at_builtin; refine wpList_append_win rfl _ _ _ rfl Try.underlying38 info_ev rfl rfl (H1.out.2.1.alloc _) _ rfl 1 _ (src_new _ Try.underlying38 5 1 (evCells evMark) 24 _ rfl (by rw [← evs_one]; exact evsC_one _) (heap_alloc_new w1 _)) ?e1 ?e2 ?_)
  case e1 => unfold maxLen; omega
  case e2 => omega
  intro v2 w2 hW2 hG2 hO2
  have hM : Made w w2 v2 (n + 1) (pre E n ++ [evMark]) := made_more (K := [evMark]) (m := 1) H1.out (up_alloc (Below.refl _ _) _) (by simpa [evs_one] using hW2.out) hG2.out (by simpa using hO2.out)
  obtain ⟨g, off, cap, rfl, h1, h2, _, _, _⟩ := hM.2.1.form (by omega)
  have HM := Lib.hid hM
  clear hW2 hG2 hO2 hM
  have hs := fun W => slice_hi (g := g) (off := off) (n := n + 1) (cap := cap) (k := n) Try.underlying38 (by omega) W
  go_wp2
  go_ret
  exact ⟨g, off, cap, rfl, h1, h2, HM.out⟩
theorem below_drN {B : Nat} {w w' : World} (h : Below B w w') (q : Nat) : Below B w (w'.drewN q) := ⟨h.os, h.tape, h.output, h.size, h.block⟩
/-- Two lists that hold the same. -/
theorem same_evs (A A' : Option Addr) (n cp cp' : Nat) (E : Nat → Ev) (w : World) (hn : n ≤ 900) (hE : EvsAt w w.heap.size A n E) (hE' : EvsAt w w.heap.size A' n E) :
    Calls Try.prog 29 #[.slice A n cp, .slice A' n cp'] w fun r w' => r = .returned (.bool true) ∧ Below w.heap.size w w' := by
  have HE := Lib.hid hE
  have HE' := Lib.hid hE'
  clear hE hE'
  go_enter Try.func29, Try.ntmps29
  go_wp2
  go_loopw [5] (fun i wr => ∃ j : Nat, i = .int .i64 j ∧ j ≤ n ∧ Hid (Below w.heap.size w wr)) (fun i _ => n - (RowKit.intOf i).toNat)
  case atStart => exact ⟨0, rfl, by omega, Lib.hid (Below.refl _ _)⟩
  case round =>
    obtain ⟨j, rfl, hjn, HB⟩ := hrel
    by_cases hlt : j < n
    · obtain ⟨b, off, rfl, hb, x0, x1, x2, x3, x4⟩ := (HE.out.below HB.out).cells hlt
      obtain ⟨b', off', rfl, hb', y0, y1, y2, y3, y4⟩ := (HE'.out.below HB.out).cells hlt
      have he := fun W => ev_eql (E j) (E j) W
      rw [sameE_refl] at he
      generalize E j = e at *
      obtain ⟨k, y, m, t, c⟩ := e
      simp only [evV] at he x0 x1 x2 x3 x4 y0 y1 y2 y3 y4
      go_wp2
      go_quiet (fail)
      go_wp2
      go_roundw
      case rel => exact ⟨j + 1, rfl, hlt, Lib.hid (below_drN HB.out _)⟩
      case measure => simp [RowKit.intOf]; omega
    · obtain rfl : j = n := by omega
      go_wp2
      go_ret
      exact ⟨rfl, HB.out⟩
set_option maxHeartbeats 1000000 in
theorem stays_any (g off cap : Nat) (A' : Option Addr) (n cp' : Nat) (E : Nat → Ev) (w : World) (hn : n ≤ 200) (hc : n + 1 ≤ cap) (hW : Win w 24 5 (.slice (some ⟨g, off, none⟩) (n + 1) cap) (n + 1) (evsC (pre E n ++ [evMark]))) (hE' : EvsAt w w.heap.size A' n E) :
    Calls Try.prog 22 #[.slice (some ⟨g, off, none⟩) n cap, .slice A' n cp'] w fun r w' => r = .returned (.bool true) ∧ Below w.heap.size w w' := by
  have hE : EvsAt w w.heap.size (some ⟨g, off, none⟩) n E := fun h0 => by
    have h1 := evs_win (n := n) hW (by simp [pre_length])
    obtain ⟨b, o, hv, hb, hx⟩ := h1 h0
    refine ⟨b, o, hv, hb, fun i hi j u hu => hx i hi j u ?_⟩
    rw [show getE (pre E n ++ [evMark]) i = E i by simp [getE, pre, List.getElem?_append, hi]]
    exact hu
  have hS := fun cp => same_evs (some ⟨g, off, none⟩) A' n cp cp' E w (by omega) hE hE'
  have HS := Lib.hid hS
  have hlast : EvsAt w w.heap.size (some ⟨g, off, none⟩) (n + 1) (getE (pre E n ++ [evMark])) := evs_win hW (by simp [pre_length])
  obtain ⟨b, o, hv, hb, x0, x1, x2, x3, x4⟩ := hlast.cells (show n < n + 1 by omega)
  simp only [Option.some.injEq, Addr.mk.injEq, and_true] at hv
  obtain ⟨rfl, rfl⟩ := hv
  rw [show getE (pre E n ++ [evMark]) n = evMark by simp [getE, pre]] at x4
  simp only [evMark] at x4
  have X4 : Hid (∀ w', Below w.heap.size w w' → w'.cell? ⟨g, off + n * 5 + 4, none⟩ = some (.int .i64 (-77))) := Lib.hid fun w' h => (h.cell hb).trans x4
  have hs := fun W => slice_hi (g := g) (off := off) (n := n) (cap := cap) (k := n + 1) Try.underlying38 (by omega) W
  clear hS hlast x0 x1 x2 x3 x4 hE hE' hW
  go_enter Try.func22, Try.ntmps22
  go_wp2_with fail
  refine (HS.out _).mono ?_
  rintro e w1 ⟨rfl, b1⟩
  have x4 := X4.out _ b1
  have B1 := Lib.hid b1
  clear b1
  go_wp2
  go_ret
  exact ⟨rfl, B1.out⟩
theorem EvsAt.grow {w w' : World} {n : Nat} {A : Option Addr} {E : Nat → Ev} (h : EvsAt w w.heap.size A n E) (k : Below w.heap.size w w') : EvsAt w' w'.heap.size A n E := fun h0 => by
  obtain ⟨b, off, hA, hb, hc⟩ := h.below k h0
  exact ⟨b, off, hA, Nat.lt_of_lt_of_le hb k.size, hc⟩
theorem checks_long (A : Option Addr) (n cp : Nat) (w : World) (hn : ¬ n ≤ 100) :
    Calls Try.prog 4 #[.slice A n cp] w fun r w' => r = .returned (.bool true) ∧ Below w.heap.size w w' := by
  have hz : ((100 : Int) < (n : Int)) = True := by simp; omega
  clear hn
  go_enter Try.func4, Try.ntmps4
  go_wp2_with fail
  refine (ev_alive _).mono ?_
  rintro e w1 ⟨rfl, b1⟩
  have B1 := Lib.hid b1
  clear b1
  go_wp2
  go_ret
  exact ⟨rfl, B1.out⟩
set_option maxHeartbeats 1000000 in
theorem checks_any (A : Option Addr) (n cp : Nat) (E : Nat → Ev) (w : World) (hE : EvsAt w w.heap.size A n E) (hok : ∀ i, i < n → EvOk (E i)) :
    Calls Try.prog 4 #[.slice A n cp] w fun r w' => r = .returned (.bool true) ∧ Below w.heap.size w w' := by
  by_cases hn : n ≤ 100
  · have hz : ((100 : Int) < (n : Int)) = False := by simp; omega
    have HE := Lib.hid hE
    have HOK := Lib.hid hok
    have HN := Lib.hid hn
    clear hE hok hn
    go_enter Try.func4, Try.ntmps4
    go_wp2_with fail
    refine (ev_alive _).mono ?_
    rintro e w1 ⟨rfl, b1⟩
    have B1 := Lib.hid b1
    have E1 := Lib.hid (HE.out.grow b1)
    clear b1
    go_wp2_with fail
    refine (lent_any A n cp E _ (by have := HN.out; omega) E1.out).mono ?_
    rintro e w2 ⟨g, off, cap, rfl, hc1, hc2, hM⟩
    have M2 := Lib.hid hM
    have E2 := Lib.hid (E1.out.grow hM.1)
    have HC := Lib.hid (And.intro hc1 hc2)
    have B2 := Lib.hid (up_trans B1.out hM.1)
    clear hM hc1 hc2
    have hCk := check_any (some ⟨g, off, none⟩) n cap (getE (pre E n ++ [evMark])) w2 (by have := HN.out; omega) (evs_win M2.out.2.1 (by simp [pre_length])) (fun i hi => by
      rw [show getE (pre E n ++ [evMark]) i = E i by simp [getE, pre, List.getElem?_append, hi]]
      exact HOK.out i hi)
    rw [pre_ext (F := E) (fun i hi => show getE (pre E n ++ [evMark]) i = E i by simp [getE, pre, List.getElem?_append, hi])] at hCk
    obtain ⟨Z, hZ⟩ : ∃ Z : Nat, checkE (pre E n) = Z := ⟨_, rfl⟩
    have hRk := fun w' (h : EvsAt w' w'.heap.size A n E) => rcheck_any A n cp E w' (by have := HN.out; omega) h HOK.out
    rw [hZ] at hCk
    simp only [hZ] at hRk
    have CK := Lib.hid hCk
    have RK := Lib.hid hRk
    have hZZ : ((Z : Int) == (Z : Int)) = true := by simp
    clear hCk hRk hZ
    go_wp2_with fail
    refine CK.out.mono ?_
    rintro e w3 ⟨rfl, b3⟩
    have B3 := Lib.hid (up_trans B2.out b3)
    have E3 := Lib.hid (E2.out.grow b3)
    have M3 := Lib.hid (M2.out.go b3)
    clear b3
    go_wp2_with fail
    refine (RK.out _ E3.out).mono ?_
    rintro e w4 ⟨rfl, b4⟩
    have B4 := Lib.hid (up_trans B3.out b4)
    have E4 := Lib.hid (E3.out.grow b4)
    have M4 := Lib.hid (M3.out.go b4)
    clear b4
    go_wp2_with fail
    refine (stays_any g off cap A n cp E _ (by have := HN.out; omega) HC.out.1 M4.out.2.1 E4.out).mono ?_
    rintro e w5 ⟨rfl, b5⟩
    have B5 := Lib.hid (up_trans B4.out b5)
    clear b5
    go_wp2
    go_ret
    exact ⟨rfl, B5.out⟩
  · exact checks_long A n cp w hn
end Go.Proofs.Ytnhabheofdifhaa
