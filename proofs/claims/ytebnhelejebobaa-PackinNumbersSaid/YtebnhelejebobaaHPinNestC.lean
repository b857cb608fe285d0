/-
  CONTRACTS of package packin, part C: atKey, enter.
-/
import Derived.Test.YtebnhelejebobaaG1a
import Derived.Deep.RegionWith
/-
  CONTRACTS of package packin, part C: atKey, enter.
-/
namespace Go.Proofs.Ytebnhelejebobaa
open Go.RowKit
open Go.Lib
set_option maxRecDepth 100000 in
set_option maxHeartbeats 1000000 in
theorem pkey_any {w : World} {v : Value} {s : List Bx} (h : Win w 136 2 v s.length (inP s)) (hk : OkP s) :
    Calls Try.prog 72 #[v] w fun r w' => r = .returned (.bool (keyB s)) ∧ w = w' := by
  cases s with
  | nil =>
    obtain ⟨a, cp, rfl, _, _⟩ := h.slice_form
    clear h
    go_enter Try.func72, Try.ntmps72
    go_wp2
    go_ret
    exact ⟨rfl, rfl⟩
  | cons x r =>
    have hx := hk.all x (by simp)
    have hle := hx.le
    obtain ⟨l, hl⟩ : ∃ l : Nat, cntB x - (x.have_ : Int) = l := ⟨(cntB x - (x.have_ : Int)).toNat, by have := hx.2.2; omega⟩
    have hkey : keyB (x :: r) = (x.map && decide (l % 2 = 0)) := by
      rw [key_eq]
      cases hm : x.map with
      | false => rfl
      | true =>
        have hc : cntB x = 2 * x.c := by unfold cntB; rw [hm, if_neg (by have := hx.1; omega), if_pos rfl]
        rw [Bool.true_and, Bool.true_and, Bool.eq_iff_iff, Bool.not_eq_true', decide_eq_false_iff_not, decide_eq_true_eq]
        omega
    rw [hkey]
    simp only [inP, ccP, hl, List.length_cons] at h
    obtain ⟨g, off, cap, rfl, ⟨c0, c1⟩, ⟨f0, f1⟩⟩ := nsp_last (outP_length r) h
    have hd := hk.deep
    simp only [List.length_cons] at hd
    have hz2 : ((l : Int) % 2 == 0) = decide (l % 2 = 0) := by
      rw [Bool.eq_iff_iff, beq_iff_eq, decide_eq_true_eq]
      omega
    clear hk hx hle hl hkey h
    generalize r.length = n at *
    have hwn : wrap64 (n : Int) = (n : Int) := by unfold wrap64; omega
    have hwn2 : IntKind.i64.wrap (n : Int) = (n : Int) := by simp only [IntKind.wrap_i64]; omega
    have hz : ((n : Int) ≥ 0) = True := by simp
    generalize x.map = m at *
    generalize decide (l % 2 = 0) = K at *
    cases m with
    | false =>
      go_enter Try.func72, Try.ntmps72
      go_wp2
      go_ret
      exact ⟨rfl, rfl⟩
    | true =>
      go_enter Try.func72, Try.ntmps72
      go_wp2
      go_ret
      exact ⟨by simp, rfl⟩
/-- Behind append, and behind the store of what it yields. -/
theorem penter_end {w W w3 : World} {b o n : Nat} {v v3 : Value} {xs ys : List Value} {ob : Obj} (h : NsP W b o v n xs) (hS : Subg (Value.owner v) b o 1 w W) (hb : b < w.heap.size)
    (hW : Win w3 136 2 v3 (n + 1) (xs ++ ys)) (hG : (W.alloc ob).drew.grownBy w3 v.ownBlock) (hO : v3.ownBlock = v.ownBlock ∨ v3.ownBlock = some (W.alloc ob).drew.heap.size ∧ (W.alloc ob).drew.heap.size < w3.heap.size) :
    (w3.cell? ⟨b, o, none⟩ = some v ∧ w3.frozen? ⟨b, o, none⟩ = false) ∧ NsP (w3.setCell ⟨b, o, none⟩ v3) b o v3 (n + 1) (xs ++ ys) ∧ (∀ k ∈ Value.owner v3, k ∈ Value.owner v ∨ w.heap.size ≤ k) ∧ Subg (Value.owner v) b o 1 w (w3.setCell ⟨b, o, none⟩ v3) := by
  have hbW : b < W.heap.size := Nat.lt_of_lt_of_le hb hS.size
  have hnb : v.ownBlock ≠ some b := fun e => h.far ((ob_iff _ _).1 e)
  have hblk : w3.heap[b]? = W.heap[b]? := (hG.block b (by show b < (W.alloc ob).heap.size; simp; omega) (fun e => hnb e.symm)).trans (Below.heap_alloc W ob b hbW)
  have hA := h.ptr.keep hblk
  have hown : ∀ k ∈ Value.owner v3, k ∈ Value.owner v ∨ W.heap.size ≤ k := by
    intro k hk
    rcases hO with e | ⟨e, _⟩
    · exact .inl ((ob_iff _ _).1 (e ▸ (ob_iff _ _).2 hk))
    · have h2 := (ob_iff _ _).2 hk
      rw [e] at h2
      cases h2
      exact .inr (by show W.heap.size ≤ (W.alloc ob).heap.size; simp)
  have hfar : b ∉ Value.owner v3 := fun hk => (hown b hk).elim h.far (fun h => by omega)
  refine ⟨hA 0 _ rfl, ⟨hA.set 0 (by simp) v3, hW.setCell_far hfar _, hfar⟩, fun k hk => (hown k hk).imp id (fun h => Nat.le_trans hS.size h), ?_⟩
  have h1 : Subg (Value.owner v) b o 1 W w3 := by
    have h2 : Subg (Value.owner v) b o 1 W (W.alloc ob).drew := (subg_below (below_drw ((Below.refl _ W).alloc (Nat.le_refl _) ob)) hbW _ _ _)
    exact h2.tr (subg_grown hG (fun k hk => (ob_iff _ _).1 hk) hnb (by show b < (W.alloc ob).heap.size; simp; omega))
  exact (hS.tr h1).tr ((sub_setCell w3 o v3 (by omega)).subg _)
set_option maxRecDepth 100000 in
set_option maxHeartbeats 2000000 in
theorem penter_f {w : World} {b o : Nat} {v : Value} {n : Nat} {xs : List Value} (h : NsP w b o v n xs) (hd : n < 16) (c : Int) :
    Calls Try.prog 75 #[.pointer (some ⟨b, o, none⟩), .agg #[.bool false, .int .i64 c]] w fun e w' => e = .returned (.tuple #[]) ∧ ∃ v', NsP w' b o v' (n + 1) (xs ++ [.bool false, .int .i64 (c)]) ∧ (∀ k ∈ Value.owner v', k ∈ Value.owner v ∨ w.heap.size ≤ k) ∧ Subg (Value.owner v) b o 1 w w' := by
  have hb := h.ptr.lt (by simp)
  have hbel : Below w.heap.size w ((w.alloc (.cells #[.bool false, .int .i64 c] 107)).alloc (.cells #[.bool false, .int .i64 c] 136)) := up_alloc (up_alloc (Below.refl _ _) _) _
  have E2 : Hid (Blk ((w.alloc (.cells #[.bool false, .int .i64 c] 107)).alloc (.cells #[.bool false, .int .i64 c] 136)) (w.heap.size + 1) #[.bool false, .int .i64 (c)] 136) := Lib.hid (by
    have h0 := blk_new (w.alloc (.cells #[.bool false, .int .i64 c] 107)) #[.bool false, .int .i64 c] 136
    rwa [show ∀ x, (w.alloc x).heap.size = w.heap.size + 1 from fun x => by simp] at h0)
  have hN := h.keep hbel
  have HN := Lib.hid hN
  have hS := subg_below hbel hb (Value.owner v) o 1
  obtain ⟨a, cp, rfl, _, _⟩ := h.win.slice_form
  have WD : ∀ x, Hid (Win ((((w.alloc (.cells #[.bool false, .int .i64 c] 107)).alloc (.cells #[.bool false, .int .i64 c] 136))).alloc x).drew 136 2 (.slice a n cp) n xs) := fun x => Lib.hid (hN.win.alloc x)
  have h5 : (((w.alloc (.cells #[.bool false, .int .i64 c] 107)).alloc (.cells #[.bool false, .int .i64 c] 136))).cell? ⟨b, o, none⟩ = some (.slice a n cp) := (hN.ptr 0 _ rfl).1
  have f5 : ∀ x, ((((w.alloc (.cells #[.bool false, .int .i64 c] 107)).alloc (.cells #[.bool false, .int .i64 c] 136))).alloc x).cell? ⟨b, o, none⟩ = some (.slice a n cp) := fun x => ((hN.ptr.alloc (by simp) x) 0 _ rfl).1
  have h0 : (((w.alloc (.cells #[.bool false, .int .i64 c] 107)).alloc (.cells #[.bool false, .int .i64 c] 136))).cell? ⟨w.heap.size + 1, 0, none⟩ = some (.bool false) := E2.out.cell 0
  have h1 : (((w.alloc (.cells #[.bool false, .int .i64 c] 107)).alloc (.cells #[.bool false, .int .i64 c] 136))).cell? ⟨w.heap.size + 1, 1, none⟩ = some (.int .i64 (c)) := E2.out.cell 1
  have e0 : ∀ x, ((((w.alloc (.cells #[.bool false, .int .i64 c] 107)).alloc (.cells #[.bool false, .int .i64 c] 136))).alloc x).cell? ⟨w.heap.size + 1, 0, none⟩ = some (.bool false) := fun x => (E2.out.alloc x).cell 0
  have e1 : ∀ x, ((((w.alloc (.cells #[.bool false, .int .i64 c] 107)).alloc (.cells #[.bool false, .int .i64 c] 136))).alloc x).cell? ⟨w.heap.size + 1, 1, none⟩ = some (.int .i64 (c)) := fun x => (E2.out.alloc x).cell 1
  have HE := Lib.hid (fun (w3 : World) (a3 : Option Addr) (c3 : Nat) ob hW hG hO => penter_end (w := w) (W := ((w.alloc (.cells #[.bool false, .int .i64 c] 107)).alloc (.cells #[.bool false, .int .i64 c] 136))) (w3 := w3) (v3 := .slice a3 (n + 1) c3) (ys := [.bool false, .int .i64 (c)]) (ob := ob) hN hS hb hW hG hO)
  clear h hbel hN hb hS E2
  go_enter Try.func75, Try.ntmps75
  go_wp2
  generalize ((w.alloc (.cells #[.bool false, .int .i64 c] 107)).alloc (.cells #[.bool false, .int .i64 c] 136)) = W at *
  go_region_law (first
    | (refine step_append_win rfl _ _ _ rfl Try.underlying84 info_conP rfl rfl (WD _).out _ rfl 1 _ (src_new _ Try.underlying84 2 1 [.bool false, .int .i64 (c)] 136 _ rfl (by simp [Value.oneCell']) (heap_alloc_new _ _)) (by unfold maxLen; omega) (by omega) ?_; intro v3 w3 hW3 hG3 hO3; obtain ⟨a3, c3, rfl, _, _⟩ := Win.slice_form hW3.out; have HP := Lib.hid (HE.out w3 a3 c3 _ hW3.out hG3.out hO3.out); have g0 := HP.out.1.1; have g1 := HP.out.1.2; clear hW3 hG3 hO3))
  all_goals
    go_wp2
    go_end0
    exact ⟨rfl, _, HP.out.2⟩
set_option maxRecDepth 100000 in
set_option maxHeartbeats 2000000 in
theorem penter_t {w : World} {b o : Nat} {v : Value} {n : Nat} {xs : List Value} (h : NsP w b o v n xs) (hd : n < 16) {c : Int} (hc : 0 ≤ c ∧ c ≤ 1000000) :
    Calls Try.prog 75 #[.pointer (some ⟨b, o, none⟩), .agg #[.bool true, .int .i64 c]] w fun e w' => e = .returned (.tuple #[]) ∧ ∃ v', NsP w' b o v' (n + 1) (xs ++ [.bool true, .int .i64 (c * 2)]) ∧ (∀ k ∈ Value.owner v', k ∈ Value.owner v ∨ w.heap.size ≤ k) ∧ Subg (Value.owner v) b o 1 w w' := by
  have hb := h.ptr.lt (by simp)
  have hw : wrap64 (c * 2) = c * 2 := by unfold wrap64; omega
  have hw2 : IntKind.i64.wrap (c * 2) = c * 2 := by simp only [IntKind.wrap_i64]; omega
  have hz : (c != -1) = true := by rw [bne_iff_ne]; omega
  have hbel : Below w.heap.size w ((w.alloc (.cells #[.bool true, .int .i64 c] 107)).alloc (.cells #[.bool true, .int .i64 (c * 2)] 136)) := up_alloc (up_alloc (Below.refl _ _) _) _
  have E2 : Hid (Blk ((w.alloc (.cells #[.bool true, .int .i64 c] 107)).alloc (.cells #[.bool true, .int .i64 (c * 2)] 136)) (w.heap.size + 1) #[.bool true, .int .i64 (c * 2)] 136) := Lib.hid (by
    have h0 := blk_new (w.alloc (.cells #[.bool true, .int .i64 c] 107)) #[.bool true, .int .i64 (c * 2)] 136
    rwa [show ∀ x, (w.alloc x).heap.size = w.heap.size + 1 from fun x => by simp] at h0)
  have hN := h.keep hbel
  have HN := Lib.hid hN
  have hS := subg_below hbel hb (Value.owner v) o 1
  obtain ⟨a, cp, rfl, _, _⟩ := h.win.slice_form
  have WD : ∀ x, Hid (Win ((((w.alloc (.cells #[.bool true, .int .i64 c] 107)).alloc (.cells #[.bool true, .int .i64 (c * 2)] 136))).alloc x).drew 136 2 (.slice a n cp) n xs) := fun x => Lib.hid (hN.win.alloc x)
  have h5 : (((w.alloc (.cells #[.bool true, .int .i64 c] 107)).alloc (.cells #[.bool true, .int .i64 (c * 2)] 136))).cell? ⟨b, o, none⟩ = some (.slice a n cp) := (hN.ptr 0 _ rfl).1
  have f5 : ∀ x, ((((w.alloc (.cells #[.bool true, .int .i64 c] 107)).alloc (.cells #[.bool true, .int .i64 (c * 2)] 136))).alloc x).cell? ⟨b, o, none⟩ = some (.slice a n cp) := fun x => ((hN.ptr.alloc (by simp) x) 0 _ rfl).1
  have h0 : (((w.alloc (.cells #[.bool true, .int .i64 c] 107)).alloc (.cells #[.bool true, .int .i64 (c * 2)] 136))).cell? ⟨w.heap.size + 1, 0, none⟩ = some (.bool true) := E2.out.cell 0
  have h1 : (((w.alloc (.cells #[.bool true, .int .i64 c] 107)).alloc (.cells #[.bool true, .int .i64 (c * 2)] 136))).cell? ⟨w.heap.size + 1, 1, none⟩ = some (.int .i64 (c * 2)) := E2.out.cell 1
  have e0 : ∀ x, ((((w.alloc (.cells #[.bool true, .int .i64 c] 107)).alloc (.cells #[.bool true, .int .i64 (c * 2)] 136))).alloc x).cell? ⟨w.heap.size + 1, 0, none⟩ = some (.bool true) := fun x => (E2.out.alloc x).cell 0
  have e1 : ∀ x, ((((w.alloc (.cells #[.bool true, .int .i64 c] 107)).alloc (.cells #[.bool true, .int .i64 (c * 2)] 136))).alloc x).cell? ⟨w.heap.size + 1, 1, none⟩ = some (.int .i64 (c * 2)) := fun x => (E2.out.alloc x).cell 1
  have HE := Lib.hid (fun (w3 : World) (a3 : Option Addr) (c3 : Nat) ob hW hG hO => penter_end (w := w) (W := ((w.alloc (.cells #[.bool true, .int .i64 c] 107)).alloc (.cells #[.bool true, .int .i64 (c * 2)] 136))) (w3 := w3) (v3 := .slice a3 (n + 1) c3) (ys := [.bool true, .int .i64 (c * 2)]) (ob := ob) hN hS hb hW hG hO)
  clear h hbel hN hb hS E2
  go_enter Try.func75, Try.ntmps75
  go_wp2
  generalize ((w.alloc (.cells #[.bool true, .int .i64 c] 107)).alloc (.cells #[.bool true, .int .i64 (c * 2)] 136)) = W at *
  go_region_law (first
    | (refine step_append_win rfl _ _ _ rfl Try.underlying84 info_conP rfl rfl (WD _).out _ rfl 1 _ (src_new _ Try.underlying84 2 1 [.bool true, .int .i64 (c * 2)] 136 _ rfl (by simp [Value.oneCell']) (heap_alloc_new _ _)) (by unfold maxLen; omega) (by omega) ?_; intro v3 w3 hW3 hG3 hO3; obtain ⟨a3, c3, rfl, _, _⟩ := Win.slice_form hW3.out; have HP := Lib.hid (HE.out w3 a3 c3 _ hW3.out hG3.out hO3.out); have g0 := HP.out.1.1; have g1 := HP.out.1.2; clear hW3 hG3 hO3))
  all_goals
    go_wp2
    go_end0
    exact ⟨rfl, _, HP.out.2⟩
/-- ENTER. -/
theorem penter_at {w : World} {b o : Nat} {v : Value} {s : List Bx} (h : NsP w b o v s.length (inP s)) (hd : s.length < 16) (m : Bool) (c : Int) (hc : 0 < c ∧ c ≤ 1000000) :
    Calls Try.prog 75 #[.pointer (some ⟨b, o, none⟩), .agg #[.bool m, .int .i64 c]] w fun e w' => e = .returned (.tuple #[]) ∧ ∃ v', NsP w' b o v' (s.length + 1) (inP (⟨m, c, 0⟩ :: incB s)) ∧ (∀ k ∈ Value.owner v', k ∈ Value.owner v ∨ w.heap.size ≤ k) ∧ Subg (Value.owner v) b o 1 w w' := by
  have e0 : ((0 : Nat) : Int) = 0 := rfl
  simp only [inP, inP_out, ccP, ccL, e0, Int.sub_zero]
  cases m with
  | false =>
    have : cntB ⟨false, c, 0⟩ = c := by unfold cntB; rw [if_neg (by simp only; omega), if_neg (by simp)]
    rw [this]
    exact penter_f h hd c
  | true =>
    have : cntB ⟨true, c, 0⟩ = c * 2 := by unfold cntB; rw [if_neg (by simp only; omega), if_pos rfl]; simp only; omega
    rw [this]
    exact penter_t h hd ⟨by omega, hc.2⟩
end Go.Proofs.Ytebnhelejebobaa
