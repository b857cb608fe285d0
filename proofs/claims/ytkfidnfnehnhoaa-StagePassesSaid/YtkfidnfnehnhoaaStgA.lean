/-
  CONTRACTS of package stage, part A: the open containers (nest): leave, enter, count, counted.
-/
import Derived.Test.YtkfidnfnehnhoaaStgPure
import Derived.Test.YtkfidnfnehnhoaaRoom
import Derived.Test.YtkfidnfnehnhoaaBlk
import Derived.Deep.QuietTactic
namespace Go.Proofs.Ytkfidnfnehnhoaa
open Go.RowKit
open Go.Lib
def cnB (x : Cn) : List Value := [.bool x.m, .int .i64 x.c, .int .i64 (x.at_ : Int), .int .i64 (x.n : Int)]
/-- Of each open container its cells, the outermost first. -/
def cnL : List Cn → List Value
  | [] => []
  | x :: r => cnL r ++ cnB x
theorem cnL_length : ∀ s : List Cn, (cnL s).length = s.length * 4
  | [] => rfl
  | x :: r => by rw [cnL, List.length_append, cnL_length r]; simp [cnB]; omega
theorem info_cn : (Try.prog.info? 95).map (fun i => (i.zero, i.size, i.bytes)) = some (some (.agg #[.bool false, .int .i64 0, .int .i64 0, .int .i64 0]), 4, 32) := by kernel_rfl
/-- The innermost one, as the walks meet it. -/
theorem cst_last {w : World} {v : Value} {x : Cn} {r : List Cn} (h : Win w 95 4 v (r.length + 1) (cnL r ++ cnB x)) :
    ∃ g off cap, v = .slice (some ⟨g, off, none⟩) (r.length + 1) cap ∧
      (w.cell? ⟨g, off + r.length * 4, none⟩ = some (.bool x.m) ∧ w.cell? ⟨g, off + r.length * 4 + 1, none⟩ = some (.int .i64 x.c) ∧ w.cell? ⟨g, off + r.length * 4 + 2, none⟩ = some (.int .i64 (x.at_ : Int)) ∧ w.cell? ⟨g, off + r.length * 4 + 3, none⟩ = some (.int .i64 (x.n : Int))) ∧
      w.frozen? ⟨g, off + r.length * 4 + 3, none⟩ = false := by
  obtain ⟨g, off, cap, rfl, h1, h2, _, _, h3⟩ := h.form (by simp)
  have hl := cnL_length r
  have hx : ∀ j u, (cnB x)[j]? = some u → w.cell? ⟨g, off + (r.length * 4 + j), none⟩ = some u ∧ w.frozen? ⟨g, off + (r.length * 4 + j), none⟩ = false := fun j u hu => by
    refine h3 _ u ?_
    rw [← hl, List.getElem?_append_right (by omega), Nat.add_sub_cancel_left]
    exact hu
  have x0 := hx 0 _ rfl
  have x1 := hx 1 _ rfl
  have x2 := hx 2 _ rfl
  have x3 := hx 3 _ rfl
  simp only [← Nat.add_assoc, Nat.add_zero] at x0 x1 x2 x3
  exact ⟨g, off, cap, rfl, ⟨x0.1, x1.1, x2.1, x3.1⟩, x3.2⟩
theorem Step.of_below (F : List Nat) {w w' : World} (h : Below w.heap.size w w') : Step F F w w' := ⟨h.os, h.tape, h.output, h.size, fun k hk _ => h.block k hk, fun _ h => .inl h⟩
/-- A Stage's block. -/
def Sgb (w : World) (b : Nat) (e lim : Nat) (vh : Value) (z : Nat) (vo : Value) : Prop := Blk w b #[.bool true, .int .i64 (e : Int), .int .i64 (lim : Int), vh, .int .i64 (z : Int), vo] 65
set_option maxRecDepth 100000 in
set_option maxHeartbeats 2000000 in
theorem sleave_any {w : World} {b e lim z : Nat} {vh vo : Value} {x : Cn} {r : List Cn} (h : Sgb w b e lim vh z vo) (hW : Win w 95 4 vo (r.length + 1) (cnL r ++ cnB x)) (hd : r.length ≤ 100000) :
    Calls Try.prog 49 #[.pointer (some ⟨b, 5, none⟩)] w fun q w' => q = .returned (.agg #[.bool x.m, .int .i64 x.c, .int .i64 (x.at_ : Int), .int .i64 (x.n : Int)]) ∧
      ∃ vo', Sgb w' b e lim vh z vo' ∧ Win w' 95 4 vo' r.length (cnL r) ∧ Value.owner vo' = Value.owner vo ∧ Step [b] [b] w w' := by
  have hap := hW.apart h (by decide)
  obtain ⟨v', hsl, hw', ho'⟩ := hW.hi (P := Try.prog) (t := 63) Try.underlying63 (fun w => by kernel_rfl) r.length (by simp)
  rw [← cnL_length, List.take_left] at hw'
  obtain ⟨a', c', rfl, _, _⟩ := hw'.slice_form
  obtain ⟨g, off, cap, rfl, ⟨c0, c1, c2, c3⟩, f3⟩ := cst_last hW
  have hb := h.lt
  have h5 := h.cell 5
  have f5 := h.froz 5
  simp only [Value.owner, List.mem_singleton] at hap
  have hgb : g ≠ b := fun e => hap e.symm
  have HH := Lib.hid h
  have HW := Lib.hid hw'
  have HO := Lib.hid ho'
  have hwn : wrap64 (r.length : Int) = (r.length : Int) := by unfold wrap64; omega
  have hwn2 : IntKind.i64.wrap (r.length : Int) = (r.length : Int) := by simp only [IntKind.wrap_i64]; omega
  have hg : g < w.heap.size := hW.lt g (by simp [Value.owner])
  obtain ⟨m, c, at_, n⟩ := x
  simp only at c0 c1 c2 c3 ⊢
  clear h hW hw' ho' f3
  generalize cnL r = XS at *
  generalize r.length = n' at *
  go_enter Try.func49, Try.ntmps49
  go_wp2
  simp [bodyPost, results, Try.results49, go_sem]
  refine ⟨_, ((HH.out.set 5 _).alloc _).alloc _, ((HW.out.setCell_far (fun hk => hgb ?_) _).alloc _).alloc _, HO.out, ?_⟩
  · have := HO.out ▸ hk
    simpa [Value.owner, eq_comm] using this
  · exact ((step_setCell [b] w _ _ (by simp)).trans (Step.of_below _ (up_alloc (up_alloc (Below.refl _ _) _) _)))
set_option maxRecDepth 100000 in
set_option maxHeartbeats 2000000 in
theorem scounted_any (x : Cn) (hn : x.n ≤ 100000) (w : World) :
    Calls Try.prog 50 #[.agg #[.bool x.m, .int .i64 x.c, .int .i64 (x.at_ : Int), .int .i64 (x.n : Int)]] w fun q w' => q = .returned (.agg #[.bool x.m, .int .i64 (cntE x).c]) ∧ Below w.heap.size w w' := by
  obtain ⟨m, c, at_, n⟩ := x
  simp only [cntE] at *
  have hq : IntKind.i64.wrap ((n : Int).tdiv 2) = ((n / 2 : Nat) : Int) := by
    rw [Int.tdiv_eq_ediv_of_nonneg (by omega)]
    simp only [IntKind.wrap_i64]; omega
  by_cases hc : c = -1
  · subst hc
    have e0 : ((-1 : Int) ≠ -1) = False := by simp
    rw [if_neg (by simp)]
    cases m
    · go_enter Try.func50, Try.ntmps50
      go_wp2
      simp [bodyPost, results, Try.results50, go_sem]
      exact up_alloc (up_alloc (up_alloc (Below.refl _ _) _) _) _
    · go_enter Try.func50, Try.ntmps50
      go_wp2
      simp [bodyPost, results, Try.results50, go_sem]
      exact up_alloc (up_alloc (up_alloc (Below.refl _ _) _) _) _
  · have h1 : (c != -1) = true := by simpa using hc
    rw [if_pos hc]
    go_enter Try.func50, Try.ntmps50
    go_wp2
    simp [bodyPost, results, Try.results50, go_sem]
    exact up_alloc (up_alloc (up_alloc (Below.refl _ _) _) _) _
theorem cst_store {w : World} {x : Cn} {l : Nat} {r : List Cn} {g off cap n : Nat} (_ : n = r.length + 1) (h : Win w 95 4 (.slice (some ⟨g, off, none⟩) n cap) n (cnL r ++ cnB x)) :
    Win (w.setCell ⟨g, off + r.length * 4 + 3, none⟩ (.int .i64 (l : Int))) 95 4 (.slice (some ⟨g, off, none⟩) n cap) n (cnL r ++ cnB ⟨x.m, x.c, x.at_, l⟩) := by
  have hw := h.store (r.length * 4 + 3) (by rw [List.length_append, cnL_length]; simp [cnB]) (.int .i64 (l : Int))
  have hx : (cnL r ++ cnB x).set (r.length * 4 + 3) (.int .i64 (l : Int)) = cnL r ++ cnB ⟨x.m, x.c, x.at_, l⟩ := by
    rw [← cnL_length, List.set_append, if_neg (by omega), Nat.add_sub_cancel_left]
    rfl
  rw [hx, ← Nat.add_assoc] at hw
  exact hw
set_option maxRecDepth 100000 in
set_option maxHeartbeats 1000000 in
/-- COUNT: the innermost one has a part more. -/
theorem scount_any {w : World} {v : Value} {s : List Cn} (h : Win w 95 4 v s.length (cnL s)) (hd : s.length ≤ 100000) (hw : ∀ x ∈ s, x.n ≤ 100000) :
    Calls Try.prog 40 #[v] w fun r w' => r = .returned (.tuple #[]) ∧ Win w' 95 4 v s.length (cnL (incN s)) ∧ Step (Value.owner v) (Value.owner v) w w' := by
  cases s with
  | nil =>
    have HH := Lib.hid h
    obtain ⟨a, cp, rfl, _, _⟩ := h.slice_form
    clear h
    go_enter Try.func40, Try.ntmps40
    go_wp2
    go_end0
    exact ⟨rfl, HH.out, Step.refl _ _⟩
  | cons x r =>
    obtain ⟨g, off, cap, rfl, ⟨c0, c1, c2, c3⟩, f3⟩ := cst_last h
    have hx := hw x (by simp)
    obtain ⟨m, c, at_, l⟩ := x
    simp only [List.length_cons] at hd
    simp only [List.length_cons, incN, cnL] at *
    have HS := Lib.hid (cst_store (l := l + 1) rfl h)
    rw [Int.natCast_add] at HS
    clear h hw c0 c1 c2
    generalize cnL r ++ cnB ⟨m, c, at_, l + 1⟩ = XS at *
    generalize r.length = n at *
    have hw3 : IntKind.i64.wrap ((l : Int) + 1) = (l : Int) + 1 := by simp only [IntKind.wrap_i64]; omega
    have hwn : wrap64 (n : Int) = (n : Int) := by unfold wrap64; omega
    have hwn2 : IntKind.i64.wrap (n : Int) = (n : Int) := by simp only [IntKind.wrap_i64]; omega
    have hz : ((n : Int) ≥ 0) = True := by simp
    go_enter Try.func40, Try.ntmps40
    go_wp2
    go_end0
    exact ⟨rfl, HS.out, step_setCell _ _ _ _ (by simp [Value.owner])⟩
/-- Behind append, and behind the store of what it yields. -/
theorem senter_end {w W w3 : World} {b e lim z n cp c3 : Nat} {a a3 : Option Addr} {vh : Value} {x : Cn} {r : List Cn} {ob : Obj} (h : Sgb w b e lim vh z (.slice a n cp)) (hV : Win w 95 4 (.slice a n cp) n (cnL r)) (k : Below w.heap.size w W)
    (hW : Win w3 95 4 (.slice a3 (n + 1) c3) (n + 1) (cnL r ++ cnB x)) (hG : (W.alloc ob).drew.grownBy w3 (Value.slice a n cp).ownBlock) (hO : (Value.slice a3 (n + 1) c3).ownBlock = (Value.slice a n cp).ownBlock ∨ (Value.slice a3 (n + 1) c3).ownBlock = some (W.alloc ob).drew.heap.size ∧ (W.alloc ob).drew.heap.size < w3.heap.size) :
    (w3.cell? ⟨b, 5, none⟩ = some (.slice a n cp) ∧ w3.frozen? ⟨b, 5, none⟩ = false) ∧ Sgb (w3.setCell ⟨b, 5, none⟩ (.slice a3 (n + 1) c3)) b e lim vh z (.slice a3 (n + 1) c3) ∧ Win (w3.setCell ⟨b, 5, none⟩ (.slice a3 (n + 1) c3)) 95 4 (.slice a3 (n + 1) c3) (n + 1) (cnL (x :: r)) ∧
      Step (b :: Value.owner (.slice a n cp)) (b :: Value.owner (.slice a3 (n + 1) c3)) w (w3.setCell ⟨b, 5, none⟩ (.slice a3 (n + 1) c3)) := by
  have hb := h.lt
  have hbF : b ∉ Value.owner (.slice a n cp) := hV.apart h (by decide)
  have hsz : w.heap.size ≤ W.heap.size := k.size
  have hold : ∀ i, i < w.heap.size → i ∉ Value.owner (.slice a n cp) → w3.heap[i]? = w.heap[i]? := by
    intro i hi hiF
    refine (hG.block i (by show i < (W.alloc ob).heap.size; simp; omega) (fun e => hiF ((ob_iff _ _).1 e.symm))).trans ?_
    exact (Below.heap_alloc W ob i (by omega)).trans (k.block i hi)
  have hblk := hold b hb hbF
  have h3 : Sgb w3 b e lim vh z (.slice a n cp) := hblk.trans h
  have hap3 : b ∉ Value.owner (.slice a3 (n + 1) c3) := hW.apart h3 (by decide)
  refine ⟨⟨h3.cell 5, h3.froz 5⟩, h3.set 5 _, hW.setCell_far hap3 _, ?_⟩
  have hstep : Step (b :: Value.owner (.slice a n cp)) (b :: Value.owner (.slice a3 (n + 1) c3)) w w3 := by
    refine ⟨hG.os.trans k.os, hG.tape.trans k.tape, hG.output.trans k.output, Nat.le_trans ?_ hG.size, fun i hi hiF => hold i hi (fun e => hiF (List.mem_cons_of_mem _ e)), fun i hi => ?_⟩
    · show w.heap.size ≤ (W.alloc ob).heap.size
      simp; omega
    · rcases List.mem_cons.1 hi with rfl | hi
      · exact .inl (by simp)
      · rcases hO with e | ⟨e, _⟩
        · exact .inl (List.mem_cons_of_mem _ ((ob_iff _ _).1 (e ▸ (ob_iff _ _).2 hi)))
        · right
          have h2 := (ob_iff _ _).2 hi
          rw [e] at h2
          cases h2
          show w.heap.size ≤ (W.alloc ob).heap.size
          simp; omega
  exact hstep.trans (step_setCell _ _ _ _ (by simp))
set_option maxRecDepth 100000 in
set_option maxHeartbeats 4000000 in
/-- ENTER. -/
theorem senter_any {w : World} {b e lim z : Nat} {vh vo : Value} {r : List Cn} (h : Sgb w b e lim vh z vo) (hW : Win w 95 4 vo r.length (cnL r)) (hd : r.length ≤ 100000) (x : Cn) :
    Calls Try.prog 41 #[.pointer (some ⟨b, 5, none⟩), .agg #[.bool x.m, .int .i64 x.c, .int .i64 (x.at_ : Int), .int .i64 (x.n : Int)]] w fun q w' => q = .returned (.tuple #[]) ∧
      ∃ vo', Sgb w' b e lim vh z vo' ∧ Win w' 95 4 vo' (r.length + 1) (cnL (x :: r)) ∧ Step (b :: Value.owner vo) (b :: Value.owner vo') w w' := by
  obtain ⟨a, cp, rfl, _, _⟩ := hW.slice_form
  obtain ⟨n, hn⟩ : ∃ n, r.length = n := ⟨_, rfl⟩
  obtain ⟨m, c, at_, q⟩ := x
  simp only
  have hb := h.lt
  have hbel : Below w.heap.size w (w.alloc (.cells #[.bool m, .int .i64 c, .int .i64 (at_ : Int), .int .i64 (q : Int)] 95)) := up_alloc (Below.refl _ _) _
  have E2 : Hid (Blk (w.alloc (.cells #[.bool m, .int .i64 c, .int .i64 (at_ : Int), .int .i64 (q : Int)] 95)) w.heap.size #[.bool m, .int .i64 c, .int .i64 (at_ : Int), .int .i64 (q : Int)] 95) := Lib.hid (blk_new w _ _)
  rw [hn] at h hW hd ⊢
  have hA2 : Sgb (w.alloc (.cells #[.bool m, .int .i64 c, .int .i64 (at_ : Int), .int .i64 (q : Int)] 95)) b e lim vh z (.slice a n cp) := h.alloc _
  have WD : ∀ y, Hid (Win ((w.alloc (.cells #[.bool m, .int .i64 c, .int .i64 (at_ : Int), .int .i64 (q : Int)] 95)).alloc y).drew 95 4 (.slice a n cp) n (cnL r)) := fun y => Lib.hid ((hW.alloc _).alloc y)
  have h5 := hA2.cell 5
  have f5 : ∀ y, ((w.alloc (.cells #[.bool m, .int .i64 c, .int .i64 (at_ : Int), .int .i64 (q : Int)] 95)).alloc y).cell? ⟨b, 5, none⟩ = some (.slice a n cp) := fun y => (hA2.alloc y).cell 5
  have h0 := E2.out.cell 0
  have h1 := E2.out.cell 1
  have h2 := E2.out.cell 2
  have h3 := E2.out.cell 3
  have e0 : ∀ y, ((w.alloc (.cells #[.bool m, .int .i64 c, .int .i64 (at_ : Int), .int .i64 (q : Int)] 95)).alloc y).cell? ⟨w.heap.size, 0, none⟩ = some (.bool m) := fun y => (E2.out.alloc y).cell 0
  have e1 : ∀ y, ((w.alloc (.cells #[.bool m, .int .i64 c, .int .i64 (at_ : Int), .int .i64 (q : Int)] 95)).alloc y).cell? ⟨w.heap.size, 1, none⟩ = some (.int .i64 c) := fun y => (E2.out.alloc y).cell 1
  have e2 : ∀ y, ((w.alloc (.cells #[.bool m, .int .i64 c, .int .i64 (at_ : Int), .int .i64 (q : Int)] 95)).alloc y).cell? ⟨w.heap.size, 2, none⟩ = some (.int .i64 (at_ : Int)) := fun y => (E2.out.alloc y).cell 2
  have e3 : ∀ y, ((w.alloc (.cells #[.bool m, .int .i64 c, .int .i64 (at_ : Int), .int .i64 (q : Int)] 95)).alloc y).cell? ⟨w.heap.size, 3, none⟩ = some (.int .i64 (q : Int)) := fun y => (E2.out.alloc y).cell 3
  have HE := Lib.hid (fun (w3 : World) (a3 : Option Addr) (c3 : Nat) ob hW' hG hO => senter_end (W := w.alloc (.cells #[.bool m, .int .i64 c, .int .i64 (at_ : Int), .int .i64 (q : Int)] 95)) (w3 := w3) (a3 := a3) (c3 := c3) (x := ⟨m, c, at_, q⟩) (ob := ob) h hW hbel hW' hG hO)
  simp only [cnB] at HE
  clear h hbel hA2 hb E2 hW hn
  go_enter Try.func41, Try.ntmps41
  go_wp2
  generalize (w.alloc (.cells #[.bool m, .int .i64 c, .int .i64 (at_ : Int), .int .i64 (q : Int)] 95)) = W at *
  go_region_law (first
    | (refine step_append_win rfl _ _ _ rfl Try.underlying63 info_cn rfl rfl (WD _).out _ rfl 1 _ (src_new _ Try.underlying63 4 1 [.bool m, .int .i64 c, .int .i64 (at_ : Int), .int .i64 (q : Int)] 95 _ rfl (by simp [Value.oneCell']) (heap_alloc_new _ _)) (by unfold maxLen; omega) (by omega) ?_; intro v3 w3 hW3 hG3 hO3; obtain ⟨a3, c3, rfl, _, _⟩ := Win.slice_form hW3.out; have HP := Lib.hid (HE.out w3 a3 c3 _ hW3.out hG3.out hO3.out); have g0 := HP.out.1.1; have g1 := HP.out.1.2; clear hW3 hG3 hO3))
  all_goals
    go_wp2
    go_end0
    exact ⟨rfl, _, HP.out.2⟩
end Go.Proofs.Ytkfidnfnehnhoaa
