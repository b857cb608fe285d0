/-
  THE DOCUMENT'S OWN READER (truchmanref1.in), where no container is open, no error was, nothing is held: lack, key, put, had, end.
-/
import Derived.Test.YtonjdnahplphhaaG0c
import Derived.Test.YtonjdnahplphhaaG0b
import Derived.Deep.QuietTactic
import Derived.Deep.RegionWith
import Derived.StillTailTactics
import Derived.StillTail
/-
  THE DOCUMENT'S OWN READER (truchmanref1.in), where no container is open, no error was, nothing is held: lack, key, put, had, end.
-/
namespace Go.Proofs.Ytonjdnahplphhaa
open Go.RowKit
open Go.Lib
structure RdAt (w0 w : World) (p r : Nat) (S : ByteArray) (i d : Nat) (v : Value) (L : List Ev) (dn : Bool) : Prop where
  pc : At w p 0 [.string S, .int .i64 (i : Int), .int .i64 (d : Int), .pointer (some ⟨r, 0, none⟩), .slice none 0 0]
  rc : At w r 0 [v, .int .i64 0, .bool dn, .int .i64 0]
  win : Win w 35 5 v L.length (evsC L)
  far : p ∉ Value.owner v ∧ r ∉ Value.owner v ∧ p ≠ r
  lo : w0.heap.size ≤ p ∧ w0.heap.size ≤ r
  bel : Below w0.heap.size w0 w
theorem RdAt.lt {w0 w : World} {p r : Nat} {S : ByteArray} {i d : Nat} {v : Value} {L : List Ev} {dn : Bool} (h : RdAt w0 w p r S i d v L dn) : p < w.heap.size ∧ r < w.heap.size := ⟨h.pc.lt (by simp), h.rc.lt (by simp)⟩
theorem RdAt.go {w0 w w' : World} {p r : Nat} {S : ByteArray} {i d : Nat} {v : Value} {L : List Ev} {dn : Bool} (h : RdAt w0 w p r S i d v L dn) (k : Below w.heap.size w w') : RdAt w0 w' p r S i d v L dn :=
  ⟨h.pc.keep (k.block p h.lt.1), h.rc.keep (k.block r h.lt.2), h.win.keep fun j hj => k.block j (h.win.lt j hj), h.far, h.lo, h.bel.trans (k.mono h.bel.size)⟩
theorem RdAt.drewN {w0 w : World} {p r : Nat} {S : ByteArray} {i d : Nat} {v : Value} {L : List Ev} {dn : Bool} (h : RdAt w0 w p r S i d v L dn) (q : Nat) : RdAt w0 (w.drewN q) p r S i d v L dn :=
  ⟨h.pc, h.rc, h.win, h.far, h.lo, below_drN h.bel q⟩
/-- The cells of a reader, one by one. -/
theorem RdAt.cells {w0 w : World} {p r : Nat} {S : ByteArray} {i d : Nat} {v : Value} {L : List Ev} {dn : Bool} (h : RdAt w0 w p r S i d v L dn) :
    (w.cell? ⟨p, 0, none⟩ = some (.string S) ∧ w.cell? ⟨p, 1, none⟩ = some (.int .i64 (i : Int)) ∧ w.cell? ⟨p, 2, none⟩ = some (.int .i64 (d : Int)) ∧ w.cell? ⟨p, 3, none⟩ = some (.pointer (some ⟨r, 0, none⟩)) ∧ w.cell? ⟨p, 4, none⟩ = some (.slice none 0 0)) ∧
    (w.frozen? ⟨p, 1, none⟩ = false) ∧
    (w.cell? ⟨r, 0, none⟩ = some v ∧ w.cell? ⟨r, 1, none⟩ = some (.int .i64 0) ∧ w.cell? ⟨r, 2, none⟩ = some (.bool dn) ∧ w.cell? ⟨r, 3, none⟩ = some (.int .i64 0)) ∧
    (w.frozen? ⟨r, 0, none⟩ = false ∧ w.frozen? ⟨r, 2, none⟩ = false ∧ w.frozen? ⟨r, 3, none⟩ = false) := by
  have p0 := h.pc 0 _ rfl
  have p1 := h.pc 1 _ rfl
  have p2 := h.pc 2 _ rfl
  have p3 := h.pc 3 _ rfl
  have p4 := h.pc 4 _ rfl
  have r0 := h.rc 0 _ rfl
  have r1 := h.rc 1 _ rfl
  have r2 := h.rc 2 _ rfl
  have r3 := h.rc 3 _ rfl
  exact ⟨⟨p0.1, p1.1, p2.1, p3.1, p4.1⟩, p1.2, ⟨r0.1, r1.1, r2.1, r3.1⟩, r0.2, r2.2, r3.2⟩
/-- The place is set. -/
theorem RdAt.to {w0 w : World} {p r : Nat} {S : ByteArray} {i d : Nat} {v : Value} {L : List Ev} {dn : Bool} (h : RdAt w0 w p r S i d v L dn) (j : Nat) : RdAt w0 (w.setCell ⟨p, 1, none⟩ (.int .i64 (j : Int))) p r S j d v L dn :=
  ⟨by simpa using h.pc.set 1 (by simp) (.int .i64 (j : Int)), h.rc.keep (Below.heap_setCell w _ _ r (fun e => h.far.2.2 e.symm)), h.win.setCell_far h.far.1 _, h.far, h.lo, h.bel.setCell h.lo.1 _⟩
/-- The document is at its end. -/
theorem RdAt.over {w0 w : World} {p r : Nat} {S : ByteArray} {i d : Nat} {v : Value} {L : List Ev} {dn : Bool} (h : RdAt w0 w p r S i d v L dn) : RdAt w0 (w.setCell ⟨r, 2, none⟩ (.bool true)) p r S i d v L true :=
  ⟨h.pc.keep (Below.heap_setCell w _ _ p (fun e => h.far.2.2 e)), by simpa using h.rc.set 2 (by simp) (.bool true), h.win.setCell_far h.far.2.1 _, h.far, h.lo, h.bel.setCell h.lo.2 _⟩
set_option maxRecDepth 100000 in
set_option maxHeartbeats 1000000 in
theorem rd_lack {w0 w : World} {p r : Nat} {S : ByteArray} {i d : Nat} {v : Value} {L : List Ev} {dn : Bool} (h : RdAt w0 w p r S i d v L dn) :
    Calls Try.prog 36 #[.pointer (some ⟨p, 0, none⟩)] w fun e w' => e = .returned (.bool (decide (S.size ≤ i))) ∧ RdAt w0 w' p r S i d v L dn := by
  obtain ⟨⟨c0, c1, c2, c3, c4⟩, _, _, _⟩ := h.cells
  have H := Lib.hid h
  have hz : ((S.size : Int) ≤ (i : Int)) = (S.size ≤ i) := by rw [eq_iff_iff]; omega
  obtain ⟨D, hD⟩ : ∃ D, decide (S.size ≤ i) = D := ⟨_, rfl⟩
  have hzb : decide ((S.size : Int) ≤ (i : Int)) = D := by rw [← hD]; simp only [hz]
  have HD := Lib.hid hD
  clear h hz hD
  go_enter Try.func36, Try.ntmps36
  go_wp2_with fail
  go_quiet (fail)
  go_wp2
  go_ret
  exact ⟨by first | rfl | simp, H.out.drewN _⟩
set_option maxRecDepth 100000 in
set_option maxHeartbeats 1000000 in
theorem rd_key {w0 w : World} {p r : Nat} {S : ByteArray} {i d : Nat} {v : Value} {L : List Ev} {dn : Bool} (h : RdAt w0 w p r S i d v L dn) :
    Calls Try.prog 56 #[.pointer (some ⟨p, 0, none⟩)] w fun e w' => e = .returned (.bool false) ∧ w = w' := by
  obtain ⟨⟨c0, c1, c2, c3, c4⟩, _, _, _⟩ := h.cells
  clear h
  go_enter Try.func56, Try.ntmps56
  go_wp2
  go_ret
  exact ⟨rfl, rfl⟩
set_option maxRecDepth 100000 in
set_option maxHeartbeats 1000000 in
theorem rd_had {w0 w : World} {p r : Nat} {S : ByteArray} {i d : Nat} {v : Value} {L : List Ev} {dn : Bool} (h : RdAt w0 w p r S i d v L dn) :
    Calls Try.prog 71 #[.pointer (some ⟨p, 0, none⟩)] w fun e w' => e = .returned (.tuple #[]) ∧ RdAt w0 w' p r S i d v L true := by
  obtain ⟨⟨c0, c1, c2, c3, c4⟩, _, ⟨r0, r1, r2, r3⟩, ⟨g0, g2, g3⟩⟩ := h.cells
  have H := Lib.hid h.over
  clear h
  go_enter Try.func71, Try.ntmps71
  go_wp2_with fail
  refine wp_loop_once ?_
  go_wp2
  go_end0
  exact ⟨rfl, H.out⟩
/-- Behind append, and behind the store of what it yields. -/
theorem rd_put_end {w0 w W w3 : World} {p r : Nat} {S : ByteArray} {i d n cp c3 : Nat} {a a3 : Option Addr} {L : List Ev} {e : Ev} {dn : Bool} {ob : Obj} (h : RdAt w0 w p r S i d (.slice a n cp) L dn) (hn : L.length = n) (k : Below w.heap.size w W)
    (hW : Win w3 35 5 (.slice a3 (n + 1) c3) (n + 1) (evsC L ++ evsC [e])) (hG : (W.alloc ob).drew.grownBy w3 (Value.slice a n cp).ownBlock) (hO : (Value.slice a3 (n + 1) c3).ownBlock = (Value.slice a n cp).ownBlock ∨ (Value.slice a3 (n + 1) c3).ownBlock = some (W.alloc ob).drew.heap.size ∧ (W.alloc ob).drew.heap.size < w3.heap.size) (hrow : ∀ b ∈ Value.owner (.slice a n cp), w0.heap.size ≤ b) :
    (w3.cell? ⟨p, 3, none⟩ = some (.pointer (some ⟨r, 0, none⟩)) ∧ w3.cell? ⟨r, 0, none⟩ = some (.slice a n cp) ∧ w3.frozen? ⟨r, 0, none⟩ = false) ∧
    RdAt w0 (w3.setCell ⟨r, 0, none⟩ (.slice a3 (n + 1) c3)) p r S i d (.slice a3 (n + 1) c3) (L ++ [e]) dn ∧ (∀ b ∈ Value.owner (.slice a3 (n + 1) c3), w0.heap.size ≤ b) := by
  have hlt := h.lt
  have hsz : w.heap.size ≤ W.heap.size := k.size
  have hs2 : W.heap.size ≤ (W.alloc ob).heap.size := by simp
  have hold : ∀ b, b < w.heap.size → b ∉ Value.owner (.slice a n cp) → w3.heap[b]? = w.heap[b]? := by
    intro b hb hbF
    refine (hG.block b (by show b < (W.alloc ob).heap.size; simp; omega) (fun e => hbF ((ob_iff _ _).1 e.symm))).trans ?_
    exact (Below.heap_alloc W ob b (by omega)).trans (k.block b hb)
  have hp := hold p hlt.1 h.far.1
  have hr := hold r hlt.2 h.far.2.1
  have hpc := h.pc.keep hp
  have hrc := h.rc.keep hr
  have hown : ∀ b ∈ Value.owner (.slice a3 (n + 1) c3), b ∈ Value.owner (.slice a n cp) ∨ w.heap.size ≤ b := by
    intro b hb
    rcases hO with e | ⟨e, _⟩
    · exact .inl ((ob_iff _ _).1 (e ▸ (ob_iff _ _).2 hb))
    · have h2 := (ob_iff _ _).2 hb
      rw [e] at h2
      cases h2
      exact .inr (by show w.heap.size ≤ (W.alloc ob).heap.size; omega)
  have far : p ∉ Value.owner (.slice a3 (n + 1) c3) ∧ r ∉ Value.owner (.slice a3 (n + 1) c3) ∧ p ≠ r :=
    ⟨fun hb => (hown p hb).elim h.far.1 (fun h => by omega), fun hb => (hown r hb).elim h.far.2.1 (fun h => by omega), h.far.2.2⟩
  have hbel : Below w0.heap.size w0 w3 := by
    refine ⟨hG.os.trans (k.os.trans h.bel.os), hG.tape.trans (k.tape.trans h.bel.tape), hG.output.trans (k.output.trans h.bel.output), Nat.le_trans h.bel.size (Nat.le_trans hsz (Nat.le_trans hs2 hG.size)), fun b hb => ?_⟩
    have hb2 : b < w.heap.size := Nat.lt_of_lt_of_le hb h.bel.size
    refine (hold b hb2 (fun hm => ?_)).trans (h.bel.block b hb)
    have := hrow b hm
    omega
  refine ⟨⟨(hpc 3 _ rfl).1, (hrc 0 _ rfl).1, (hrc 0 _ rfl).2⟩, ⟨hpc.keep (Below.heap_setCell w3 _ _ p (fun e => far.2.2 e)), by simpa using hrc.set 0 (by simp) (.slice a3 (n + 1) c3), ?_, far, h.lo, hbel.setCell h.lo.2 _⟩, fun b hb => (hown b hb).elim (hrow b) (fun h2 => Nat.le_trans h.bel.size h2)⟩
  rw [evsC_append, List.length_append, hn]
  exact hW.setCell_far far.2.1 _
set_option maxRecDepth 100000 in
set_option maxHeartbeats 4000000 in
/-- PUT, of the first part. -/
theorem rd_put {w0 w : World} {p r : Nat} {S : ByteArray} {i d : Nat} (e : Ev) (h : RdAt w0 w p r S i d (.slice none 0 0) [] false) :
    Calls Try.prog 57 #[.pointer (some ⟨p, 0, none⟩), evV e] w fun q w' => q = .returned (.tuple #[]) ∧ ∃ a c, RdAt w0 w' p r S i d (.slice a 1 c) [e] true := by
  obtain ⟨k, y, m, t, c⟩ := e
  simp only [evV]
  have hbel : Below w.heap.size w (w.alloc (.cells #[.int .i64 k, .bool y, .int .u64 m, .string t, .int .i64 c] 35)) := up_alloc (Below.refl _ _) _
  have E2 : Hid (Blk (w.alloc (.cells #[.int .i64 k, .bool y, .int .u64 m, .string t, .int .i64 c] 35)) w.heap.size #[.int .i64 k, .bool y, .int .u64 m, .string t, .int .i64 c] 35) := Lib.hid (blk_new _ _ _)
  have WD : ∀ x, Hid (Win (((w.alloc (.cells #[.int .i64 k, .bool y, .int .u64 m, .string t, .int .i64 c] 35))).alloc x).drew 35 5 (.slice none 0 0) 0 []) := fun x => Lib.hid (Win.nil_ _ _ _)
  have hW := h.go hbel
  have p3 : (w.alloc (.cells #[.int .i64 k, .bool y, .int .u64 m, .string t, .int .i64 c] 35)).cell? ⟨p, 3, none⟩ = some (.pointer (some ⟨r, 0, none⟩)) := hW.cells.1.2.2.2.1
  have q3 : ∀ x, ((w.alloc (.cells #[.int .i64 k, .bool y, .int .u64 m, .string t, .int .i64 c] 35)).alloc x).cell? ⟨p, 3, none⟩ = some (.pointer (some ⟨r, 0, none⟩)) := fun x => (hW.go (up_alloc (Below.refl _ _) x)).cells.1.2.2.2.1
  have r0 : (w.alloc (.cells #[.int .i64 k, .bool y, .int .u64 m, .string t, .int .i64 c] 35)).cell? ⟨r, 0, none⟩ = some (.slice none 0 0) := hW.cells.2.2.1.1
  have s0 : ∀ x, ((w.alloc (.cells #[.int .i64 k, .bool y, .int .u64 m, .string t, .int .i64 c] 35)).alloc x).cell? ⟨r, 0, none⟩ = some (.slice none 0 0) := fun x => (hW.go (up_alloc (Below.refl _ _) x)).cells.2.2.1.1
  have e0 : ∀ j u, (#[Value.int .i64 k, .bool y, .int .u64 m, .string t, .int .i64 c] : Array Value)[j]? = some u → (w.alloc (.cells #[.int .i64 k, .bool y, .int .u64 m, .string t, .int .i64 c] 35)).cell? ⟨w.heap.size, j, none⟩ = some u := fun j u hu => (E2.out.cell j).trans hu
  have x0 := e0 0 _ rfl
  have x1 := e0 1 _ rfl
  have x2 := e0 2 _ rfl
  have x3 := e0 3 _ rfl
  have x4 := e0 4 _ rfl
  have f0 : ∀ x j u, (#[Value.int .i64 k, .bool y, .int .u64 m, .string t, .int .i64 c] : Array Value)[j]? = some u → ((w.alloc (.cells #[.int .i64 k, .bool y, .int .u64 m, .string t, .int .i64 c] 35)).alloc x).cell? ⟨w.heap.size, j, none⟩ = some u := fun x j u hu => ((E2.out.alloc x).cell j).trans hu
  have y0 := fun x => f0 x 0 _ rfl
  have y1 := fun x => f0 x 1 _ rfl
  have y2 := fun x => f0 x 2 _ rfl
  have y3 := fun x => f0 x 3 _ rfl
  have y4 := fun x => f0 x 4 _ rfl
  have HE := Lib.hid (fun (w3 : World) (a3 : Option Addr) (c3 : Nat) ob hW hG hO => rd_put_end (w0 := w0) (w := w) (W := (w.alloc (.cells #[.int .i64 k, .bool y, .int .u64 m, .string t, .int .i64 c] 35))) (w3 := w3) (a3 := a3) (c3 := c3) (e := ⟨k, y, m, t, c⟩) (ob := ob) h rfl hbel hW hG hO (fun b hb => by simp [Value.owner] at hb))
  clear h hbel hW E2 e0 f0
  go_enter Try.func57, Try.ntmps57
  go_wp2
  generalize (w.alloc (.cells #[.int .i64 k, .bool y, .int .u64 m, .string t, .int .i64 c] 35)) = W at *
  go_region_law (first
    | (refine step_append_win rfl _ _ _ rfl Try.underlying22 info_ev rfl rfl (WD _).out _ rfl 1 _ (src_new _ Try.underlying22 5 1 [.int .i64 k, .bool y, .int .u64 m, .string t, .int .i64 c] 35 _ rfl (by simp [Value.oneCell']) (heap_alloc_new _ _)) (by unfold maxLen; omega) (by omega) ?_; intro v3 w3 hW3 hG3 hO3; obtain ⟨a3, c3, rfl, _, _⟩ := Win.slice_form hW3.out; have HP := Lib.hid (HE.out w3 a3 c3 _ hW3.out hG3.out hO3.out); have g0 := HP.out.1.1; have g1 := HP.out.1.2.1; have g2 := HP.out.1.2.2; clear hW3 hG3 hO3))
  all_goals
    have HR := Lib.hid (rd_had HP.out.2.1)
    go_wp2_with fail
    refine HR.out.mono ?_
    rintro q w4 ⟨rfl, h4⟩
    have H4 := Lib.hid h4
    clear h4
    go_wp2
    go_end0
    exact ⟨rfl, _, _, H4.out⟩
end Go.Proofs.Ytonjdnahplphhaa
