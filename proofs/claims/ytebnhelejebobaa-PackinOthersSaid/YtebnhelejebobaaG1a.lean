/-
  NO PROGRAM NEEDED (but for names): what the readers of CBOR and of MessagePack have in common (out of CinNest .. CinPj). CONTRACTS of package packin, part A: the open containers (nest): countsLast. CONTRACTS of package packin, part B: endItem. CONTRACT of event.Check: what the machine of EvPure tells of all parts. CHECK of a list of parts that a call made. What PackinNumbers wants (chapter 15): the only part of a list that a call made. CONTRACT of the document's own Writer, for JSON: a value within a container. CONTRACT of the document's own whole numbers of MessagePack (truchmanref1.whole). THE BOOK'S DOCUMENTS OUT OF NUMBERS, AS LISTS: how many parts; that they are one document, with counts or without; what JSON has. THE BOOK'S DOCUMENTS OUT OF NUMBERS, AS LISTS: their numbers, their texts; what JSON has. NO PROGRAM NEEDED but names: the book's documents are what CBOR's reader tells. NO PROGRAM NEEDED: documents written part by part, as far as they are written; blanks ahead of all. NO PROGRAM NEEDED: a document part by part: where Check stands behind one, how deep it is (out of CinKI). NO PROGRAM NEEDED: the book's documents as Check lets them by. CONTRACTS of the book's documents out of numbers: every item, to the depth asked. CONTRACT of the book's documents out of numbers: truchmanbook.Doc. The book's documents: how many blocks one may take; what came in as ints.
-/
import Derived.Test.YtebnhelejebobaaG0a
import Derived.Test.YtebnhelejebobaaG0b
import Derived.Test.YtebnhelejebobaaG0c
import Derived.Test.YtebnhelejebobaaHUtfCk
import Derived.Test.YtebnhelejebobaaHEvOf
import Derived.Test.YtebnhelejebobaaHEvE
import Derived.Deep.Light
import Derived.Test.YtebnhelejebobaaHHeadRh
import Derived.Test.YtebnhelejebobaaHRefWs
import Derived.StillTail
import Derived.Deep.RegionLaw
import Derived.Test.YtebnhelejebobaaHRefPlen
import Derived.Test.YtebnhelejebobaaHDocC
import Derived.Test.YtebnhelejebobaaHDocG
import Derived.Laws.EntriesVeiled
/-
  NO PROGRAM NEEDED (but for names): what the readers of CBOR and of MessagePack have in common (out of CinNest .. CinPj).
-/
namespace Go.Proofs.Ytebnhelejebobaa
open Go.RowKit
open Go.Lib
/-- How many items it has in all; -1: unknown. -/
def cntB (b : Bx) : Int := if b.c < 0 then -1 else if b.map = true then 2 * b.c else b.c
theorem full_cnt (b : Bx) : fullB b = ((b.have_ : Int) == cntB b) := by
  unfold fullB cntB
  rw [Bool.eq_iff_iff, decide_eq_true_eq, beq_iff_eq]
  by_cases h : b.c < 0
  · rw [if_pos h]
    constructor
    · intro h2; omega
    · intro h2; omega
  · rw [if_neg h]
    constructor
    · exact fun h2 => h2.2
    · exact fun h2 => ⟨by omega, h2⟩
theorem key_eq (x : Bx) (r : List Bx) : keyB (x :: r) = (x.map && !decide (x.have_ % 2 = 1)) := by
  simp only [keyB]
  rw [Bool.eq_iff_iff]
  simp
set_option maxRecDepth 100000 in
theorem conv_as {T : TypeId} (hT : Try.prog.underlying T = some .string) {w : World} {v : Value} {n : Nat} {bs : List UInt8} (h : Win w 5 1 v n (bCells bs)) : (convert 42 T v).run Try.prog w = .ok (.string ⟨bs.toArray⟩) w := by
  rcases h.2 with ⟨rfl, rfl⟩ | ⟨g, off, cap, cur, rfl, hg, hnc, hs, hm, hx⟩
  · have : bs = [] := by
      have := h.1
      simp [bCells] at this
      exact this
    subst this
    have ht : (Try.prog.underlying 42, Try.prog.underlying 5) = (some (.slice 5), some (.int .u8)) := by kernel_rfl
    simp only [Prod.mk.injEq] at ht
    simp [convert, run_underlying ht.1, run_underlying ht.2, run_underlying hT, Conv.bytesToString]
    rfl
  · have hl : bs.length = n := by have := h.1; simpa [bCells] using this
    have hby : Lib.Bytes w g off ⟨bs.toArray⟩ := by
      intro i hi
      have hi' : i < bs.length := by simpa [ByteArray.size] using hi
      have hu : (bCells bs)[i]? = some (.int .u8 bs[i].toNat) := by simp [bCells, hi']
      rw [← hx, List.getElem?_take_of_lt (by omega), List.getElem?_drop] at hu
      simp only [World.cell?, hg]
      have hb : (⟨bs.toArray⟩ : ByteArray)[i] = bs[i] := rfl
      rw [hb]
      simpa using hu
    have := run_convert_window (P := Try.prog) w 42 5 T Try.underlying42 Try.underlying5 hT g off ⟨bs.toArray⟩ hby 0 n cap (by simp [ByteArray.size]; omega)
    rw [Nat.add_zero] at this
    rw [this]
    congr 2
    apply ByteArray.ext
    apply Array.toList_inj.1
    rw [extract_data]
    show List.take _ bs = bs
    exact List.take_of_length_le (by omega)
def mjT (m : Bool) : Nat := if m = true then 3 else 2
theorem vle_end : valE evEnd = .iface 109 (.agg #[]) := rfl
/-- Where a Parser is behind an item. -/
def plE (s : List Bx) : Nat := if s.isEmpty = true then 3 else 0
/-- What is asked of the worlds. -/
structure Low (w0 w : World) (b : Nat) (vs : Value) : Prop where
  size : w0.heap.size ≤ w.heap.size
  b : b < w0.heap.size
  vs : ∀ k ∈ Value.owner vs, k < w0.heap.size
theorem Low.of {w0 w w' : World} {b : Nat} {vs vs' : Value} (h : Low w0 w b vs) (hs : w.heap.size ≤ w'.heap.size) (hv : Value.owner vs' = Value.owner vs) : Low w0 w' b vs' := ⟨Nat.le_trans h.size hs, h.b, hv ▸ h.vs⟩
theorem inc_lenK (s : List Bx) : (incB s).length = s.length := by cases s <;> rfl
theorem Low.up {w0 w w' : World} {b : Nat} {vs : Value} (h : Low w0 w b vs) (hB : Below w.heap.size w w') : Low w0 w' b vs := h.of hB.size rfl
theorem err_put (s : List Bx) (e : Ev) : errCi (putC s e).1 = 0 := rfl
/-! ### A byte of a text -/
def mayH (m : Bool) (lk : Nat) (u : Option (Nat × Nat × Nat)) : Bool := !m || (u.isSome && (decide (0 < lk) || wholeS u))
theorem bCells_append (l k : List UInt8) : bCells (l ++ k) = bCells l ++ bCells k := by simp [bCells]
theorem win_two (w : World) (v u : Value) (e : TypeId) (g : Nat) (hg : g = w.heap.size) : Win (w.alloc (.cells #[v, u] e)) e 1 (.slice (some ⟨g, 0, none⟩) 2 2) 2 [v, u] := by
  subst hg
  exact ⟨rfl, .inr ⟨w.heap.size, 0, 2, _, rfl, heap_alloc_new w _, Nat.le_refl _, by simp, by unfold maxLen; omega, by simp⟩⟩
theorem val_beg (m : Bool) (c : Int) : valE (evBegC m c) = .iface 107 (.agg #[.bool m, .int .i64 c]) := by cases m <;> rfl
theorem begin_ne (s : List Bx) (m : Bool) {c : Int} (hc : c ≠ 0) : beginC s m c = (.item (⟨m, c, 0⟩ :: incB s) false, [evBegC m c]) := by
  have hf : fullB ⟨m, c, 0⟩ = false := by
    unfold fullB
    rw [decide_eq_false_iff_not]
    rintro ⟨_, h⟩
    simp only at h
    split at h <;> simp at h <;> omega
  unfold beginC atC endsC
  simp only [restC, numC, hf, Bool.false_eq_true, if_false]
  rfl
theorem begin_zero (s : List Bx) (m : Bool) : beginC s m 0 = (atC (incB s), [evBegC m 0, evEnd] ++ endsC (incB s)) := by
  have hf : fullB ⟨m, 0, 0⟩ = true := by cases m <;> rfl
  unfold beginC atC endsC
  simp only [restC, numC, hf, if_true, List.replicate_succ]
  rfl
theorem begin_err (s : List Bx) (m : Bool) (c : Int) : errCi (beginC s m c).1 = 0 := rfl
end Go.Proofs.Ytebnhelejebobaa
/-
  CONTRACTS of package packin, part A: the open containers (nest): countsLast.
-/
namespace Go.Proofs.Ytebnhelejebobaa
open Go.RowKit
open Go.Lib
/-! ### Open containers as cells: whether it is a Map, how many items it lacks -/
def ccL (m : Bool) (L : Int) : List Value := [.bool m, .int .i64 L]
def ccP (b : Bx) (k : Nat) : List Value := ccL b.map (cntB b - (k : Int))
/-- While an item of the innermost one is about to end (or has begun): it is not counted yet. -/
def outP : List Bx → List Value
  | [] => []
  | b :: r => outP r ++ ccP b (b.have_ - 1)
/-- Between items. -/
def inP : List Bx → List Value
  | [] => []
  | b :: r => outP r ++ ccP b b.have_
theorem outP_length : ∀ s : List Bx, (outP s).length = s.length * 2
  | [] => rfl
  | b :: r => by rw [outP, List.length_append, outP_length r]; simp [ccP, ccL]; omega
theorem inP_out : ∀ s : List Bx, outP (incB s) = inP s
  | [] => rfl
  | _ :: _ => rfl
/-- What one of a known count may be. -/
def CntP (x : Bx) : Prop := 0 ≤ x.c ∧ x.c ≤ 1000000 ∧ (x.have_ : Int) ≤ cntB x
theorem CntP.le {x : Bx} (h : CntP x) : 0 ≤ cntB x ∧ cntB x ≤ 2000000 := by
  obtain ⟨h1, h2, _⟩ := h
  unfold cntB
  rw [if_neg (by omega)]
  split <;> omega
/-- The open ones, between items: each but the innermost has an item; the innermost lacks one. -/
structure OkP (s : List Bx) : Prop where
  deep : s.length ≤ 16
  all : ∀ x ∈ s, CntP x
  some_ : ∀ x ∈ s.tail, 1 ≤ x.have_
  head : ∀ x r, s = x :: r → fullB x = false
/-- While an item ends: each has one. -/
structure OutP (s : List Bx) : Prop where
  deep : s.length ≤ 16
  all : ∀ x ∈ s, CntP x ∧ 1 ≤ x.have_
theorem OkP.inc {s : List Bx} (h : OkP s) : OutP (incB s) := by
  cases s with
  | nil => exact ⟨by simp [incB], fun x hx => by simp [incB] at hx⟩
  | cons y r =>
    refine ⟨h.deep, fun x hx => ?_⟩
    simp only [incB, List.mem_cons] at hx
    rcases hx with rfl | hx
    · have h1 := h.all y (by simp)
      have h2 := h.head y r rfl
      rw [full_cnt, beq_eq_false_iff_ne] at h2
      obtain ⟨a, b, c⟩ := h1
      refine ⟨⟨a, b, ?_⟩, by simp⟩
      show ((y.have_ + 1 : Nat) : Int) ≤ cntB y
      omega
    · exact ⟨h.all x (List.mem_cons_of_mem _ hx), h.some_ x hx⟩
theorem OutP.tail {x : Bx} {r : List Bx} (h : OutP (x :: r)) : OutP r := ⟨by have := h.deep; simp only [List.length_cons] at this; omega, fun y hy => h.all y (List.mem_cons_of_mem _ hy)⟩
theorem OutP.rest : ∀ {s : List Bx}, OutP s → OkP (restC s)
  | [], _ => ⟨by simp [restC], fun x hx => by simp [restC] at hx, fun x hx => by simp [restC] at hx, fun x r h => by cases h⟩
  | b :: r, h => by
    rw [restC]
    by_cases hf : fullB b = true
    · rw [if_pos hf]
      exact h.tail.rest
    · rw [if_neg hf]
      refine ⟨h.deep, fun x hx => (h.all x hx).1, fun x hx => (h.all x (List.mem_cons_of_mem _ hx)).2, fun x r' he => ?_⟩
      cases he
      simpa using hf
theorem OkP.push {s : List Bx} (h : OkP s) (hd : s.length < 16) (m : Bool) {c : Int} (hc : 0 < c ∧ c ≤ 1000000) : OkP (⟨m, c, 0⟩ :: incB s) := by
  have h1 := h.inc
  refine ⟨by rw [List.length_cons, inc_lenK]; omega, fun x hx => ?_, fun x hx => (h1.all x hx).2, fun x r he => ?_⟩
  · rcases List.mem_cons.1 hx with rfl | hx
    · refine ⟨by simp only; omega, hc.2, ?_⟩
      unfold cntB
      rw [if_neg (by simp only; omega)]
      simp only
      split <;> omega
    · exact (h1.all x hx).1
  · cases he
    rw [full_cnt, beq_eq_false_iff_ne]
    unfold cntB
    rw [if_neg (by simp only; omega)]
    simp only
    split <;> omega
theorem info_conP : (Try.prog.info? 136).map (fun i => (i.zero, i.size, i.bytes)) = some (some (.agg #[.bool false, .int .i64 0]), 2, 16) := by kernel_rfl
/-- The innermost one, as the walks meet it. -/
theorem nsp_last {w : World} {v : Value} {P : List Value} {n : Nat} {m : Bool} {L : Int} (hP : P.length = n * 2) (h : Win w 136 2 v (n + 1) (P ++ ccL m L)) :
    ∃ g off cap, v = .slice (some ⟨g, off, none⟩) (n + 1) cap ∧
      (w.cell? ⟨g, off + n * 2, none⟩ = some (.bool m) ∧ w.cell? ⟨g, off + n * 2 + 1, none⟩ = some (.int .i64 L)) ∧
      (w.frozen? ⟨g, off + n * 2, none⟩ = false ∧ w.frozen? ⟨g, off + n * 2 + 1, none⟩ = false) := by
  obtain ⟨g, off, cap, rfl, h1, h2, _, _, h3⟩ := h.form (by simp)
  have hx : ∀ j u, (ccL m L)[j]? = some u → w.cell? ⟨g, off + (n * 2 + j), none⟩ = some u ∧ w.frozen? ⟨g, off + (n * 2 + j), none⟩ = false := fun j u hu => by
    refine h3 _ u ?_
    rw [← hP, List.getElem?_append_right (by omega), Nat.add_sub_cancel_left]
    exact hu
  have x0 := hx 0 _ rfl
  have x1 := hx 1 _ rfl
  simp only [← Nat.add_assoc, Nat.add_zero] at x0 x1
  exact ⟨g, off, cap, rfl, ⟨x0.1, x1.1⟩, ⟨x0.2, x1.2⟩⟩
theorem nsp_store {w : World} {P : List Value} {m : Bool} {L L' : Int} {g off cap n k : Nat} (_ : k = n + 1) (hP : P.length = n * 2) (h : Win w 136 2 (.slice (some ⟨g, off, none⟩) k cap) k (P ++ ccL m L)) :
    Win (w.setCell ⟨g, off + n * 2 + 1, none⟩ (.int .i64 L')) 136 2 (.slice (some ⟨g, off, none⟩) k cap) k (P ++ ccL m L') := by
  have hw := h.store (n * 2 + 1) (by rw [List.length_append, hP]; simp [ccL]) (.int .i64 L')
  have hx : (P ++ ccL m L).set (n * 2 + 1) (.int .i64 L') = P ++ ccL m L' := by
    rw [← hP, List.set_append, if_neg (by omega), Nat.add_sub_cancel_left]
    rfl
  rw [hx, ← Nat.add_assoc] at hw
  exact hw
set_option maxHeartbeats 1000000 in
theorem pcounts_nil (w : World) : ∀ v, Win w 136 2 v 0 [] → Calls Try.prog 81 #[v] w fun r w' => r = .returned (.bool false) ∧ w = w' := by
  intro v h
  obtain ⟨a, cap, rfl, _, _⟩ := h.slice_form
  clear h
  go_enter Try.func81, Try.ntmps81
  go_wp2
  go_ret
  exact ⟨rfl, rfl⟩
set_option maxHeartbeats 1000000 in
theorem pcounts_at {w : World} {P : List Value} {m : Bool} {L : Int} {n : Nat} {v : Value} (hP : P.length = n * 2) (hd : n < 16) (h : Win w 136 2 v (n + 1) (P ++ ccL m (L + 1))) (hL : 0 ≤ L ∧ L ≤ 2000000) :
    Calls Try.prog 81 #[v] w fun e w' => e = .returned (.bool (L == 0)) ∧ ∃ g off cap, v = .slice (some ⟨g, off, none⟩) (n + 1) cap ∧ w' = w.setCell ⟨g, off + n * 2 + 1, none⟩ (.int .i64 L) := by
  obtain ⟨g, off, cap, rfl, ⟨c0, c1⟩, ⟨f0, f1⟩⟩ := nsp_last hP h
  clear h
  have hw : IntKind.i64.wrap (L + 1 - 1) = L := by simp only [IntKind.wrap_i64]; omega
  have hw2 : IntKind.i64.wrap L = L := by simp only [IntKind.wrap_i64]; omega
  have hz : ((n : Int) + 1 == 0) = false := by rw [beq_eq_false_iff_ne]; omega
  have hwm : wrap64 (n : Int) = (n : Int) := by unfold wrap64; omega
  clear hP hL
  go_enter Try.func81, Try.ntmps81
  go_wp2
  go_ret
  exact ⟨rfl, g, off, cap, rfl, rfl⟩
end Go.Proofs.Ytebnhelejebobaa
/-
  CONTRACTS of package packin, part B: endItem.
-/
namespace Go.Proofs.Ytebnhelejebobaa
open Go.RowKit
open Go.Lib
/-- A list of open containers, at a place of a block. -/
structure NsP (w : World) (b o : Nat) (v : Value) (n : Nat) (xs : List Value) : Prop where
  ptr : At w b o [v]
  win : Win w 136 2 v n xs
  far : b ∉ Value.owner v
theorem NsP.subg {g : List Nat} {w w' : World} {b o o' m n : Nat} {v : Value} {xs : List Value} (h : NsP w b o v n xs) (k : Subg g b o' m w w') (hd : o + 1 ≤ o' ∨ o' + m ≤ o) (hg : ∀ x ∈ Value.owner v, x ∉ g) : NsP w' b o v n xs :=
  ⟨h.ptr.subg k hd, h.win.subg k h.far hg, h.far⟩
theorem NsP.keep {w w' : World} {b o n : Nat} {v : Value} {xs : List Value} (h : NsP w b o v n xs) (hk : Below w.heap.size w w') : NsP w' b o v n xs :=
  ⟨h.ptr.keep (hk.block b (h.ptr.lt (by simp))), h.win.keep fun k hx => hk.block k (h.win.lt k hx), h.far⟩
theorem NsP.drewN {w : World} {b o n : Nat} {v : Value} {xs : List Value} (h : NsP w b o v n xs) (q : Nat) : NsP (w.drewN q) b o v n xs := ⟨h.ptr, h.win, h.far⟩
/-- What endItem's rounds leave. -/
structure EndP (w wr : World) (b o N : Nat) (v v' : Value) (s q : List Bx) (j : Nat) : Prop where
  len : q.length + j = N
  rest : restC s = restC q
  num : numC s = numC q + j
  nst : NsP wr b o v' q.length (outP q)
  out : OutP q
  own : Value.owner v' = Value.owner v
  sub : Subg (Value.owner v) b o 1 w wr
/-- Behind countsLast. -/
theorem EndP.count {w wr w1 : World} {b o N : Nat} {v : Value} {s : List Bx} {x : Bx} {r : List Bx} {j g off cap : Nat} (h : EndP w wr b o N v (.slice (some ⟨g, off, none⟩) (r.length + 1) cap) s (x :: r) j)
    (hw : w1 = wr.setCell ⟨g, off + r.length * 2 + 1, none⟩ (.int .i64 (cntB x - (x.have_ : Int)))) :
    NsP w1 b o (.slice (some ⟨g, off, none⟩) (r.length + 1) cap) (r.length + 1) (outP r ++ ccP x x.have_) ∧ Subg (Value.owner v) b o 1 w w1 := by
  have hne : g ≠ b := fun e => h.nst.far (by simp [Value.owner, e])
  have hs := nsp_store (L' := cntB x - (x.have_ : Int)) rfl (outP_length r) h.nst.win
  have hS : Subg (Value.owner (.slice (some ⟨g, off, none⟩) (r.length + 1) cap)) b o 1 wr (wr.setCell ⟨g, off + r.length * 2 + 1, none⟩ (.int .i64 (cntB x - (x.have_ : Int)))) := subg_far wr (by simp [Value.owner]) hne _
  rw [hw]
  refine ⟨⟨h.nst.ptr.keep (Below.heap_setCell wr _ _ b (fun e => hne e.symm)), hs, h.nst.far⟩, ?_⟩
  have hS2 := h.sub
  rw [← h.own] at hS2 ⊢
  exact hS2.tr hS
/-- Where the innermost one goes on. -/
theorem EndP.stop {w wr w1 : World} {b o N : Nat} {v : Value} {s : List Bx} {x : Bx} {r : List Bx} {j g off cap : Nat} (h : EndP w wr b o N v (.slice (some ⟨g, off, none⟩) (r.length + 1) cap) s (x :: r) j)
    (hw : w1 = wr.setCell ⟨g, off + r.length * 2 + 1, none⟩ (.int .i64 (cntB x - (x.have_ : Int)))) (hf : fullB x = false) :
    numC s = j ∧ ∃ v', NsP w1 b o v' (restC s).length (inP (restC s)) ∧ Value.owner v' = Value.owner v ∧ Subg (Value.owner v) b o 1 w w1 := by
  obtain ⟨h1, h2⟩ := h.count hw
  have hq : restC (x :: r) = x :: r := by rw [restC, if_neg (by rw [hf]; decide)]
  have hq2 : numC (x :: r) = 0 := by rw [numC, if_neg (by rw [hf]; decide)]
  refine ⟨by rw [h.num, hq2]; omega, _, ?_, h.own, h2⟩
  rw [h.rest, hq]
  exact h1
/-- Where none is open any more. -/
theorem EndP.none {w wr : World} {b o N : Nat} {v v' : Value} {s : List Bx} {j : Nat} (h : EndP w wr b o N v v' s [] j) : numC s = j ∧ ∃ v', NsP wr b o v' (restC s).length (inP (restC s)) ∧ Value.owner v' = Value.owner v ∧ Subg (Value.owner v) b o 1 w wr := by
  refine ⟨by rw [h.num]; simp [numC], v', ?_, h.own, h.sub⟩
  rw [h.rest]
  exact h.nst
/-- A container that is at its end goes. -/
theorem EndP.next {w wr w1 w2 : World} {b o N : Nat} {v v1 v2 : Value} {s : List Bx} {x : Bx} {r : List Bx} {j : Nat} (h : EndP w wr b o N v v1 s (x :: r) j) (hf : fullB x = true)
    (hS : Subg (Value.owner v) b o 1 w w1) (hN : NsP w2 b o v2 r.length (outP r)) (ho : Value.owner v2 = Value.owner v1) (h2 : Sub b o 1 w1 w2) : EndP w w2 b o N v v2 s r (j + 1) := by
  have h1 := h.len
  simp only [List.length_cons] at h1
  refine ⟨by omega, ?_, ?_, hN, h.out.tail, ho.trans h.own, hS.tr (h2.subg _)⟩
  · rw [h.rest, restC, if_pos hf]
  · rw [h.num, numC, if_pos hf]; omega
set_option maxRecDepth 100000 in
set_option maxHeartbeats 4000000 in
/-- ENDITEM. -/
theorem pendItem_at {w : World} {b o : Nat} {v : Value} {s : List Bx} (h : NsP w b o v s.length (outP s)) (hk : OutP s) :
    Calls Try.prog 76 #[.pointer (some ⟨b, o, none⟩)] w fun r w' => r = .returned (.int .i64 (numC s : Nat)) ∧ ∃ v', NsP w' b o v' (restC s).length (inP (restC s)) ∧ Value.owner v' = Value.owner v ∧ Subg (Value.owner v) b o 1 w w' := by
  obtain ⟨N, hN⟩ : ∃ N, s.length = N := ⟨_, rfl⟩
  have H0 : Hid (EndP w w b o N v v s s 0) := Lib.hid ⟨by omega, rfl, by omega, h, hk, rfl, Subg.refl _ _ _ _ _⟩
  have hd := hk.deep
  rw [hN] at hd
  clear h hk hN
  go_enter Try.func76, Try.ntmps76
  go_wp2
  go_loopw [3] (fun i wr => ∃ (j : Nat), i = .int .i64 j ∧ j ≤ N ∧ Hid (∃ (q : List Bx) (v' : Value), EndP w wr b o N v v' s q j)) (fun i _ => N - (RowKit.intOf i).toNat)
  case atStart => exact ⟨0, rfl, by omega, Lib.hid ⟨s, v, H0.out⟩⟩
  case round =>
    obtain ⟨j, rfl, hj, HI⟩ := hrel
    obtain ⟨q, v', hI⟩ := HI.out
    have hwj : wrap64 ((j : Int) + 1) = (j : Int) + 1 := by unfold wrap64; omega
    have hwj2 : IntKind.i64.wrap ((j : Int) + 1) = (j : Int) + 1 := by simp only [IntKind.wrap_i64]; omega
    cases q with
    | nil =>
      have c1 := (hI.nst.ptr 0 _ rfl).1
      have f1 := (hI.nst.ptr 0 _ rfl).2
      simp only [Nat.add_zero] at c1 f1
      have HC := Lib.hid (pcounts_nil wr v' hI.nst.win)
      have HR := Lib.hid hI.none
      clear HI hI
      go_wp2_with fail
      refine HC.out.mono ?_
      rintro r w1 ⟨rfl, rfl⟩
      go_wp2
      go_ret
      exact ⟨by rw [HR.out.1]; rfl, HR.out.2⟩
    | cons x r =>
      have hlen := hI.len
      simp only [List.length_cons] at hlen
      have hx := hI.out.all x (by simp)
      have hle := hx.1.le
      have hhv := hx.1.2.2
      have h1 := hx.2
      have hL : cntB x - ((x.have_ - 1 : Nat) : Int) = (cntB x - (x.have_ : Int)) + 1 := by omega
      have hwin : Win wr 136 2 v' (r.length + 1) (outP r ++ ccL x.map (cntB x - (x.have_ : Int) + 1)) := by
        have := hI.nst.win
        simp only [outP, ccP, List.length_cons] at this
        rwa [hL] at this
      have HC := Lib.hid (pcounts_at (outP_length r) (by omega) hwin (by omega))
      have hz : (cntB x - (x.have_ : Int) == 0) = fullB x := by
        rw [full_cnt, Bool.eq_iff_iff, beq_iff_eq, beq_iff_eq]; omega
      rw [hz] at HC
      obtain ⟨g, off, cap, hv', _, _⟩ := nsp_last (outP_length r) hwin
      subst hv'
      have c1 := (hI.nst.ptr 0 _ rfl).1
      have f1 := (hI.nst.ptr 0 _ rfl).2
      simp only [Nat.add_zero] at c1 f1
      have hlt : j < N := by omega
      have HR := Lib.hid (And.intro hI hlt)
      clear HI hI hlen hx hle hhv h1 hL hwin hz
      by_cases hf : fullB x = true
      · rw [hf] at HC
        have HF := Lib.hid hf
        clear hf
        go_wp2_with fail
        refine HC.out.mono ?_
        rintro e w1 ⟨rfl, g', off', cap', hv, hw1⟩
        cases hv
        obtain ⟨hN1, hS1⟩ := HR.out.1.count hw1
        obtain ⟨v2, hsl, hw2, ho2⟩ := hN1.win.hi (P := Try.prog) (t := 84) Try.underlying84 (fun w => by kernel_rfl) r.length (by omega)
        rw [← outP_length, List.take_left] at hw2
        obtain ⟨a2, c2, rfl, _, _⟩ := hw2.slice_form
        have hl : IntKind.i64.wrap (r.length : Int) = (r.length : Int) := by simp only [IntKind.wrap_i64]; have := HR.out.2; have := HR.out.1.len; simp only [List.length_cons] at this; omega
        have d1 := (hN1.ptr 0 _ rfl).1
        have g1 := (hN1.ptr 0 _ rfl).2
        simp only [Nat.add_zero] at d1 g1
        have hfin : Hid (EndP w ((w1.setCell ⟨b, o, none⟩ (.slice a2 r.length c2)).drewN 1) b o N v (.slice a2 r.length c2) s r (j + 1)) := Lib.hid (HR.out.1.next HF.out hS1 (NsP.drewN ⟨hN1.ptr.set 0 (by simp) _, hw2.setCell_far (by rw [ho2]; exact hN1.far) _, by rw [ho2]; exact hN1.far⟩ 1) ho2 ((sub_setCell w1 o _ (by omega)).drewN 1))
        have HLT := Lib.hid HR.out.2
        clear HC HR HF hw1 hN1 hS1 hw2 ho2 c1 f1
        go_wp2_with fail
        refine wp_region_tail 11 (by kernel_rfl) (by kernel_rfl) ?_
        simp only [List.take_succ_cons, List.take_zero, List.drop_succ_cons, List.drop_zero]
        repeat still_step
        refine wpStill_nil ?_
        go_wp2
        go_roundw
        case rel => exact ⟨j + 1, rfl, HLT.out, Lib.hid ⟨_, _, hfin.out⟩⟩
        case measure =>
          have := HLT.out
          simp [RowKit.intOf]; omega
      · rw [show fullB x = false by simpa using hf] at HC
        have HF := Lib.hid hf
        clear hf
        go_wp2_with fail
        refine HC.out.mono ?_
        rintro e w1 ⟨rfl, g', off', cap', hv, hw1⟩
        cases hv
        have HE := Lib.hid (HR.out.1.stop hw1 (by simpa using HF.out))
        clear hw1 HC HR HF
        go_wp2
        go_ret
        exact ⟨by rw [HE.out.1]; rfl, HE.out.2⟩
end Go.Proofs.Ytebnhelejebobaa
/-
  CONTRACT of event.Check: what the machine of EvPure tells of all parts.
-/
namespace Go.Proofs.Ytebnhelejebobaa
open Go.RowKit
open Go.Lib
theorem CkAt.go {M B : Nat} {w w' : World} {d : Nat} {st : Ck} (h : CkAt M B w d st) (k : Below w.heap.size w w') : CkAt M B w' d st := by
  cases st with
  | bad f => exact h
  | live s => obtain ⟨v, h⟩ := h; exact ⟨v, h.go k⟩
  | done => obtain ⟨v, h⟩ := h; exact ⟨v, h.go k⟩
theorem run_succ (E : Nat → Ev) (s : Ck) (j : Nat) : runC s (pre E (j + 1)) = stepC (runC s (pre E j)) (E j) := by
  rw [pre_succ, runC_append]
  rfl
theorem ck_bad_at (E : Nat → Ev) (s : Ck) {j n f : Nat} (hj : j ≤ n) (h : runC s (pre E j) = .bad f) : runC s (pre E n) = .bad f := by
  obtain ⟨r, hr⟩ := pre_split E j (n - j)
  rw [Nat.add_sub_cancel' hj] at hr
  rw [hr, runC_append, h, runC_bad]
/-- take: whatever the part, wherever the machine stands. -/
theorem take_any (M B : Nat) (w : World) (d : Nat) (st : Ck) (h : CkAt M B w d st) (e : Ev) (he : EvOk e) (hM : M + 1 ≤ 1000) :
    Calls Try.prog 27 #[.pointer (some ⟨d, 0, none⟩), evV e] w fun r w' => r = .returned (.int .i64 (errS (stepC st e) : Nat)) ∧ Below B w w' ∧ ((∃ f, stepC st e = .bad f) ∨ CkAt (M + 1) B w' d (stepC st e)) := by
  obtain ⟨k, y, m, t, c⟩ := e
  have hc : -9223372036854775808 ≤ c ∧ c ≤ 9223372036854775807 := he.2.2.1
  by_cases hm : mayE ⟨k, y, m, t, c⟩
  · have hO := fun w => of_any ⟨k, y, m, t, c⟩ w
    simp only [if_pos hm, decide_eq_true hm] at hO
    cases st with
    | bad f => exact absurd h id
    | done =>
      obtain ⟨v, h⟩ := h
      exact (take_over M B w d [] v h k y m t c _ hO).mono fun r w' ⟨h1, h2⟩ => ⟨h1, h2, .inl ⟨2, rfl⟩⟩
    | live s =>
      obtain ⟨v, h⟩ := h
      have hnm : ¬ ¬ mayE ⟨k, y, m, t, c⟩ := fun hh => hh hm
      by_cases h7 : k = 7
      · subst h7
        cases s with
        | nil =>
          have hs : stepC (.live []) ⟨7, y, m, t, c⟩ = .bad 2 := by simp only [stepC]; rw [if_neg hnm, if_pos trivial]
          rw [hs]
          refine (takes_end M B w d [] v h y m t c _ hO 2 (fun _ => True) fun w1 hw1 => ?_).mono fun r w' ⟨h1, h2, _⟩ => ⟨h1, h2, .inl ⟨2, rfl⟩⟩
          exact (ends_none M B w1 d false v (h.go hw1)).mono fun r w' ⟨h1, h2⟩ => ⟨h1, h2.mono (h.go hw1).lt, trivial⟩
        | cons b r =>
          have hs : stepC (.live (b :: r)) ⟨7, y, m, t, c⟩ = if shutB b then .bad 2 else if r = [] then .done else .live r := by simp only [stepC]; rw [if_neg hnm, if_pos trivial]
          rw [hs]
          by_cases hb : shutB b
          · rw [if_pos hb]
            refine (takes_end M B w d (b :: r) v h y m t c _ hO 2 (fun _ => True) fun w1 hw1 => ?_).mono fun r w' ⟨h1, h2, _⟩ => ⟨h1, h2, .inl ⟨2, rfl⟩⟩
            exact (end_shut M B w1 d b r false v (h.go hw1) hb).mono fun r w' ⟨h1, h2⟩ => ⟨h1, h2.mono (h.go hw1).lt, trivial⟩
          · rw [if_neg hb]
            refine (takes_end M B w d (b :: r) v h y m t c _ hO 0 (fun w' => ∃ v', Doc M B w' d r (decide (r = [])) v') fun w1 hw1 => ?_).mono fun x w' ⟨h1, h2, h3⟩ => ?_
            · exact (end_ok M B w1 d b r false v (h.go hw1) hb)
            · obtain ⟨v', h3⟩ := h3
              by_cases hr : r = []
              · subst hr
                rw [if_pos rfl]
                exact ⟨h1, h2, .inr ⟨v', h3.up hM⟩⟩
              · rw [if_neg hr]
                rw [decide_eq_false hr] at h3
                exact ⟨h1, h2, .inr ⟨v', h3.up hM⟩⟩
      · by_cases hk : keyB s = true ∧ k ≠ 3
        · have hs : stepC (.live s) ⟨k, y, m, t, c⟩ = .bad 8 := by simp only [stepC]; rw [if_neg hnm, if_neg h7, if_pos hk]
          rw [hs]
          exact (take_key M B w d s v h k y m t c _ hO h7 hk.2 hk.1).mono fun r w' ⟨h1, h2⟩ => ⟨h1, h2, .inl ⟨8, rfl⟩⟩
        · by_cases h56 : k = 5 ∨ k = 6
          · have hs : stepC (.live s) ⟨k, y, m, t, c⟩ = if 16 ≤ s.length then .bad 4 else .live (⟨decide (k = 6), c, 0⟩ :: incB s) := by
              simp only [stepC]; rw [if_neg hnm, if_neg h7, if_neg hk, if_pos h56]
            have hks : keyB s = false := by
              cases hq : keyB s with
              | false => rfl
              | true => exact absurd ⟨hq, by omega⟩ hk
            have hcc : -1 ≤ c ∧ c ≤ 9223372036854775807 := ⟨hm.2.2 h56, hc.2⟩
            rw [hs]
            by_cases h16 : 16 ≤ s.length
            · have h16' : s.length = 16 := by have := h.deep; omega
              rw [if_pos h16]
              rcases h56 with rfl | rfl
              · exact (take_deep_5 M B w d s v h y m t c _ hO hks h16').mono fun r w' ⟨h1, h2⟩ => ⟨h1, h2, .inl ⟨4, rfl⟩⟩
              · exact (take_deep_6 M B w d s v h y m t c _ hO hks h16').mono fun r w' ⟨h1, h2⟩ => ⟨h1, h2, .inl ⟨4, rfl⟩⟩
            · rw [if_neg h16]
              cases s with
              | nil =>
                rcases h56 with rfl | rfl
                · exact (take_open_5 M B w d v h y m t c _ hO hM hcc).mono fun r w' ⟨h1, h2, h3⟩ => ⟨h1, h2, .inr h3⟩
                · exact (take_open_6 M B w d v h y m t c _ hO hM hcc).mono fun r w' ⟨h1, h2, h3⟩ => ⟨h1, h2, .inr h3⟩
              | cons b l =>
                have hl : l.length + 1 < 16 := by simp at h16; omega
                rcases h56 with rfl | rfl
                · exact (take_more_5 M B w d b l v h y m t c _ hO hM hcc hks hl).mono fun r w' ⟨h1, h2, h3⟩ => ⟨h1, h2, .inr h3⟩
                · exact (take_more_6 M B w d b l v h y m t c _ hO hM hcc hks hl).mono fun r w' ⟨h1, h2, h3⟩ => ⟨h1, h2, .inr h3⟩
          · have hs : stepC (.live s) ⟨k, y, m, t, c⟩ = if s = [] then .done else .live (incB s) := by
              simp only [stepC]; rw [if_neg hnm, if_neg h7, if_neg hk, if_neg h56]
            rw [hs]
            have h5 : k ≠ 5 := fun h => h56 (.inl h)
            have h6 : k ≠ 6 := fun h => h56 (.inr h)
            by_cases h3 : k = 3
            · subst h3
              cases s with
              | nil => exact (take_text_nil M B w d v h y m t c _ hO hM).mono fun r w' ⟨h1, h2, h3⟩ => ⟨h1, h2, .inr h3⟩
              | cons b l => exact (take_text_in M B w d b l v h y m t c _ hO hM).mono fun r w' ⟨h1, h2, h3⟩ => ⟨h1, h2, .inr h3⟩
            · have hks : keyB s = false := by
                cases hq : keyB s with
                | false => rfl
                | true => exact absurd ⟨hq, h3⟩ hk
              cases s with
              | nil => exact (take_other_nil M B w d v h k y m t c _ hO h7 h3 h5 h6 hks hM).mono fun r w' ⟨h1, h2, h3⟩ => ⟨h1, h2, .inr h3⟩
              | cons b l => exact (take_other_in M B w d b l v h k y m t c _ hO h7 h3 h5 h6 hks hM).mono fun r w' ⟨h1, h2, h3⟩ => ⟨h1, h2, .inr h3⟩
  · have hO := fun w => of_any ⟨k, y, m, t, c⟩ w
    simp only [if_neg hm, decide_eq_false hm] at hO
    cases st with
    | bad f => exact absurd h id
    | done =>
      obtain ⟨v, h⟩ := h
      exact (takes_none M B w d [] true v h k y m t c _ hO).mono fun r w' ⟨h1, h2⟩ => ⟨h1, h2, .inl ⟨2, rfl⟩⟩
    | live s =>
      obtain ⟨v, h⟩ := h
      have hs : stepC (.live s) ⟨k, y, m, t, c⟩ = .bad 2 := by simp only [stepC]; rw [if_pos hm]
      rw [hs]
      exact (takes_none M B w d s false v h k y m t c _ hO).mono fun r w' ⟨h1, h2⟩ => ⟨h1, h2, .inl ⟨2, rfl⟩⟩
theorem errS_bad {s : Ck} (h : WfC s) {f : Nat} (hs : s = .bad f) : ((f : Int) != 0) = true := by
  subst hs
  rcases h with rfl | rfl | rfl <;> rfl
set_option maxHeartbeats 1000000 in
theorem check_any (A : Option Addr) (n cp : Nat) (E : Nat → Ev) (w : World) (hn : n ≤ 900) (hE : EvsAt w w.heap.size A n E) (hok : ∀ i, i < n → EvOk (E i)) :
    Calls Try.prog 15 #[.slice A n cp] w fun r w' => r = .returned (.int .i64 (checkE (pre E n) : Nat)) ∧ Below w.heap.size w w' := by
  obtain ⟨Z, hZ⟩ : ∃ Z : Nat, Z = checkE (pre E n) := ⟨_, rfl⟩
  rw [← hZ]
  have HZ := Lib.hid hZ
  have HE := Lib.hid hE
  have HOK := Lib.hid hok
  have HNN := Lib.hid hn
  have h0 : CkAt 0 w.heap.size (w.alloc (.cells #[.slice none 0 0, .bool false] 64)) w.heap.size (.live []) :=
    ⟨_, blk_new w _ _, Win.nil_ _ _ _, Nat.le_refl _, fun k hk => by simp [Value.owner] at hk, fun b hb => by simp at hb, by simp, by omega⟩
  have H0 := Lib.hid h0
  clear h0 hZ hE hok
  go_enter Try.func15, Try.ntmps15
  go_wp2
  go_loopw [9] (fun i wr => ∃ j : Nat, i = .int .i64 j ∧ j ≤ n ∧ Hid (CkAt j w.heap.size wr w.heap.size (runC (.live []) (pre E j))) ∧ Hid (Below w.heap.size w wr) ∧ w.heap.size < wr.heap.size) (fun i _ => n - (RowKit.intOf i).toNat)
  case atStart => exact ⟨0, rfl, by omega, H0, Lib.hid (up_alloc (Below.refl _ _) _), by simp⟩
  case round =>
    obtain ⟨j, rfl, hjn, HC, HB, hwl⟩ := hrel
    by_cases hlt : j < n
    · obtain ⟨b, off, rfl, hb, x0, x1, x2, x3, x4⟩ := (HE.out.below HB.out).cells hlt
      have hS := run_succ E (.live []) j
      have hO := HOK.out j hlt
      have hwf := wf_runC (pre E (j + 1)) (.live []) trivial
      have hbad : ∀ f, runC (.live []) (pre E (j + 1)) = .bad f → Z = f := fun f hf => by
        rw [HZ.out, checkE, ck_bad_at E _ (show j + 1 ≤ n by omega) hf]
        rfl
      generalize hs2 : runC (.live []) (pre E (j + 1)) = s2 at hS hwf hbad
      generalize runC (.live []) (pre E j) = s1 at HC hS
      generalize E j = e at x0 x1 x2 x3 x4 hS hO
      have TK := Lib.hid fun X => take_any j w.heap.size (wr.alloc X) w.heap.size s1 (HC.out.go (up_alloc (Below.refl _ _) X)) e hO (by have := HNN.out; omega)
      have HB1 : ∀ X, Hid (Below w.heap.size w (wr.alloc X)) := fun X => Lib.hid (up_alloc HB.out X)
      rw [← hS] at TK
      have HS2 := Lib.hid hs2
      obtain ⟨k, y, m, t, c⟩ := e
      simp only [evV] at TK x0 x1 x2 x3 x4
      clear hS hO hs2 hn HC HB
      by_cases hq : ∃ f, s2 = .bad f
      · obtain ⟨f, rfl⟩ := hq
        obtain rfl := hbad f rfl
        have hz := errS_bad hwf rfl
        clear hwf hbad
        simp only [errS] at TK
        go_wp2_with fail
        refine (TK.out _).mono ?_
        rintro e w2 ⟨rfl, hb2, _⟩
        have HB2 := Lib.hid ((HB1 _).out.trans hb2)
        clear hb2 TK
        go_wp2
        go_ret
        exact ⟨rfl, HB2.out⟩
      · have h0 : errS s2 = 0 := by
          cases s2 with
          | bad f => exact absurd ⟨f, rfl⟩ hq
          | live s => rfl
          | done => rfl
        have HQ := Lib.hid hq
        clear hwf hbad hq
        rw [h0] at TK
        go_wp2_with fail
        refine (TK.out _).mono ?_
        rintro e w2 ⟨rfl, hb2, hc2⟩
        have HB2 := Lib.hid ((HB1 _).out.trans hb2)
        have hlw : w.heap.size < w2.heap.size := Nat.lt_of_lt_of_le hwl (Nat.le_trans (by simp) hb2.size)
        have HC2 : Hid (CkAt (j + 1) w.heap.size w2 w.heap.size s2) := Lib.hid (hc2.resolve_left HQ.out)
        clear hb2 hc2 TK
        go_wp2
        go_roundw
        case rel => exact ⟨j + 1, by rw [wrap_succ (by have := HNN.out; omega)]; rfl, hlt, by rw [HS2.out]; exact HC2, HB2, hlw⟩
        case measure => rw [wrap_succ (by have := HNN.out; omega)]; simp [RowKit.intOf]; omega
    · obtain rfl : j = n := by omega
      have hz : Z = errC (runC (.live []) (pre E j)) := HZ.out
      generalize runC (.live []) (pre E j) = s1 at HC hz
      cases s1 with
      | bad f => exact absurd HC.out id
      | live s =>
        obtain ⟨v, hD⟩ := HC.out
        have c1 := hD.own.cell 1
        obtain rfl : Z = 3 := hz
        clear hD
        go_wp2
        go_ret
        exact ⟨rfl, HB.out⟩
      | done =>
        obtain ⟨v, hD⟩ := HC.out
        have c1 := hD.own.cell 1
        obtain rfl : Z = 0 := hz
        clear hD
        go_wp2
        go_ret
        exact ⟨rfl, HB.out⟩
end Go.Proofs.Ytebnhelejebobaa
/-
  CHECK of a list of parts that a call made.
-/
namespace Go.Proofs.Ytebnhelejebobaa
open Go.RowKit
open Go.Lib
/-- Check, of a list that a call made. -/
theorem check_win {w : World} {a : Option Addr} {m cap : Nat} {T : TypeId} {L : List Ev} (h : Win w T 5 (.slice a m cap) m (evsC L)) (hm : L.length = m) (hn : m ≤ 900) (hok : ∀ e ∈ L, EvOk e) :
    Calls Try.prog 15 #[.slice a m cap] w fun r w' => r = .returned (.int .i64 (checkE L : Nat)) ∧ Below w.heap.size w w' := by
  have := check_any a m cap (getE L) w hn (evs_win h (by omega)) (fun i hi => ok_getE hok i (by omega))
  rwa [← hm, pre_getE, hm] at this
end Go.Proofs.Ytebnhelejebobaa
/-
  What PackinNumbers wants (chapter 15): the only part of a list that a call made.
-/
namespace Go.Proofs.Ytebnhelejebobaa
open Go.RowKit
open Go.Lib
theorem ends0n {w w1 : World} (b : Below w.drew.heap.size w.drew w1) : Below w.heap.size w w1 :=
  (below_drewN (Below.refl w.heap.size w) 1 : Below w.heap.size w w.drew).trans b
theorem wrap_u64_neg (v : Nat) (h : v < 18446744073709551616) : IntKind.u64.wrap (-1 - (v : Int)) = ((18446744073709551615 - v : Nat) : Int) := by
  simp [IntKind.wrap, IntKind.bits, IntKind.signed]; omega
/-- The bytes of a number's form, as the law joins them. -/
theorem num_join (f : Nat) (l : List UInt8) : (⟨(UInt8.ofNat f :: l).toArray⟩ : ByteArray) = (⟨#[UInt8.ofNat f]⟩ : ByteArray) ++ ⟨l.toArray⟩ := by
  rw [show (⟨#[UInt8.ofNat f]⟩ : ByteArray) = ⟨[UInt8.ofNat f].toArray⟩ from rfl, ba_append]
  rfl
/-- The only part of a list. -/
theorem one_of {w w3 : World} {u : Value} {y : Bool} {x : Nat} (hM : Made w w3 u 1 [evIntC y x]) : ∃ g off cap, u = .slice (some ⟨g, off, none⟩) 1 cap ∧ g < w3.heap.size ∧
    w3.cell? ⟨g, off, none⟩ = some (.int .i64 2) ∧ w3.cell? ⟨g, off + 1, none⟩ = some (.bool y) ∧ w3.cell? ⟨g, off + 2, none⟩ = some (.int .u64 x) ∧ w3.cell? ⟨g, off + 3, none⟩ = some (.string ⟨#[]⟩) ∧ w3.cell? ⟨g, off + 4, none⟩ = some (.int .i64 0) := by
  obtain ⟨g, off, cap, h, hl, _, _, _, hc⟩ := hM.2.1.form Nat.one_pos
  exact ⟨g, off, cap, h, hM.2.1.lt g (by rw [h]; simp [Value.owner]), (hc 0 (.int .i64 2) rfl).1, (hc 1 (.bool y) rfl).1, (hc 2 (.int .u64 x) rfl).1, (hc 3 (.string ⟨#[]⟩) rfl).1, (hc 4 (.int .i64 0) rfl).1⟩
end Go.Proofs.Ytebnhelejebobaa
/-
  CONTRACT of the document's own Writer, for JSON: a value within a container.
-/
namespace Go.Proofs.Ytebnhelejebobaa
open Go.RowKit
open Go.Lib
/-- Behind 'Open = append(nil, Open...)', stored; then one part more in the last. -/
theorem wr_inc {M B b : Nat} {V w3 : World} {bx : Bx} {r : List Bx} {v3 : Value} {n' : Nat} (hn' : r.length = n') (h : WrAt M B V b (bx :: r) false) (hM : M + 1 ≤ 1000) (hW3 : Win w3 71 3 v3 (n' + 1) (bxsL (bx :: r))) (hG3 : V.grownBy w3 (Value.slice none 0 0).ownBlock)
    (hO3 : v3.ownBlock = (Value.slice none 0 0).ownBlock ∨ v3.ownBlock = some V.heap.size ∧ V.heap.size < w3.heap.size) :
    ∃ g3 off3 c3, v3 = .slice (some ⟨g3, off3, none⟩) (n' + 1) c3 ∧ (w3.cell? ⟨b, 0, none⟩ = some (.int .i64 1) ∧ (∃ u, w3.cell? ⟨b, 1, none⟩ = some u ∧ w3.frozen? ⟨b, 1, none⟩ = false) ∧ w3.cell? ⟨b, 2, none⟩ = some (.bool false)) ∧ g3 ≠ b ∧
      (w3.cell? ⟨g3, off3 + n' * 3 + 2, none⟩ = some (.int .i64 (bx.have_ : Int)) ∧ w3.frozen? ⟨g3, off3 + n' * 3 + 2, none⟩ = false) ∧
      WrAt (M + 1) B ((w3.setCell ⟨b, 1, none⟩ v3).setCell ⟨g3, off3 + n' * 3 + 2, none⟩ (.int .i64 ((bx.have_ : Int) + 1))) b (incB (bx :: r)) false ∧
      Bew B b V ((w3.setCell ⟨b, 1, none⟩ v3).setCell ⟨g3, off3 + n' * 3 + 2, none⟩ (.int .i64 ((bx.have_ : Int) + 1))) := by
  subst hn'
  have hBV : B ≤ V.heap.size := h.low
  obtain ⟨a, cp, hA, hS⟩ := h.cells
  obtain ⟨cs, hcs⟩ := h.blk
  obtain ⟨hK, hKB⟩ := stk_new (M := M) (B := B) (s := bx :: r) hBV (by simp [Value.owner]) rfl rfl hW3 hG3 hO3 hS.ok hS.deep hS.most
  have hblk : w3.heap[b]? = V.heap[b]? := hG3.block b h.lt (by simp [Value.ownBlock])
  have A3 := hA.keep hblk
  have hw3 : w3.heap[b]? = some (.cells cs 34 (0, 0)) := hblk.trans hcs
  obtain ⟨g3, off3, N, c3, rfl, hN, _, ⟨_, _, z2⟩, ⟨_, _, f2⟩⟩ := hK.last
  subst hN
  have hap : b ∉ Value.owner (.slice (some ⟨g3, off3, none⟩) (r.length + 1) c3) := hK.win.apart (t := 34) hw3 (by decide)
  have hgb : g3 ≠ b := fun e => hap (by simp [Value.owner, e])
  obtain ⟨⟨p0, _⟩, ⟨p1, p1'⟩, ⟨p2, _⟩⟩ := at_three A3
  have K4 : Stk M B (w3.setCell ⟨b, 1, none⟩ (.slice (some ⟨g3, off3, none⟩) (r.length + 1) c3)) (bx :: r) (.slice (some ⟨g3, off3, none⟩) (r.length + 1) c3) := ⟨hK.win.setCell_far hap _, hK.vB, hK.ok, hK.deep, hK.most⟩
  obtain ⟨K5, hg5⟩ := K4.inc hM rfl
  have A4 := A3.set 1 (by simp) (.slice (some ⟨g3, off3, none⟩) (r.length + 1) c3)
  have hw4 := heap_setCell_at w3 ⟨b, 1, none⟩ (.slice (some ⟨g3, off3, none⟩) (r.length + 1) c3) _ _ _ rfl hw3
  have hw5 : ((w3.setCell ⟨b, 1, none⟩ (.slice (some ⟨g3, off3, none⟩) (r.length + 1) c3)).setCell ⟨g3, off3 + r.length * 3 + 2, none⟩ (.int .i64 ((bx.have_ : Int) + 1))).heap[b]? = (w3.setCell ⟨b, 1, none⟩ (.slice (some ⟨g3, off3, none⟩) (r.length + 1) c3)).heap[b]? := Below.heap_setCell _ _ _ b (fun e => hgb e.symm)
  refine ⟨g3, off3, c3, rfl, ⟨p0, ⟨_, p1, p1'⟩, p2⟩, hgb, ⟨z2, f2⟩, ⟨⟨some ⟨g3, off3, none⟩, c3, ?_, ?_⟩, ⟨_, hw5.trans hw4⟩, by
    have := hKB.size
    simp only [World.setCell, Array.size_modify]
    omega⟩, ?_⟩
  · have : (incB (bx :: r)).length = r.length + 1 := rfl
    rw [this]
    exact At.keep (w := w3.setCell ⟨b, 1, none⟩ (.slice (some ⟨g3, off3, none⟩) (r.length + 1) c3)) (by simpa using A4) hw5
  · exact K5.zero
  · exact (hKB.bew.set _ _).setFar hg5 _
end Go.Proofs.Ytebnhelejebobaa
/-
  CONTRACT of the document's own whole numbers of MessagePack (truchmanref1.whole).
-/
namespace Go.Proofs.Ytebnhelejebobaa
open Go.RowKit
open Go.Lib
/-- A text of one byte, and what Big tells. -/
theorem pw_cat (b0 n v : Nat) : (⟨#[UInt8.ofNat b0]⟩ : ByteArray) ++ ⟨(bigB n v).toArray⟩ = ⟨(UInt8.ofNat b0 :: bigB n v).toArray⟩ := by
  rw [show (⟨#[UInt8.ofNat b0]⟩ : ByteArray) = ⟨[UInt8.ofNat b0].toArray⟩ from rfl, ba_append]
  rfl
set_option maxRecDepth 100000 in
set_option maxHeartbeats 2000000 in
theorem rwhole_u1 (m : Nat) (t : ByteArray) (k c : Int) (h0 : 128 ≤ m) (hK : m < 256) (w : World) :
    Calls Try.prog 45 #[evV ⟨k, false, m, t, c⟩] w fun e w' => e = .returned (.tuple #[.string ⟨(intPk false m).toArray⟩, .int .i64 0]) ∧ Below w.heap.size w w' := by
  simp only [evV]
  have HB0 := Lib.hid (fun x => (Below.refl w.heap.size w).alloc (Nat.le_refl _) x)
  have hb0 := blk_new w #[.int .i64 k, .bool false, .int .u64 m, .string t, .int .i64 c] 39
  have k1 := hb0.cell 1
  have k2 := hb0.cell 2
  have e : (⟨(intPk false m).toArray⟩ : ByteArray) = (⟨#[204]⟩ : ByteArray) ++ ⟨(bigB 1 m).toArray⟩ := by
    rw [show (⟨#[204]⟩ : ByteArray) = ⟨#[UInt8.ofNat 204]⟩ from rfl, pw_cat]
    unfold intPk
    rw [if_pos rfl, if_neg (by omega), if_pos hK]
  rw [e]
  have HB := Lib.hid (fun W => rbig_n m 1 1 rfl (by omega) (by omega) (by omega) _ rfl W)
  have s2 : (⟨(bigB 1 m).toArray⟩ : ByteArray).size = 1 := by rw [ba_size, bigB_length]
  have hsum : (9223372036854775807 < 1 + (⟨(bigB 1 m).toArray⟩ : ByteArray).size) = False := by rw [s2]; simp only [eq_iff_iff, iff_false]; decide
  generalize (⟨(bigB 1 m).toArray⟩ : ByteArray) = Y at *
  have z0 : ((m : Int) < 128) = False := by simp only [eq_iff_iff, iff_false]; omega
  have z1 : ((m : Int) < 256) = True := by simp only [eq_iff_iff, iff_true]; omega
  clear e s2 hb0
  go_enter Try.func45, Try.ntmps45
  go_wp2_with fail
  refine (HB.out _).mono ?_
  rintro e w1 ⟨rfl, b1⟩
  have HB1 := Lib.hid (up_trans (HB0.out _) b1)
  clear b1
  go_wp2
  go_ret2
  exact ⟨rfl, HB1.out⟩
set_option maxRecDepth 100000 in
set_option maxHeartbeats 2000000 in
theorem rwhole_u2 (m : Nat) (t : ByteArray) (k c : Int) (h0 : 256 ≤ m) (hK : m < 65536) (w : World) :
    Calls Try.prog 45 #[evV ⟨k, false, m, t, c⟩] w fun e w' => e = .returned (.tuple #[.string ⟨(intPk false m).toArray⟩, .int .i64 0]) ∧ Below w.heap.size w w' := by
  simp only [evV]
  have HB0 := Lib.hid (fun x => (Below.refl w.heap.size w).alloc (Nat.le_refl _) x)
  have hb0 := blk_new w #[.int .i64 k, .bool false, .int .u64 m, .string t, .int .i64 c] 39
  have k1 := hb0.cell 1
  have k2 := hb0.cell 2
  have e : (⟨(intPk false m).toArray⟩ : ByteArray) = (⟨#[205]⟩ : ByteArray) ++ ⟨(bigB 2 m).toArray⟩ := by
    rw [show (⟨#[205]⟩ : ByteArray) = ⟨#[UInt8.ofNat 205]⟩ from rfl, pw_cat]
    unfold intPk
    rw [if_pos rfl, if_neg (by omega), if_neg (by omega), if_pos hK]
  rw [e]
  have HB := Lib.hid (fun W => rbig_n m 2 2 rfl (by omega) (by omega) (by omega) _ rfl W)
  have s2 : (⟨(bigB 2 m).toArray⟩ : ByteArray).size = 2 := by rw [ba_size, bigB_length]
  have hsum : (9223372036854775807 < 1 + (⟨(bigB 2 m).toArray⟩ : ByteArray).size) = False := by rw [s2]; simp only [eq_iff_iff, iff_false]; decide
  generalize (⟨(bigB 2 m).toArray⟩ : ByteArray) = Y at *
  have z0 : ((m : Int) < 128) = False := by simp only [eq_iff_iff, iff_false]; omega
  have z1 : ((m : Int) < 256) = False := by simp only [eq_iff_iff, iff_false]; omega
  have z2 : ((m : Int) < 65536) = True := by simp only [eq_iff_iff, iff_true]; omega
  clear e s2 hb0
  go_enter Try.func45, Try.ntmps45
  go_wp2_with fail
  refine (HB.out _).mono ?_
  rintro e w1 ⟨rfl, b1⟩
  have HB1 := Lib.hid (up_trans (HB0.out _) b1)
  clear b1
  go_wp2
  go_ret2
  exact ⟨rfl, HB1.out⟩
set_option maxRecDepth 100000 in
set_option maxHeartbeats 2000000 in
theorem rwhole_u4 (m : Nat) (t : ByteArray) (k c : Int) (h0 : 65536 ≤ m) (hK : m < 4294967296) (w : World) :
    Calls Try.prog 45 #[evV ⟨k, false, m, t, c⟩] w fun e w' => e = .returned (.tuple #[.string ⟨(intPk false m).toArray⟩, .int .i64 0]) ∧ Below w.heap.size w w' := by
  simp only [evV]
  have HB0 := Lib.hid (fun x => (Below.refl w.heap.size w).alloc (Nat.le_refl _) x)
  have hb0 := blk_new w #[.int .i64 k, .bool false, .int .u64 m, .string t, .int .i64 c] 39
  have k1 := hb0.cell 1
  have k2 := hb0.cell 2
  have e : (⟨(intPk false m).toArray⟩ : ByteArray) = (⟨#[206]⟩ : ByteArray) ++ ⟨(bigB 4 m).toArray⟩ := by
    rw [show (⟨#[206]⟩ : ByteArray) = ⟨#[UInt8.ofNat 206]⟩ from rfl, pw_cat]
    unfold intPk
    rw [if_pos rfl, if_neg (by omega), if_neg (by omega), if_neg (by omega), if_pos hK]
  rw [e]
  have HB := Lib.hid (fun W => rbig_n m 4 4 rfl (by omega) (by omega) (by omega) _ rfl W)
  have s2 : (⟨(bigB 4 m).toArray⟩ : ByteArray).size = 4 := by rw [ba_size, bigB_length]
  have hsum : (9223372036854775807 < 1 + (⟨(bigB 4 m).toArray⟩ : ByteArray).size) = False := by rw [s2]; simp only [eq_iff_iff, iff_false]; decide
  generalize (⟨(bigB 4 m).toArray⟩ : ByteArray) = Y at *
  have z0 : ((m : Int) < 128) = False := by simp only [eq_iff_iff, iff_false]; omega
  have z1 : ((m : Int) < 256) = False := by simp only [eq_iff_iff, iff_false]; omega
  have z2 : ((m : Int) < 65536) = False := by simp only [eq_iff_iff, iff_false]; omega
  have z3 : ((m : Int) < 4294967296) = True := by simp only [eq_iff_iff, iff_true]; omega
  clear e s2 hb0
  go_enter Try.func45, Try.ntmps45
  go_wp2_with fail
  refine (HB.out _).mono ?_
  rintro e w1 ⟨rfl, b1⟩
  have HB1 := Lib.hid (up_trans (HB0.out _) b1)
  clear b1
  go_wp2
  go_ret2
  exact ⟨rfl, HB1.out⟩
set_option maxRecDepth 100000 in
set_option maxHeartbeats 2000000 in
theorem rwhole_u8 (m : Nat) (t : ByteArray) (k c : Int) (h0 : 4294967296 ≤ m) (hK : m < 18446744073709551616) (w : World) :
    Calls Try.prog 45 #[evV ⟨k, false, m, t, c⟩] w fun e w' => e = .returned (.tuple #[.string ⟨(intPk false m).toArray⟩, .int .i64 0]) ∧ Below w.heap.size w w' := by
  simp only [evV]
  have HB0 := Lib.hid (fun x => (Below.refl w.heap.size w).alloc (Nat.le_refl _) x)
  have hb0 := blk_new w #[.int .i64 k, .bool false, .int .u64 m, .string t, .int .i64 c] 39
  have k1 := hb0.cell 1
  have k2 := hb0.cell 2
  have e : (⟨(intPk false m).toArray⟩ : ByteArray) = (⟨#[207]⟩ : ByteArray) ++ ⟨(bigB 8 m).toArray⟩ := by
    rw [show (⟨#[207]⟩ : ByteArray) = ⟨#[UInt8.ofNat 207]⟩ from rfl, pw_cat]
    unfold intPk
    rw [if_pos rfl, if_neg (by omega), if_neg (by omega), if_neg (by omega), if_neg (by omega)]
  rw [e]
  have HB := Lib.hid (fun W => rbig_n m 8 8 rfl (by omega) (by omega) (by omega) _ rfl W)
  have s2 : (⟨(bigB 8 m).toArray⟩ : ByteArray).size = 8 := by rw [ba_size, bigB_length]
  have hsum : (9223372036854775807 < 1 + (⟨(bigB 8 m).toArray⟩ : ByteArray).size) = False := by rw [s2]; simp only [eq_iff_iff, iff_false]; decide
  generalize (⟨(bigB 8 m).toArray⟩ : ByteArray) = Y at *
  have z0 : ((m : Int) < 128) = False := by simp only [eq_iff_iff, iff_false]; omega
  have z1 : ((m : Int) < 256) = False := by simp only [eq_iff_iff, iff_false]; omega
  have z2 : ((m : Int) < 65536) = False := by simp only [eq_iff_iff, iff_false]; omega
  have z3 : ((m : Int) < 4294967296) = False := by simp only [eq_iff_iff, iff_false]; omega
  clear e s2 hb0
  go_enter Try.func45, Try.ntmps45
  go_wp2_with fail
  refine (HB.out _).mono ?_
  rintro e w1 ⟨rfl, b1⟩
  have HB1 := Lib.hid (up_trans (HB0.out _) b1)
  clear b1
  go_wp2
  go_ret2
  exact ⟨rfl, HB1.out⟩
set_option maxRecDepth 100000 in
set_option maxHeartbeats 2000000 in
theorem rwhole_s1 (m : Nat) (t : ByteArray) (k c : Int) (h0 : 32 ≤ m) (hK : m < 128) (w : World) :
    Calls Try.prog 45 #[evV ⟨k, true, m, t, c⟩] w fun e w' => e = .returned (.tuple #[.string ⟨(intPk true m).toArray⟩, .int .i64 0]) ∧ Below w.heap.size w w' := by
  simp only [evV]
  have HB0 := Lib.hid (fun x => (Below.refl w.heap.size w).alloc (Nat.le_refl _) x)
  have hb0 := blk_new w #[.int .i64 k, .bool true, .int .u64 m, .string t, .int .i64 c] 39
  have k1 := hb0.cell 1
  have k2 := hb0.cell 2
  have e : (⟨(intPk true m).toArray⟩ : ByteArray) = (⟨#[208]⟩ : ByteArray) ++ ⟨(bigB 1 (18446744073709551615 - m)).toArray⟩ := by
    rw [show (⟨#[208]⟩ : ByteArray) = ⟨#[UInt8.ofNat 208]⟩ from rfl, pw_cat]
    unfold intPk
    rw [if_neg (by decide), if_neg (by omega), if_pos hK]
  rw [e]
  have HB := Lib.hid (fun W => rbig_n (18446744073709551615 - m) 1 1 rfl (by omega) (by omega) (by omega) _ rfl W)
  have s2 : (⟨(bigB 1 (18446744073709551615 - m)).toArray⟩ : ByteArray).size = 1 := by rw [ba_size, bigB_length]
  have hsum : (9223372036854775807 < 1 + (⟨(bigB 1 (18446744073709551615 - m)).toArray⟩ : ByteArray).size) = False := by rw [s2]; simp only [eq_iff_iff, iff_false]; decide
  generalize (⟨(bigB 1 (18446744073709551615 - m)).toArray⟩ : ByteArray) = Y at *
  have hw : IntKind.u64.wrap (18446744073709551615 - (m : Int)) = ((18446744073709551615 - m : Nat) : Int) := by rw [wrapI_u64 _ (by omega) (by omega)]; omega
  have z0 : ((m : Int) < 32) = False := by simp only [eq_iff_iff, iff_false]; omega
  have z1 : ((m : Int) < 128) = True := by simp only [eq_iff_iff, iff_true]; omega
  clear e s2 hb0
  go_enter Try.func45, Try.ntmps45
  go_wp2_with fail
  refine (HB.out _).mono ?_
  rintro e w1 ⟨rfl, b1⟩
  have HB1 := Lib.hid (up_trans (HB0.out _) b1)
  clear b1
  go_wp2
  go_ret2
  exact ⟨rfl, HB1.out⟩
set_option maxRecDepth 100000 in
set_option maxHeartbeats 2000000 in
theorem rwhole_s2 (m : Nat) (t : ByteArray) (k c : Int) (h0 : 128 ≤ m) (hK : m < 32768) (w : World) :
    Calls Try.prog 45 #[evV ⟨k, true, m, t, c⟩] w fun e w' => e = .returned (.tuple #[.string ⟨(intPk true m).toArray⟩, .int .i64 0]) ∧ Below w.heap.size w w' := by
  simp only [evV]
  have HB0 := Lib.hid (fun x => (Below.refl w.heap.size w).alloc (Nat.le_refl _) x)
  have hb0 := blk_new w #[.int .i64 k, .bool true, .int .u64 m, .string t, .int .i64 c] 39
  have k1 := hb0.cell 1
  have k2 := hb0.cell 2
  have e : (⟨(intPk true m).toArray⟩ : ByteArray) = (⟨#[209]⟩ : ByteArray) ++ ⟨(bigB 2 (18446744073709551615 - m)).toArray⟩ := by
    rw [show (⟨#[209]⟩ : ByteArray) = ⟨#[UInt8.ofNat 209]⟩ from rfl, pw_cat]
    unfold intPk
    rw [if_neg (by decide), if_neg (by omega), if_neg (by omega), if_pos hK]
  rw [e]
  have HB := Lib.hid (fun W => rbig_n (18446744073709551615 - m) 2 2 rfl (by omega) (by omega) (by omega) _ rfl W)
  have s2 : (⟨(bigB 2 (18446744073709551615 - m)).toArray⟩ : ByteArray).size = 2 := by rw [ba_size, bigB_length]
  have hsum : (9223372036854775807 < 1 + (⟨(bigB 2 (18446744073709551615 - m)).toArray⟩ : ByteArray).size) = False := by rw [s2]; simp only [eq_iff_iff, iff_false]; decide
  generalize (⟨(bigB 2 (18446744073709551615 - m)).toArray⟩ : ByteArray) = Y at *
  have hw : IntKind.u64.wrap (18446744073709551615 - (m : Int)) = ((18446744073709551615 - m : Nat) : Int) := by rw [wrapI_u64 _ (by omega) (by omega)]; omega
  have z0 : ((m : Int) < 32) = False := by simp only [eq_iff_iff, iff_false]; omega
  have z1 : ((m : Int) < 128) = False := by simp only [eq_iff_iff, iff_false]; omega
  have z2 : ((m : Int) < 32768) = True := by simp only [eq_iff_iff, iff_true]; omega
  clear e s2 hb0
  go_enter Try.func45, Try.ntmps45
  go_wp2_with fail
  refine (HB.out _).mono ?_
  rintro e w1 ⟨rfl, b1⟩
  have HB1 := Lib.hid (up_trans (HB0.out _) b1)
  clear b1
  go_wp2
  go_ret2
  exact ⟨rfl, HB1.out⟩
set_option maxRecDepth 100000 in
set_option maxHeartbeats 2000000 in
theorem rwhole_s4 (m : Nat) (t : ByteArray) (k c : Int) (h0 : 32768 ≤ m) (hK : m < 2147483648) (w : World) :
    Calls Try.prog 45 #[evV ⟨k, true, m, t, c⟩] w fun e w' => e = .returned (.tuple #[.string ⟨(intPk true m).toArray⟩, .int .i64 0]) ∧ Below w.heap.size w w' := by
  simp only [evV]
  have HB0 := Lib.hid (fun x => (Below.refl w.heap.size w).alloc (Nat.le_refl _) x)
  have hb0 := blk_new w #[.int .i64 k, .bool true, .int .u64 m, .string t, .int .i64 c] 39
  have k1 := hb0.cell 1
  have k2 := hb0.cell 2
  have e : (⟨(intPk true m).toArray⟩ : ByteArray) = (⟨#[210]⟩ : ByteArray) ++ ⟨(bigB 4 (18446744073709551615 - m)).toArray⟩ := by
    rw [show (⟨#[210]⟩ : ByteArray) = ⟨#[UInt8.ofNat 210]⟩ from rfl, pw_cat]
    unfold intPk
    rw [if_neg (by decide), if_neg (by omega), if_neg (by omega), if_neg (by omega), if_pos hK]
  rw [e]
  have HB := Lib.hid (fun W => rbig_n (18446744073709551615 - m) 4 4 rfl (by omega) (by omega) (by omega) _ rfl W)
  have s2 : (⟨(bigB 4 (18446744073709551615 - m)).toArray⟩ : ByteArray).size = 4 := by rw [ba_size, bigB_length]
  have hsum : (9223372036854775807 < 1 + (⟨(bigB 4 (18446744073709551615 - m)).toArray⟩ : ByteArray).size) = False := by rw [s2]; simp only [eq_iff_iff, iff_false]; decide
  generalize (⟨(bigB 4 (18446744073709551615 - m)).toArray⟩ : ByteArray) = Y at *
  have hw : IntKind.u64.wrap (18446744073709551615 - (m : Int)) = ((18446744073709551615 - m : Nat) : Int) := by rw [wrapI_u64 _ (by omega) (by omega)]; omega
  have z0 : ((m : Int) < 32) = False := by simp only [eq_iff_iff, iff_false]; omega
  have z1 : ((m : Int) < 128) = False := by simp only [eq_iff_iff, iff_false]; omega
  have z2 : ((m : Int) < 32768) = False := by simp only [eq_iff_iff, iff_false]; omega
  have z3 : ((m : Int) < 2147483648) = True := by simp only [eq_iff_iff, iff_true]; omega
  clear e s2 hb0
  go_enter Try.func45, Try.ntmps45
  go_wp2_with fail
  refine (HB.out _).mono ?_
  rintro e w1 ⟨rfl, b1⟩
  have HB1 := Lib.hid (up_trans (HB0.out _) b1)
  clear b1
  go_wp2
  go_ret2
  exact ⟨rfl, HB1.out⟩
set_option maxRecDepth 100000 in
set_option maxHeartbeats 2000000 in
theorem rwhole_s8 (m : Nat) (t : ByteArray) (k c : Int) (h0 : 2147483648 ≤ m) (hK : m < 9223372036854775808) (w : World) :
    Calls Try.prog 45 #[evV ⟨k, true, m, t, c⟩] w fun e w' => e = .returned (.tuple #[.string ⟨(intPk true m).toArray⟩, .int .i64 0]) ∧ Below w.heap.size w w' := by
  simp only [evV]
  have HB0 := Lib.hid (fun x => (Below.refl w.heap.size w).alloc (Nat.le_refl _) x)
  have hb0 := blk_new w #[.int .i64 k, .bool true, .int .u64 m, .string t, .int .i64 c] 39
  have k1 := hb0.cell 1
  have k2 := hb0.cell 2
  have e : (⟨(intPk true m).toArray⟩ : ByteArray) = (⟨#[211]⟩ : ByteArray) ++ ⟨(bigB 8 (18446744073709551615 - m)).toArray⟩ := by
    rw [show (⟨#[211]⟩ : ByteArray) = ⟨#[UInt8.ofNat 211]⟩ from rfl, pw_cat]
    unfold intPk
    rw [if_neg (by decide), if_neg (by omega), if_neg (by omega), if_neg (by omega), if_neg (by omega)]
  rw [e]
  have HB := Lib.hid (fun W => rbig_n (18446744073709551615 - m) 8 8 rfl (by omega) (by omega) (by omega) _ rfl W)
  have s2 : (⟨(bigB 8 (18446744073709551615 - m)).toArray⟩ : ByteArray).size = 8 := by rw [ba_size, bigB_length]
  have hsum : (9223372036854775807 < 1 + (⟨(bigB 8 (18446744073709551615 - m)).toArray⟩ : ByteArray).size) = False := by rw [s2]; simp only [eq_iff_iff, iff_false]; decide
  generalize (⟨(bigB 8 (18446744073709551615 - m)).toArray⟩ : ByteArray) = Y at *
  have hw : IntKind.u64.wrap (18446744073709551615 - (m : Int)) = ((18446744073709551615 - m : Nat) : Int) := by rw [wrapI_u64 _ (by omega) (by omega)]; omega
  have z0 : ((m : Int) < 32) = False := by simp only [eq_iff_iff, iff_false]; omega
  have z1 : ((m : Int) < 128) = False := by simp only [eq_iff_iff, iff_false]; omega
  have z2 : ((m : Int) < 32768) = False := by simp only [eq_iff_iff, iff_false]; omega
  have z3 : ((m : Int) < 2147483648) = False := by simp only [eq_iff_iff, iff_false]; omega
  have z4 : ((m : Int) < 9223372036854775808) = True := by simp only [eq_iff_iff, iff_true]; omega
  clear e s2 hb0
  go_enter Try.func45, Try.ntmps45
  go_wp2_with fail
  refine (HB.out _).mono ?_
  rintro e w1 ⟨rfl, b1⟩
  have HB1 := Lib.hid (up_trans (HB0.out _) b1)
  clear b1
  go_wp2
  go_ret2
  exact ⟨rfl, HB1.out⟩
set_option maxRecDepth 100000 in
set_option maxHeartbeats 2000000 in
theorem rwhole_u0 (m : Nat) (t : ByteArray) (k c : Int) (hK : m < 128) (w : World) :
    Calls Try.prog 45 #[evV ⟨k, false, m, t, c⟩] w fun e w' => e = .returned (.tuple #[.string ⟨(intPk false m).toArray⟩, .int .i64 0]) ∧ Below w.heap.size w w' := by
  simp only [evV]
  have HB0 := Lib.hid (fun x => (Below.refl w.heap.size w).alloc (Nat.le_refl _) x)
  have hb0 := blk_new w #[.int .i64 k, .bool false, .int .u64 m, .string t, .int .i64 c] 39
  have k1 := hb0.cell 1
  have k2 := hb0.cell 2
  have e : intPk false m = [UInt8.ofNat m] := by
    unfold intPk
    rw [if_pos rfl, if_pos hK]
  rw [e]
  have hc : (((m : Nat)) : Int) = (((UInt8.ofNat m).toNat : Nat) : Int) := by simp; omega
  have hsz : (w.alloc (.cells #[.int .i64 k, .bool false, .int .u64 m, .string t, .int .i64 c] 39)).heap.size = w.heap.size + 1 := by
    show (w.heap.push _).size = _
    simp
  have hcv := ho_new (w.alloc (.cells #[.int .i64 k, .bool false, .int .u64 m, .string t, .int .i64 c] 39)) (UInt8.ofNat m) (((m : Nat)) : Int) hc
  rw [hsz] at hcv
  have HW := Lib.hid (fun x y => ((Below.refl w.heap.size w).alloc (Nat.le_refl _) x).alloc (by show w.heap.size ≤ (w.heap.push _).size; simp) y)
  generalize (⟨[UInt8.ofNat m].toArray⟩ : ByteArray) = X at *
  have z0 : ((m : Int) < 128) = True := by simp only [eq_iff_iff, iff_true]; omega
  have hw : IntKind.u8.wrap (m : Int) = (m : Int) := wrapI_u8 _ (by omega) (by omega)
  clear e hc hb0 hsz
  go_enter Try.func45, Try.ntmps45
  go_wp2
  go_ret2
  exact ⟨rfl, HW.out _ _⟩
set_option maxRecDepth 100000 in
set_option maxHeartbeats 2000000 in
theorem rwhole_s0 (m : Nat) (t : ByteArray) (k c : Int) (hK : m < 32) (w : World) :
    Calls Try.prog 45 #[evV ⟨k, true, m, t, c⟩] w fun e w' => e = .returned (.tuple #[.string ⟨(intPk true m).toArray⟩, .int .i64 0]) ∧ Below w.heap.size w w' := by
  simp only [evV]
  have HB0 := Lib.hid (fun x => (Below.refl w.heap.size w).alloc (Nat.le_refl _) x)
  have hb0 := blk_new w #[.int .i64 k, .bool true, .int .u64 m, .string t, .int .i64 c] 39
  have k1 := hb0.cell 1
  have k2 := hb0.cell 2
  have e : intPk true m = [UInt8.ofNat (255 - m)] := by
    unfold intPk
    rw [if_neg (by decide), if_pos hK]
  rw [e]
  have hc : ((((255 - m) : Nat)) : Int) = (((UInt8.ofNat (255 - m)).toNat : Nat) : Int) := by simp; omega
  have hsz : (w.alloc (.cells #[.int .i64 k, .bool true, .int .u64 m, .string t, .int .i64 c] 39)).heap.size = w.heap.size + 1 := by
    show (w.heap.push _).size = _
    simp
  have hcv := ho_new (w.alloc (.cells #[.int .i64 k, .bool true, .int .u64 m, .string t, .int .i64 c] 39)) (UInt8.ofNat (255 - m)) ((((255 - m) : Nat)) : Int) hc
  rw [hsz] at hcv
  have HW := Lib.hid (fun x y => ((Below.refl w.heap.size w).alloc (Nat.le_refl _) x).alloc (by show w.heap.size ≤ (w.heap.push _).size; simp) y)
  generalize (⟨[UInt8.ofNat (255 - m)].toArray⟩ : ByteArray) = X at *
  have z0 : ((m : Int) < 32) = True := by simp only [eq_iff_iff, iff_true]; omega
  have hw : IntKind.u64.wrap (18446744073709551615 - (m : Int)) = ((18446744073709551615 - m : Nat) : Int) := by rw [wrapI_u64 _ (by omega) (by omega)]; omega
  have hw2 : IntKind.u8.wrap ((18446744073709551615 - m : Nat) : Int) = ((255 - m : Nat) : Int) := by simp [IntKind.wrap, IntKind.bits, IntKind.signed]; omega
  clear e hc hb0 hsz
  go_enter Try.func45, Try.ntmps45
  go_wp2
  go_ret2
  exact ⟨rfl, HW.out _ _⟩
set_option maxRecDepth 100000 in
set_option maxHeartbeats 2000000 in
theorem rwhole_bad (m : Nat) (t : ByteArray) (k c : Int) (h0 : 9223372036854775808 ≤ m) (hm : m < 18446744073709551616) (w : World) :
    Calls Try.prog 45 #[evV ⟨k, true, m, t, c⟩] w fun e w' => e = .returned (.tuple #[.string ⟨#[]⟩, .int .i64 7]) ∧ Below w.heap.size w w' := by
  simp only [evV]
  have HB0 := Lib.hid (fun x => (Below.refl w.heap.size w).alloc (Nat.le_refl _) x)
  have hb0 := blk_new w #[.int .i64 k, .bool true, .int .u64 m, .string t, .int .i64 c] 39
  have k1 := hb0.cell 1
  have k2 := hb0.cell 2
  have z0 : ((m : Int) < 32) = False := by simp only [eq_iff_iff, iff_false]; omega
  have z1 : ((m : Int) < 128) = False := by simp only [eq_iff_iff, iff_false]; omega
  have z2 : ((m : Int) < 32768) = False := by simp only [eq_iff_iff, iff_false]; omega
  have z3 : ((m : Int) < 2147483648) = False := by simp only [eq_iff_iff, iff_false]; omega
  have z4 : ((m : Int) < 9223372036854775808) = False := by simp only [eq_iff_iff, iff_false]; omega
  have hw : IntKind.u64.wrap (18446744073709551615 - (m : Int)) = ((18446744073709551615 - m : Nat) : Int) := by rw [wrapI_u64 _ (by omega) (by omega)]; omega
  clear hb0
  go_enter Try.func45, Try.ntmps45
  go_wp2
  go_ret2
  exact ⟨rfl, HB0.out _⟩
theorem rwhole_any (m : Nat) (hm : m < 18446744073709551616) (y : Bool) (t : ByteArray) (k c : Int) (w : World) :
    Calls Try.prog 45 #[evV ⟨k, y, m, t, c⟩] w fun e w' => e = .returned (if y = true ∧ 9223372036854775808 ≤ m then .tuple #[.string ⟨#[]⟩, .int .i64 7] else .tuple #[.string ⟨(intPk y m).toArray⟩, .int .i64 0]) ∧ Below w.heap.size w w' := by
  cases y with
  | false =>
    rw [if_neg (fun h => Bool.noConfusion h.1)]
    by_cases h0 : m < 128
    · exact rwhole_u0 m t k c h0 w
    by_cases h1 : m < 256
    · exact rwhole_u1 m t k c (by omega) h1 w
    by_cases h2 : m < 65536
    · exact rwhole_u2 m t k c (by omega) h2 w
    by_cases h3 : m < 4294967296
    · exact rwhole_u4 m t k c (by omega) h3 w
    · exact rwhole_u8 m t k c (by omega) hm w
  | true =>
    by_cases h5 : 9223372036854775808 ≤ m
    · rw [if_pos ⟨rfl, h5⟩]
      exact rwhole_bad m t k c h5 hm w
    rw [if_neg (fun h => h5 h.2)]
    by_cases h0 : m < 32
    · exact rwhole_s0 m t k c h0 w
    by_cases h1 : m < 128
    · exact rwhole_s1 m t k c (by omega) h1 w
    by_cases h2 : m < 32768
    · exact rwhole_s2 m t k c (by omega) h2 w
    by_cases h3 : m < 2147483648
    · exact rwhole_s4 m t k c (by omega) h3 w
    · exact rwhole_s8 m t k c (by omega) (by omega) w
end Go.Proofs.Ytebnhelejebobaa
/-
  THE BOOK'S DOCUMENTS OUT OF NUMBERS, AS LISTS: how many parts; that they are one document, with counts or without; what JSON has.
-/
namespace Go.Proofs.Ytebnhelejebobaa
open Go.RowKit
open Go.Lib
theorem nx_real {n : Nat} {L : Nat → Int} {a : Nat} (h : nxD n L a ≠ 0) : a < n := by
  unfold nxD at h
  split at h
  · assumption
  · exact absurd rfl h
/-- How many numbers are read of k items, how many parts they are: as many more as a document's own numbers ask. -/
def Fine (n a k : Nat) (r : List Ev × Nat) : Prop := a ≤ r.2 ∧ r.2 + 4 * min a n ≤ a + k + 4 * min r.2 n ∧ r.1.length ≤ 2 * (r.2 - a)
theorem list_fine (n : Nat) (it : Nat → List Ev × Nat) (hit : ∀ a, Fine n a 1 (it a)) : ∀ k a, Fine n a k (listD it k a) := by
  intro k
  induction k with
  | zero => intro a; exact ⟨Nat.le_refl _, by simp [listD], by simp [listD]⟩
  | succ k ih =>
    intro a
    obtain ⟨h1, h2, h3⟩ := hit a
    obtain ⟨g1, g2, g3⟩ := ih (it a).2
    simp only [listD]
    refine ⟨by simp only; omega, by simp only; omega, ?_⟩
    simp only [List.length_append]
    omega
theorem map_fine (n : Nat) (L : Nat → Int) (it : Nat → List Ev × Nat) (hit : ∀ a, Fine n a 1 (it a)) : ∀ k a, Fine n a (2 * k) (mapD n L it k a) := by
  intro k
  induction k with
  | zero => intro a; exact ⟨Nat.le_refl _, by simp [mapD], by simp [mapD]⟩
  | succ k ih =>
    intro a
    obtain ⟨h1, h2, h3⟩ := hit (a + 1)
    obtain ⟨g1, g2, g3⟩ := ih (it (a + 1)).2
    simp only [mapD]
    refine ⟨by simp only; omega, by simp only; omega, ?_⟩
    simp only [List.length_cons, List.length_append]
    omega
theorem item_fine (n : Nat) (L : Nat → Int) : ∀ f a, Fine n a 1 (itemD n L f a) := by
  intro f
  induction f with
  | zero =>
    intro a
    simp only [itemD]
    refine ⟨by simp only; omega, by simp only; omega, ?_⟩
    split <;> simp
  | succ f ih =>
    intro a
    simp only [itemD]
    by_cases h1 : nxD n L a % 8 ≤ 4
    · rw [if_pos h1]
      exact ⟨by simp only; omega, by simp only; omega, by simp⟩
    · have hr := nx_real (n := n) (L := L) (a := a) (by omega)
      rw [if_neg h1]
      by_cases h2 : nxD n L a % 8 = 5
      · rw [if_pos h2]
        obtain ⟨g1, g2, g3⟩ := list_fine n _ ih (nxD n L a / 8 % 4) (a + 1)
        refine ⟨by simp only; omega, by simp only; omega, ?_⟩
        simp only [List.length_append, List.length_cons, List.length_nil]
        omega
      · rw [if_neg h2]
        obtain ⟨g1, g2, g3⟩ := map_fine n L _ ih (nxD n L a / 8 % 3) (a + 1)
        refine ⟨by simp only; omega, by simp only; omega, ?_⟩
        simp only [List.length_append, List.length_cons, List.length_nil]
        omega
/-- Of n numbers a document has no more parts than this. -/
theorem item_length (n : Nat) (L : Nat → Int) (f : Nat) : (itemD n L f 0).1.length ≤ 2 + 8 * n ∧ 1 ≤ (itemD n L f 0).1.length := by
  obtain ⟨h1, h2, h3⟩ := item_fine n L f 0
  refine ⟨by omega, ?_⟩
  cases f with
  | zero => simp only [itemD]; split <;> simp
  | succ f =>
    simp only [itemD]
    repeat' split
    all_goals simp
/-! ### One document -/
/-- With the counts that they have, or without. -/
def gE (o : Bool) (e : Ev) : Ev := if o = true then openE e else e
theorem deep_append (D : Nat) : ∀ (l k : List Ev) (s s' : List Bx), runC (.live s) l = .live s' → DeepW D s l → DeepW D s' k → DeepW D s (l ++ k) := by
  intro l
  induction l with
  | nil => intro k s s' h _ hk; cases h; exact hk
  | cons e l ih =>
    intro k s s' h hd hk
    rw [runC_cons] at h
    obtain ⟨h1, h2⟩ := hd
    refine ⟨h1, ?_⟩
    cases hs : stepC (.live s) e with
    | bad f => rw [hs, runC_bad] at h; cases h
    | done => trivial
    | live s2 =>
      rw [hs] at h h2
      exact ih k s2 s' h h2 hk
/-- All of l goes from s on, to c. -/
def Goes (D : Nat) (s : List Bx) (l : List Ev) (c : Ck) : Prop := runC (.live s) l = c ∧ DeepW D s l
theorem Goes.append {D : Nat} {s s' : List Bx} {l k : List Ev} {c : Ck} (h : Goes D s l (.live s')) (g : Goes D s' k c) : Goes D s (l ++ k) c :=
  ⟨by rw [runC_append, h.1, g.1], deep_append D l k s s' h.1 h.2 g.2⟩
theorem goes_one {D : Nat} {s : List Bx} {e : Ev} {c : Ck} (h : stepC (.live s) e = c) (hd : e.k = 5 ∨ e.k = 6 → s.length < D) : Goes D s [e] c := by
  refine ⟨h, hd, ?_⟩
  cases stepC (.live s) e <;> trivial
def afterV (s : List Bx) : Ck := if s = [] then .done else .live (incB s)
/-- A part that holds no other, in a value's place. -/
theorem goes_low {D : Nat} {s : List Bx} {e : Ev} (hs : keyB s = false) (hk : e.k = 0 ∨ e.k = 1 ∨ e.k = 2 ∨ e.k = 3) : Goes D s [e] (afterV s) := by
  refine goes_one ?_ (by omega)
  simp only [stepC]
  rw [if_neg (fun h => h ⟨by omega, by omega, by omega⟩), if_neg (by omega), if_neg (by rw [hs]; simp), if_neg (by omega)]
  rfl
theorem plain_kind (x : Nat) : (plainD x).k = 0 ∨ (plainD x).k = 1 ∨ (plainD x).k = 2 ∨ (plainD x).k = 3 := by
  unfold plainD
  repeat' split
  all_goals simp
theorem lowD_kind (x : Nat) : (lowD x).k = 0 ∨ (lowD x).k = 1 ∨ (lowD x).k = 2 ∨ (lowD x).k = 3 := by
  unfold lowD
  split <;> simp
theorem gE_low (o : Bool) (e : Ev) (hk : e.k = 0 ∨ e.k = 1 ∨ e.k = 2 ∨ e.k = 3) : gE o e = e := by
  unfold gE openE
  split
  · rw [if_neg (by omega)]
  · rfl
theorem gE_end (o : Bool) : gE o ⟨7, false, 0, ⟨#[]⟩, 0⟩ = ⟨7, false, 0, ⟨#[]⟩, 0⟩ := by
  cases o <;> rfl
def cntG (o : Bool) (c : Nat) : Int := if o = true then -1 else (c : Int)
theorem gE_arr (o : Bool) (c : Nat) : gE o ⟨5, false, 0, ⟨#[]⟩, (c : Nat)⟩ = ⟨5, false, 0, ⟨#[]⟩, cntG o c⟩ := by
  cases o <;> rfl
theorem gE_map (o : Bool) (c : Nat) : gE o ⟨6, false, 0, ⟨#[]⟩, (c : Nat)⟩ = ⟨6, false, 0, ⟨#[]⟩, cntG o c⟩ := by
  cases o <;> rfl
theorem cntG_low (o : Bool) (c : Nat) : -1 ≤ cntG o c := by
  unfold cntG
  split <;> omega
theorem goes_begin {D : Nat} {s : List Bx} (hs : keyB s = false) (m : Bool) (c : Int) (hc : -1 ≤ c) (hD : s.length < D) (hD16 : D ≤ 16) : Goes D s [⟨if m then 6 else 5, false, 0, ⟨#[]⟩, c⟩] (.live (⟨m, c, 0⟩ :: incB s)) := by
  refine goes_one ?_ (fun _ => hD)
  simp only [stepC]
  cases m with
  | true =>
    rw [if_neg (fun h => h ⟨by simp, by simp, fun _ => hc⟩), if_neg (by simp), if_neg (by rw [hs]; simp), if_pos (by simp), if_neg (by omega)]
    rfl
  | false =>
    rw [if_neg (fun h => h ⟨by simp, by simp, fun _ => hc⟩), if_neg (by simp), if_neg (by rw [hs]; simp), if_pos (by simp), if_neg (by omega)]
    rfl
theorem goes_end {D : Nat} {s : List Bx} (b : Bx) (hb : ¬ shutB b) : Goes D (b :: incB s) [⟨7, false, 0, ⟨#[]⟩, 0⟩] (afterV s) := by
  refine goes_one ?_ (by simp)
  simp only [stepC]
  rw [if_neg (fun h => h ⟨by simp, by simp, by simp⟩), if_pos trivial, if_neg hb]
  cases s with
  | nil => rfl
  | cons x r => simp [afterV, incB]
theorem incB_length (s : List Bx) : (incB s).length = s.length := by cases s <;> rfl
theorem goes_list (o : Bool) (D f : Nat) (it : Nat → List Ev × Nat) (hit : ∀ a s, keyB s = false → s.length + f ≤ D → Goes D s ((it a).1.map (gE o)) (afterV s)) :
    ∀ k a (b : Bx) (s : List Bx), b.map = false → s.length + 1 + f ≤ D → Goes D (b :: s) ((listD it k a).1.map (gE o)) (.live (⟨b.map, b.c, b.have_ + k⟩ :: s)) := by
  intro k
  induction k with
  | zero => intro a b s _ _; exact ⟨rfl, trivial⟩
  | succ k ih =>
    intro a b s hb hD
    simp only [listD, List.map_append]
    have h1 := hit a (b :: s) (by simp [keyB, hb]) (by simp only [List.length_cons]; omega)
    have h2 := ih (it a).2 ⟨b.map, b.c, b.have_ + 1⟩ s hb hD
    simp only [Nat.add_assoc, Nat.add_comm 1 k] at h2
    exact h1.append h2
theorem goes_map (o : Bool) (D f n : Nat) (L : Nat → Int) (it : Nat → List Ev × Nat) (hit : ∀ a s, keyB s = false → s.length + f ≤ D → Goes D s ((it a).1.map (gE o)) (afterV s)) :
    ∀ k a (b : Bx) (s : List Bx), b.map = true → b.have_ % 2 = 0 → s.length + 1 + f ≤ D → Goes D (b :: s) ((mapD n L it k a).1.map (gE o)) (.live (⟨b.map, b.c, b.have_ + 2 * k⟩ :: s)) := by
  intro k
  induction k with
  | zero => intro a b s _ _ _; exact ⟨rfl, trivial⟩
  | succ k ih =>
    intro a b s hb h0 hD
    simp only [mapD, List.map_cons, List.map_append]
    have hkey : Goes D (b :: s) [gE o ⟨3, false, 0, ⟨(textL (nxD n L a)).toArray⟩, 0⟩] (.live (⟨b.map, b.c, b.have_ + 1⟩ :: s)) := by
      rw [gE_low o _ (by simp)]
      refine goes_one ?_ (by simp)
      simp only [stepC]
      rw [if_neg (fun h => h ⟨by simp, by simp, by simp⟩), if_neg (by simp), if_neg (by simp), if_neg (by simp), if_neg (by simp)]
      rfl
    have h1 := hit (a + 1) (⟨b.map, b.c, b.have_ + 1⟩ :: s) (by simp [keyB, hb]; omega) (by simp only [List.length_cons]; omega)
    have h2 := ih (it (a + 1)).2 ⟨b.map, b.c, b.have_ + 2⟩ s hb (by simp only; omega) hD
    have e2 : b.have_ + 2 + 2 * k = b.have_ + 2 * (k + 1) := by omega
    simp only [e2] at h2
    exact hkey.append (h1.append h2)
theorem goes_item (o : Bool) (D n : Nat) (L : Nat → Int) (hD16 : D ≤ 16) : ∀ f a s, keyB s = false → s.length + f ≤ D → Goes D s ((itemD n L f a).1.map (gE o)) (afterV s) := by
  intro f
  induction f with
  | zero =>
    intro a s hs _
    simp only [itemD]
    split
    · simp only [List.map_cons, List.map_nil, gE_low o _ (plain_kind _)]
      exact goes_low hs (plain_kind _)
    · simp only [List.map_cons, List.map_nil, gE_low o _ (lowD_kind _)]
      exact goes_low hs (lowD_kind _)
  | succ f ih =>
    intro a s hs hD
    simp only [itemD]
    by_cases h1 : nxD n L a % 8 ≤ 4
    · rw [if_pos h1]
      simp only [List.map_cons, List.map_nil, gE_low o _ (plain_kind _)]
      exact goes_low hs (plain_kind _)
    · rw [if_neg h1]
      by_cases h2 : nxD n L a % 8 = 5
      · rw [if_pos h2]
        generalize nxD n L a / 8 % 4 = k
        simp only [List.map_cons, List.map_append, List.map_nil, gE_arr, gE_end, List.cons_append]
        have g1 := goes_begin hs false (cntG o k) (cntG_low o k) (show s.length < D by omega) hD16
        have g2 := goes_list o D f _ ih k (a + 1) ⟨false, cntG o k, 0⟩ (incB s) rfl (by rw [incB_length]; omega)
        have g3 := goes_end (D := D) (s := s) ⟨false, cntG o k, 0 + k⟩ (by
          unfold shutB cntG
          cases o <;> simp)
        exact g1.append (g2.append g3)
      · rw [if_neg h2]
        generalize nxD n L a / 8 % 3 = k
        simp only [List.map_cons, List.map_append, List.map_nil, gE_map, gE_end, List.cons_append]
        have g1 := goes_begin hs true (cntG o k) (cntG_low o k) (show s.length < D by omega) hD16
        have g2 := goes_map o D f n L _ ih k (a + 1) ⟨true, cntG o k, 0⟩ (incB s) rfl rfl (by rw [incB_length]; omega)
        have g3 := goes_end (D := D) (s := s) ⟨true, cntG o k, 0 + 2 * k⟩ (by
          unfold shutB cntG
          cases o <;> simp)
        exact g1.append (g2.append g3)
/-- A DOCUMENT OUT OF NUMBERS IS ONE, with its counts or without. -/
theorem doc_one (o : Bool) (D n : Nat) (L : Nat → Int) (hD16 : D ≤ 16) : checkE ((itemD n L D 0).1.map (gE o)) = 0 ∧ DeepW D [] ((itemD n L D 0).1.map (gE o)) := by
  obtain ⟨h1, h2⟩ := goes_item o D n L hD16 D 0 [] rfl (by simp)
  refine ⟨?_, h2⟩
  unfold checkE
  rw [h1]
  rfl
end Go.Proofs.Ytebnhelejebobaa
/-
  THE BOOK'S DOCUMENTS OUT OF NUMBERS, AS LISTS: their numbers, their texts; what JSON has.
-/
namespace Go.Proofs.Ytebnhelejebobaa
open Go.RowKit
open Go.Lib
def pieceR (i : Nat) : Nat := if i = 0 then 97 else if i = 1 then 34 else if i = 2 then 92 else if i = 3 then 10 else if i = 4 then 233 else if i = 5 then 1 else if i = 6 then 119070 else 122
theorem piece_rune : ∀ i : Fin 8, pieceL i.val = encL (pieceR i.val) := by decide +kernel
theorem pieceR_ok (i : Nat) : IsRune (pieceR i) := by
  unfold pieceR IsRune
  repeat' split
  all_goals omega
theorem textGo_runes (x : Nat) : ∀ k acc, ∃ ns : List Nat, ns.length = k ∧ (∀ r ∈ ns, IsRune r) ∧ textGo x k acc = acc ++ ns.flatMap encL := by
  intro k
  induction k with
  | zero => intro acc; exact ⟨[], rfl, by simp, by simp [textGo]⟩
  | succ k ih =>
    intro acc
    have hp := piece_rune ⟨x / 2 ^ ((k + 1) % 8) % 8, by omega⟩
    obtain ⟨ns, h1, h2, h3⟩ := ih (acc ++ pieceL (x / 2 ^ ((k + 1) % 8) % 8))
    refine ⟨pieceR (x / 2 ^ ((k + 1) % 8) % 8) :: ns, by simp [h1], ?_, ?_⟩
    · intro r hr
      rcases List.mem_cons.1 hr with rfl | hr
      · exact pieceR_ok _
      · exact h2 r hr
    · simp only [textGo]
      rw [h3, List.flatMap_cons, List.append_assoc]
      simp only at hp
      rw [hp]
theorem textL_fine (x : Nat) : validD (textL x) = true ∧ (textL x).length ≤ 28 := by
  obtain ⟨ns, h1, h2, h3⟩ := textGo_runes x (x % 8) []
  unfold textL
  rw [h3, List.nil_append]
  refine ⟨valid_encs ns h2, ?_⟩
  have : ∀ l : List Nat, (∀ n ∈ l, IsRune n) → (l.flatMap encL).length ≤ 4 * l.length := by
    intro l hl
    induction l with
    | nil => simp
    | cons a r ih =>
      have h4 := (enc_len (hl a (by simp))).2
      have := ih (fun n hn => hl n (by simp [hn]))
      rw [List.flatMap_cons, List.length_append, List.length_cons]
      generalize encL a = y at *
      omega
  have := this ns h2
  omega
/-- What a part of these documents is. -/
structure DocE (e : Ev) : Prop where
  kind : e.k = 0 ∨ e.k = 1 ∨ e.k = 2 ∨ e.k = 3 ∨ e.k = 5 ∨ e.k = 6 ∨ e.k = 7
  tidy : tidyE e = e
  cnt : -1 ≤ e.c ∧ e.c ≤ 3
  mag : e.m < 4294967296
  text : validD e.t.data.toList = true ∧ e.t.data.toList.length ≤ 28
theorem validD_nil : validD [] = true := rfl
theorem docE_plain (x : Nat) (hx : x < 65536) : DocE (plainD x) := by
  unfold plainD
  by_cases h0 : x % 8 = 0
  · rw [if_pos h0]
    exact ⟨by simp, rfl, by simp, by simp, validD_nil, by simp⟩
  rw [if_neg h0]
  by_cases h1 : x % 8 = 1
  · rw [if_pos h1]
    exact ⟨by simp, rfl, by simp, by simp, validD_nil, by simp⟩
  rw [if_neg h1]
  by_cases h2 : x % 8 ≤ 3
  · rw [if_pos h2]
    refine ⟨by simp, rfl, by simp, ?_, validD_nil, by simp⟩
    have h3 : x * x ≤ 65535 * 65535 := Nat.mul_le_mul (by omega) (by omega)
    have h4 : x * x / 2 ^ (x % 8) ≤ x * x := Nat.div_le_self _ _
    simp only
    omega
  · rw [if_neg h2]
    exact ⟨by simp, rfl, by simp, by simp, (textL_fine x).1, (textL_fine x).2⟩
theorem docE_low (x : Nat) (hx : x < 65536) : DocE (lowD x) := by
  unfold lowD
  split
  · exact ⟨by simp, rfl, by simp, by simp, validD_nil, by simp⟩
  · exact ⟨by simp, rfl, by simp, by simp only; omega, validD_nil, by simp⟩
theorem docE_list (it : Nat → List Ev × Nat) (hit : ∀ a, ∀ e ∈ (it a).1, DocE e) : ∀ k a, ∀ e ∈ (listD it k a).1, DocE e := by
  intro k
  induction k with
  | zero => intro a e he; simp [listD] at he
  | succ k ih =>
    intro a e he
    simp only [listD, List.mem_append] at he
    rcases he with he | he
    · exact hit a e he
    · exact ih _ e he
theorem docE_key (n : Nat) (L : Nat → Int) (a : Nat) : DocE ⟨3, false, 0, ⟨(textL (nxD n L a)).toArray⟩, 0⟩ := ⟨by simp, rfl, by simp, by simp, (textL_fine _).1, (textL_fine _).2⟩
theorem docE_map (n : Nat) (L : Nat → Int) (it : Nat → List Ev × Nat) (hit : ∀ a, ∀ e ∈ (it a).1, DocE e) : ∀ k a, ∀ e ∈ (mapD n L it k a).1, DocE e := by
  intro k
  induction k with
  | zero => intro a e he; simp [mapD] at he
  | succ k ih =>
    intro a e he
    simp only [mapD, List.mem_cons, List.mem_append] at he
    rcases he with rfl | he | he
    · exact docE_key n L a
    · exact hit (a + 1) e he
    · exact ih _ e he
theorem docE_item (n : Nat) (L : Nat → Int) : ∀ f a, ∀ e ∈ (itemD n L f a).1, DocE e := by
  have hend : DocE ⟨7, false, 0, ⟨#[]⟩, 0⟩ := ⟨by simp, rfl, by simp, by simp, validD_nil, by simp⟩
  intro f
  induction f with
  | zero =>
    intro a e he
    simp only [itemD] at he
    split at he
    · obtain rfl : e = _ := by simpa using he
      exact docE_plain _ (nxD_lt n L a)
    · obtain rfl : e = _ := by simpa using he
      exact docE_low _ (nxD_lt n L a)
  | succ f ih =>
    intro a e he
    simp only [itemD] at he
    by_cases h1 : nxD n L a % 8 ≤ 4
    · rw [if_pos h1] at he
      obtain rfl : e = _ := by simpa using he
      exact docE_plain _ (nxD_lt n L a)
    · rw [if_neg h1] at he
      by_cases h2 : nxD n L a % 8 = 5
      · rw [if_pos h2] at he
        have hk : nxD n L a / 8 % 4 ≤ 3 := by omega
        generalize nxD n L a / 8 % 4 = k at he hk
        simp only [List.cons_append, List.mem_cons, List.mem_append, List.not_mem_nil, or_false] at he
        rcases he with rfl | he | rfl
        · exact ⟨by simp, rfl, by simp only; omega, by simp, validD_nil, by simp⟩
        · exact docE_list _ ih _ _ e he
        · exact hend
      · rw [if_neg h2] at he
        have hk : nxD n L a / 8 % 3 ≤ 2 := by omega
        generalize nxD n L a / 8 % 3 = k at he hk
        simp only [List.cons_append, List.mem_cons, List.mem_append, List.not_mem_nil, or_false] at he
        rcases he with rfl | he | rfl
        · exact ⟨by simp, rfl, by simp only; omega, by simp, validD_nil, by simp⟩
        · exact docE_map n L _ ih _ _ e he
        · exact hend
theorem docE_open {e : Ev} (h : DocE e) : DocE (openE e) ∧ (((openE e).k = 5 ∨ (openE e).k = 6) → (openE e).c = -1) := by
  obtain ⟨k, y, m, t, c⟩ := e
  unfold openE
  by_cases hk : k = 5 ∨ k = 6
  · rw [if_pos hk]
    obtain ⟨h1, h2, h3, h4, h5⟩ := h
    refine ⟨⟨h1, ?_, by simp, h4, h5⟩, fun _ => rfl⟩
    simp only [tidyE] at h2 ⊢
    rcases hk with rfl | rfl
    · simp at h2 ⊢; exact ⟨h2.1, h2.2.1, h2.2.2⟩
    · simp at h2 ⊢; exact ⟨h2.1, h2.2.1, h2.2.2⟩
  · rw [if_neg hk]
    exact ⟨h, fun h' => absurd h' hk⟩
theorem DocE.good {e : Ev} (h : DocE e) (ho : e.k = 5 ∨ e.k = 6 → e.c = -1) : GoodW e := ⟨h.kind, h.tidy, ho, by have := h.mag; omega, fun _ => ⟨h.text.1, by have := h.text.2; omega⟩⟩
theorem DocE.ok {e : Ev} (h : DocE e) : EvOk e := by
  have h1 := h.kind
  have h2 := h.cnt
  have h3 := h.mag
  have h4 := h.text.2
  rw [size_list] at h4
  exact ⟨⟨by omega, by omega⟩, by omega, ⟨by omega, by omega⟩, by omega⟩
/-- What JSON has of them. -/
theorem doc_good (n : Nat) (L : Nat → Int) (f a : Nat) : ∀ e ∈ (itemD n L f a).1.map openE, GoodW e ∧ EvOk e ∧ e.t.size ≤ 28 := by
  intro e he
  obtain ⟨x, hx, rfl⟩ := List.mem_map.1 he
  obtain ⟨h1, h2⟩ := docE_open (docE_item n L f a x hx)
  refine ⟨h1.good h2, h1.ok, ?_⟩
  have := h1.text.2
  rwa [size_list] at this
theorem gE_true : gE true = openE := by funext e; rfl
theorem gE_false : gE false = id := by funext e; rfl
end Go.Proofs.Ytebnhelejebobaa
/-
  NO PROGRAM NEEDED but names: the book's documents are what CBOR's reader tells.
-/
namespace Go.Proofs.Ytebnhelejebobaa
open Go.Lib
theorem DocE.goodK {e : Ev} (h : DocE e) : GoodK e := ⟨by have := h.kind; omega, h.tidy, ⟨h.cnt.1, by have := h.cnt.2; omega⟩, by have := h.mag; omega, ⟨by have := h.text.2; omega, fun _ => h.text.1⟩⟩
theorem docK_good (o : Bool) (n : Nat) (L : Nat → Int) (f a : Nat) : ∀ e ∈ (itemD n L f a).1.map (gE o), GoodK e ∧ EvOk e ∧ e.t.size ≤ 28 := by
  intro e he
  obtain ⟨x, hx, rfl⟩ := List.mem_map.1 he
  have h1 : DocE (gE o x) := by
    cases o
    · exact docE_item n L f a x hx
    · exact (docE_open (docE_item n L f a x hx)).1
  refine ⟨h1.goodK, h1.ok, ?_⟩
  have := h1.text.2
  rwa [size_list] at this
/-- Of the open containers behind a part: no count is greater than it may be. -/
theorem cnt_step {s s' : List Bx} {e : Ev} (h : stepC (.live s) e = .live s') (hs : ∀ b ∈ s, b.c ≤ 1000000) (hg : GoodK e) : ∀ b ∈ s', b.c ≤ 1000000 := by
  have hinc : ∀ b ∈ incB s, b.c ≤ 1000000 := by
    cases s with
    | nil => intro b hb; cases hb
    | cons x r =>
      intro b hb
      rcases List.mem_cons.1 hb with rfl | hb
      · exact hs x (by simp)
      · exact hs b (by simp [hb])
  simp only [stepC] at h
  split at h
  · cases h
  split at h
  · cases s with
    | nil => cases h
    | cons x r =>
      simp only at h
      split at h
      · cases h
      · split at h
        · cases h
        · cases h
          exact fun b hb => hs b (by simp [hb])
  split at h
  · cases h
  split at h
  · split at h
    · cases h
    · cases h
      intro b hb
      rcases List.mem_cons.1 hb with rfl | hb
      · exact hg.cnt.2
      · exact hinc b hb
  · split at h
    · cases h
    · cases h
      exact hinc
theorem cnt_run : ∀ (l : List Ev) (s s' : List Bx), runC (.live s) l = .live s' → (∀ b ∈ s, b.c ≤ 1000000) → (∀ e ∈ l, GoodK e) → ∀ b ∈ s', b.c ≤ 1000000
  | [], s, s', h, hs, _ => by
    have : Ck.live s = Ck.live s' := h
    cases this
    exact hs
  | e :: l, s, s', h, hs, hg => by
    rw [runC_cons] at h
    cases hx : stepC (.live s) e with
    | bad f => rw [hx, runC_bad] at h; cases h
    | done =>
      rw [hx] at h
      cases l with
      | nil => cases h
      | cons y l => rw [runC_cons] at h; simp only [stepC] at h; rw [runC_bad] at h; cases h
    | live s1 =>
      rw [hx] at h
      exact cnt_run l s1 s' h (cnt_step hx hs (hg e (by simp))) (fun x hx => hg x (by simp [hx]))
end Go.Proofs.Ytebnhelejebobaa
/-
  NO PROGRAM NEEDED: documents written part by part, as far as they are written; blanks ahead of all.
-/
namespace Go.Proofs.Ytebnhelejebobaa
open Go.Lib
theorem writeAll_snoc (p q : List UInt8) : ∀ (l : List Ev) (s s' : List Bx) (e : Ev), runC (.live s) l = .live s' → writeAll p q s (l ++ [e]) = writeAll p q s l ++ (p ++ (writeW s' e ++ q))
  | [], s, s', e, h => by
    have : Ck.live s = Ck.live s' := h
    obtain rfl : s = s' := by cases this; rfl
    simp only [List.nil_append, writeAll]
    cases stepC (.live s) e <;> simp
  | x :: l, s, s', e, h => by
    rw [runC_cons] at h
    simp only [List.cons_append, writeAll]
    cases hx : stepC (.live s) x with
    | bad f => rw [hx, runC_bad] at h; cases h
    | done =>
      rw [hx] at h
      cases l with
      | nil => cases h
      | cons y l => rw [runC_cons] at h; simp only [stepC] at h; rw [runC_bad] at h; cases h
    | live s1 =>
      rw [hx] at h
      simp only [writeAll_snoc p q l s1 s' e h, List.append_assoc]
/-- Ahead of its end a document goes on. -/
theorem live_at {l : List Ev} (h : runC (.live []) l = .done) {j : Nat} (hj : j < l.length) : ∃ s, runC (.live []) (l.take j) = .live s ∧ ∀ f, stepC (.live s) l[j] ≠ .bad f := by
  have h1 : runC (runC (.live []) (l.take j)) (l.drop j) = .done := by rw [← runC_append, List.take_append_drop]; exact h
  have hd : l.drop j = l[j] :: l.drop (j + 1) := List.drop_eq_getElem_cons hj
  rw [hd, runC_cons] at h1
  cases hc : runC (.live []) (l.take j) with
  | bad f => rw [hc] at h1; simp only [stepC] at h1; rw [runC_bad] at h1; cases h1
  | done => rw [hc] at h1; simp only [stepC] at h1; rw [runC_bad] at h1; cases h1
  | live s =>
    rw [hc] at h1
    exact ⟨s, rfl, fun f hf => by rw [hf, runC_bad] at h1; cases h1⟩
theorem runC_take {l : List Ev} {j : Nat} (hj : j < l.length) (c : Ck) : runC c (l.take (j + 1)) = stepC (runC c (l.take j)) l[j] := by
  rw [List.take_add_one, List.getElem?_eq_getElem hj, runC_append]
  rfl
theorem write_take (p q : List UInt8) {l : List Ev} {j : Nat} (hj : j < l.length) {s : List Bx} (h : runC (.live []) (l.take j) = .live s) :
    writeAll p q [] (l.take (j + 1)) = writeAll p q [] (l.take j) ++ (p ++ (writeW s l[j] ++ q)) := by
  rw [List.take_add_one, List.getElem?_eq_getElem hj]
  exact writeAll_snoc p q _ _ _ _ h
/-- A document behind a blank. -/
theorem back_blank (D : Nat) (b : UInt8) (hb : isBlank b.toNat = true) (l : List UInt8) : allJ D (b :: l) = allJ D l := by
  have h : stepJ D ⟨.idle, .at_ [] false⟩ b = (⟨.idle, .at_ [] false⟩, []) := by
    rw [step_tells D [] false .idle b [] (blank_none b hb)]
    rfl
  unfold allJ
  simp only [runJ, h, List.nil_append]
end Go.Proofs.Ytebnhelejebobaa
/-
  NO PROGRAM NEEDED: a document part by part: where Check stands behind one, how deep it is (out of CinKI).
-/
namespace Go.Proofs.Ytebnhelejebobaa
open Go.Lib
theorem ck_step {s : List Bx} {e : Ev} (hnb : ∀ f, stepC (.live s) e ≠ .bad f) : ∃ s', stepC (.live s) e = ckS s' := by
  simp only [stepC] at hnb ⊢
  by_cases hm : mayE e
  · rw [if_neg (by simpa using hm)] at hnb ⊢
    by_cases h7 : e.k = 7
    · rw [if_pos h7] at hnb ⊢
      cases s with
      | nil => exact absurd rfl (hnb 2)
      | cons b r =>
        simp only at hnb ⊢
        by_cases hs : shutB b
        · rw [if_pos hs] at hnb
          exact absurd rfl (hnb 2)
        · rw [if_neg hs]
          by_cases hr : r = []
          · exact ⟨[], by rw [if_pos hr]; rfl⟩
          · exact ⟨r, by rw [if_neg hr]; unfold ckS; rw [if_neg hr]⟩
    · rw [if_neg h7] at hnb ⊢
      by_cases hk : keyB s = true ∧ e.k ≠ 3
      · rw [if_pos hk] at hnb
        exact absurd rfl (hnb 8)
      · rw [if_neg hk] at hnb ⊢
        by_cases h5 : e.k = 5 ∨ e.k = 6
        · rw [if_pos h5] at hnb ⊢
          by_cases hd : 16 ≤ s.length
          · rw [if_pos hd] at hnb
            exact absurd rfl (hnb 4)
          · rw [if_neg hd]
            exact ⟨_ :: incB s, by unfold ckS; rw [if_neg (by simp)]⟩
        · rw [if_neg h5]
          by_cases hs : s = []
          · exact ⟨[], by rw [if_pos hs]; rfl⟩
          · refine ⟨incB s, ?_⟩
            rw [if_neg hs]
            unfold ckS
            cases s with
            | nil => exact absurd rfl hs
            | cons b r => rw [if_neg (by simp [incB])]
  · rw [if_pos hm] at hnb
    exact absurd rfl (hnb 2)
theorem inc_len2 (s : List Bx) : (incB s).length = s.length := by cases s <;> rfl
theorem len_step {s s' : List Bx} {e : Ev} (h : stepC (.live s) e = .live s') (hs : s.length ≤ 16) : s'.length ≤ 16 := by
  simp only [stepC] at h
  split at h
  · cases h
  split at h
  · cases s with
    | nil => cases h
    | cons x r =>
      simp only at h
      split at h
      · cases h
      · split at h
        · cases h
        · cases h
          simp only [List.length_cons] at hs
          omega
  split at h
  · cases h
  split at h
  · split at h
    · cases h
    · cases h
      rw [List.length_cons, inc_len2]
      omega
  · split at h
    · cases h
    · cases h
      rw [inc_len2]
      exact hs
theorem len_run : ∀ (l : List Ev) (s s' : List Bx), runC (.live s) l = .live s' → s.length ≤ 16 → s'.length ≤ 16
  | [], s, s', h, hs => by
    have : Ck.live s = Ck.live s' := h
    cases this
    exact hs
  | e :: l, s, s', h, hs => by
    rw [runC_cons] at h
    cases hx : stepC (.live s) e with
    | bad f => rw [hx, runC_bad] at h; cases h
    | done =>
      rw [hx] at h
      cases l with
      | nil => cases h
      | cons y l => rw [runC_cons] at h; simp only [stepC] at h; rw [runC_bad] at h; cases h
    | live s1 =>
      rw [hx] at h
      exact len_run l s1 s' h (len_step hx hs)
end Go.Proofs.Ytebnhelejebobaa
/-
  NO PROGRAM NEEDED: the book's documents as Check lets them by.
-/
namespace Go.Proofs.Ytebnhelejebobaa
open Go.RowKit
open Go.Lib
theorem doc_run (n : Nat) (L : Nat → Int) (D : Nat) (hD : D ≤ 16) : runC (.live []) (itemD n L D 0).1 = .done := by
  have h := (doc_one false D n L hD).1
  rw [gE_false, List.map_id] at h
  exact check_zero h
theorem doc_e (n : Nat) (L : Nat → Int) (D : Nat) : ∀ e ∈ (itemD n L D 0).1, DocE e := docE_item n L D 0
theorem docE_may {e : Ev} (h : DocE e) : mayE e := by
  have h1 := h.kind
  have h2 := h.cnt
  exact ⟨by omega, by omega, fun _ => h2.1⟩
theorem docE_small {e : Ev} (h : DocE e) : EvOk e ∧ e.t.size ≤ 1000 := by
  refine ⟨h.ok, ?_⟩
  have := h.text.2
  rw [size_list] at this
  omega
theorem run_ended {l : List Ev} (h : runC .done l = .done) : l = [] := by
  cases l with
  | nil => rfl
  | cons e l =>
    have : runC .done (e :: l) = runC (.bad 2) l := rfl
    rw [this, runC_bad] at h
    cases h
theorem stepC_may {s : List Bx} {e : Ev} (h : ∀ f, stepC (.live s) e ≠ .bad f) : mayE e := by
  by_cases hm : mayE e
  · exact hm
  · exact absurd (by simp only [stepC]; rw [if_pos hm]) (h 2)
/-- All counts are known. -/
theorem doc_pos (n : Nat) (L : Nat → Int) : ∀ f a, ∀ e ∈ (itemD n L f a).1, 0 ≤ e.c := by
  have hpl : ∀ x, 0 ≤ (plainD x).c := by
    intro x
    unfold plainD
    repeat' split
    all_goals simp
  have hlw : ∀ x, 0 ≤ (lowD x).c := by
    intro x
    unfold lowD
    split <;> simp
  have hls : ∀ (it : Nat → List Ev × Nat), (∀ a, ∀ e ∈ (it a).1, 0 ≤ e.c) → ∀ k a, ∀ e ∈ (listD it k a).1, 0 ≤ e.c := by
    intro it hit k
    induction k with
    | zero => intro a e he; simp [listD] at he
    | succ k ih =>
      intro a e he
      simp only [listD, List.mem_append] at he
      rcases he with he | he
      · exact hit a e he
      · exact ih _ e he
  have hmp : ∀ (it : Nat → List Ev × Nat), (∀ a, ∀ e ∈ (it a).1, 0 ≤ e.c) → ∀ k a, ∀ e ∈ (mapD n L it k a).1, 0 ≤ e.c := by
    intro it hit k
    induction k with
    | zero => intro a e he; simp [mapD] at he
    | succ k ih =>
      intro a e he
      simp only [mapD, List.mem_cons, List.mem_append] at he
      rcases he with rfl | he | he
      · simp
      · exact hit (a + 1) e he
      · exact ih _ e he
  intro f
  induction f with
  | zero =>
    intro a e he
    simp only [itemD] at he
    split at he
    · obtain rfl : e = _ := by simpa using he
      exact hpl _
    · obtain rfl : e = _ := by simpa using he
      exact hlw _
  | succ f ih =>
    intro a e he
    simp only [itemD] at he
    by_cases h1 : nxD n L a % 8 ≤ 4
    · rw [if_pos h1] at he
      obtain rfl : e = _ := by simpa using he
      exact hpl _
    · rw [if_neg h1] at he
      by_cases h2 : nxD n L a % 8 = 5
      · rw [if_pos h2] at he
        generalize nxD n L a / 8 % 4 = k at he
        simp only [List.cons_append, List.mem_cons, List.mem_append, List.not_mem_nil, or_false] at he
        rcases he with rfl | he | rfl
        · simp
        · exact hls _ ih _ _ e he
        · simp
      · rw [if_neg h2] at he
        generalize nxD n L a / 8 % 3 = k at he
        simp only [List.cons_append, List.mem_cons, List.mem_append, List.not_mem_nil, or_false] at he
        rcases he with rfl | he | rfl
        · simp
        · exact hmp _ ih _ _ e he
        · simp
end Go.Proofs.Ytebnhelejebobaa
/-
  CONTRACTS of the book's documents out of numbers: every item, to the depth asked.
-/
namespace Go.Proofs.Ytebnhelejebobaa
open Go.RowKit
open Go.Lib
theorem plain_ok {D n cp at_ m bl bd bo ba bn bi : Nat} (d : Nat) {A : Option Addr} {L : Nat → Int} {W w : World} {v : Value} {out : List Ev} (h : DS W A n cp L D bl bd bo ba bn bi w v m out at_) (h1 : at_ ≤ 900000000) (h2 : n ≤ 900000000) (h3 : m ≤ 900000000) (hx : nxD n L at_ % 8 ≤ 4) :
    Calls Try.prog 29 #[.int .i64 ((d : Nat) : Int), .pointer (some ⟨bn, 0, none⟩), .pointer (some ⟨bo, 0, none⟩), .pointer (some ⟨bd, 0, none⟩), .pointer (some ⟨bi, 0, none⟩)] w fun r w' => ∃ v', r = .returned (.tuple #[]) ∧ DS W A n cp L D bl bd bo ba bn bi w' v' (m + 1) (out ++ [plainD (nxD n L at_)]) (at_ + 1) := by
  by_cases k0 : nxD n L at_ % 8 = 0
  · exact plain0 d h h1 h2 h3 k0
  by_cases k1 : nxD n L at_ % 8 = 1
  · exact plain1 d h h1 h2 h3 k1
  by_cases k2 : nxD n L at_ % 8 = 2
  · exact plain2 d h h1 h2 h3 k2
  by_cases k3 : nxD n L at_ % 8 = 3
  · exact plain3 d h h1 h2 h3 k3
  exact plain4 d h h1 h2 h3 (by omega)
theorem cap_pos (f : Nat) : 1 ≤ capD f := by
  cases f
  · exact Nat.le_refl _
  · simp only [capD]; omega
/-- Every item tells its parts. -/
theorem item_any {D n cp bl bd bo ba bn bi : Nat} {A : Option Addr} {L : Nat → Int} {W : World} (h2 : n ≤ 900000000) (hD : D ≤ 1000) : ∀ f d, d + f = D → ItemOk W A n cp L D bl bd bo ba bn bi d f
  | 0, d, hd => by
    intro m a w v out h ha hm
    simp only [capD] at ha hm
    simp only [itemD]
    by_cases k : nxD n L a % 8 ≤ 4
    · rw [if_pos k]
      exact plain_ok d h (by omega) h2 (by omega) k
    · rw [if_neg k]
      by_cases k5 : nxD n L a % 8 = 5
      · exact low5 d h (by omega) h2 (by omega) k5 (by omega)
      by_cases k6 : nxD n L a % 8 = 6
      · exact low6 d h (by omega) h2 (by omega) k6 (by omega)
      exact low7 d h (by omega) h2 (by omega) (by omega) (by omega)
  | f + 1, d, hd => by
    intro m a w v out h ha hm
    have hp := cap_pos (f + 1)
    by_cases k : nxD n L a % 8 ≤ 4
    · simp only [itemD]
      rw [if_pos k]
      exact plain_ok d h (by omega) h2 (by omega) k
    · have ih := item_any (W := W) (A := A) (cp := cp) (L := L) (bl := bl) (bd := bd) (bo := bo) (ba := ba) (bn := bn) (bi := bi) h2 hD f (d + 1) (by omega)
      by_cases k5 : nxD n L a % 8 = 5
      · exact item_arr h ha h2 hm k5 hd hD ih
      · exact item_map h ha h2 hm (by omega) hd hD ih
end Go.Proofs.Ytebnhelejebobaa
/-
  CONTRACT of the book's documents out of numbers: truchmanbook.Doc.
-/
namespace Go.Proofs.Ytebnhelejebobaa
open Go.RowKit
open Go.Lib
theorem blk_new1 (w : World) (X : Obj) (cs : Array Value) (t : TypeId) : Blk ((w.alloc X).alloc (.cells cs t)) (w.heap.size + 1) cs t := by
  have := blk_new (w.alloc X) cs t
  rwa [World.size_alloc] at this
theorem blk_new2 (w : World) (X Y : Obj) (cs : Array Value) (t : TypeId) : Blk (((w.alloc X).alloc Y).alloc (.cells cs t)) (w.heap.size + 1 + 1) cs t := by
  have := blk_new1 (w.alloc X) Y cs t
  rwa [World.size_alloc] at this
theorem blk_new3 (w : World) (X Y Z : Obj) (cs : Array Value) (t : TypeId) : Blk ((((w.alloc X).alloc Y).alloc Z).alloc (.cells cs t)) (w.heap.size + 1 + 1 + 1) cs t := by
  have := blk_new2 (w.alloc X) Y Z cs t
  rwa [World.size_alloc] at this
theorem blk_new4 (w : World) (X Y Z U : Obj) (cs : Array Value) (t : TypeId) : Blk (((((w.alloc X).alloc Y).alloc Z).alloc U).alloc (.cells cs t)) (w.heap.size + 1 + 1 + 1 + 1) cs t := by
  have := blk_new3 (w.alloc X) Y Z U cs t
  rwa [World.size_alloc] at this
theorem blk_new5 (w : World) (X Y Z U V : Obj) (cs : Array Value) (t : TypeId) : Blk ((((((w.alloc X).alloc Y).alloc Z).alloc U).alloc V).alloc (.cells cs t)) (w.heap.size + 1 + 1 + 1 + 1 + 1) cs t := by
  have := blk_new4 (w.alloc X) Y Z U V cs t
  rwa [World.size_alloc] at this
/-- What Doc lays ahead of its one item. -/
theorem ds_new (A : Option Addr) (n cp : Nat) (L : Nat → Int) (D : Nat) (w : World) (hL : DLAt w w.heap.size A n L) :
    DS w A n cp L D w.heap.size (w.heap.size + 1) (w.heap.size + 1 + 1) (w.heap.size + 1 + 1 + 1) (w.heap.size + 1 + 1 + 1 + 1) (w.heap.size + 1 + 1 + 1 + 1 + 1)
      ((((((w.alloc (.cells #[.slice A n cp] 29)).alloc (.cells #[.int .i64 D] 3)).alloc (.cells #[.slice none 0 0] 23)).alloc (.cells #[.int .i64 0] 3)).alloc (.cells #[clNext (w.heap.size + 1 + 1 + 1) w.heap.size] 50)).alloc
        (.cells #[clItem (w.heap.size + 1 + 1 + 1 + 1) (w.heap.size + 1 + 1) (w.heap.size + 1) (w.heap.size + 1 + 1 + 1 + 1 + 1)] 66)) (.slice none 0 0) 0 [] 0 := by
  have hB : Below w.heap.size w ((((((w.alloc (.cells #[.slice A n cp] 29)).alloc (.cells #[.int .i64 D] 3)).alloc (.cells #[.slice none 0 0] 23)).alloc (.cells #[.int .i64 0] 3)).alloc (.cells #[clNext (w.heap.size + 1 + 1 + 1) w.heap.size] 50)).alloc
        (.cells #[clItem (w.heap.size + 1 + 1 + 1 + 1) (w.heap.size + 1 + 1) (w.heap.size + 1) (w.heap.size + 1 + 1 + 1 + 1 + 1)] 66)) := up_alloc (up_alloc (up_alloc (up_alloc (up_alloc (up_alloc (Below.refl _ _) _) _) _) _) _) _
  exact ⟨((((((blk_new _ _ _).alloc _).alloc _).alloc _).alloc _).alloc _), (((((blk_new1 _ _ _ _).alloc _).alloc _).alloc _).alloc _), (((blk_new2 _ _ _ _ _).alloc _).alloc _).alloc _, ((blk_new3 _ _ _ _ _ _).alloc _).alloc _, (blk_new4 _ _ _ _ _ _ _).alloc _, blk_new5 _ _ _ _ _ _ _ _,
    ⟨hB, Win.nil_ _ _ _, fun k hk => by simp [Value.owner] at hk⟩, rfl, hL.below hB, by omega, by omega, by omega⟩
set_option maxHeartbeats 2000000 in
/-- Doc tells the parts of one item. -/
theorem doc_any (A : Option Addr) (n cp : Nat) (L : Nat → Int) (D : Nat) (w : World) (hL : DLAt w w.heap.size A n L) (h2 : n ≤ 900000000) (hD : D ≤ 1000) (hC : capD D ≤ 900000000) :
    Calls Try.prog 16 #[.slice A n cp, .int .i64 ((D : Nat) : Int)] w fun r w' => ∃ v, r = .returned v ∧ Made w w' v (itemD n L D 0).1.length (itemD n L D 0).1 := by
  have hI := item_any (bl := w.heap.size) (bd := w.heap.size + 1) (bo := w.heap.size + 1 + 1) (ba := w.heap.size + 1 + 1 + 1) (bn := w.heap.size + 1 + 1 + 1 + 1) (bi := w.heap.size + 1 + 1 + 1 + 1 + 1) (cp := cp) (A := A) (L := L) (W := w) h2 hD D 0 (by omega) 0 0 _ _ _ (ds_new A n cp L D w hL) (by omega) (by omega)
  simp only [Nat.zero_add, List.nil_append] at hI
  have HI := Lib.hid hI
  clear hI hL hC
  go_enter Try.func16, Try.ntmps16
  go_wp2_with fail
  refine HI.out.mono ?_
  rintro r w1 ⟨v, rfl, hS⟩
  have o0 := hS.o.cell 0
  simp only [List.getElem?_toArray, List.getElem?_cons_zero] at o0
  have HM := Lib.hid hS.made
  clear hS
  go_wp2
  go_ret
  exact ⟨v, rfl, HM.out⟩
end Go.Proofs.Ytebnhelejebobaa
/-
  The book's documents: how many blocks one may take; what came in as ints.
-/
namespace Go.Proofs.Ytebnhelejebobaa
open Go.RowKit
open Go.Lib
theorem cap16 (D : Nat) (hD : D ≤ 16) : capD D ≤ 900000000 := by
  have hc : D = 0 ∨ D = 1 ∨ D = 2 ∨ D = 3 ∨ D = 4 ∨ D = 5 ∨ D = 6 ∨ D = 7 ∨ D = 8 ∨ D = 9 ∨ D = 10 ∨ D = 11 ∨ D = 12 ∨ D = 13 ∨ D = 14 ∨ D = 15 ∨ D = 16 := by omega
  rcases hc with rfl | rfl | rfl | rfl | rfl | rfl | rfl | rfl | rfl | rfl | rfl | rfl | rfl | rfl | rfl | rfl | rfl <;> decide +kernel
/-- What came in as ints, as the documents want it. -/
theorem dlat_reads {w : World} {A : Option Addr} {n : Nat} {zs : List Int} (hl : zs.length = n) (hR : Reads w w.heap.size 1 A n (zs.map (Value.int .i64))) : DLAt w w.heap.size A n (fun i => zs.getD i 0) := fun h0 => by
  obtain ⟨ad, rfl, hb, hc⟩ := hR.2 h0
  obtain ⟨b, off, spot⟩ := ad
  have h00 := hc 0 (.int .i64 (zs[0]'(by omega))) (by simp [show 0 < zs.length by omega])
  have hspot : spot = none := by simpa [Addr.add] using World.cell?_spot h00
  subst hspot
  refine ⟨b, off, rfl, hb, fun i hi => ?_⟩
  have hi' : i < zs.length := by omega
  have := hc i (.int .i64 zs[i]) (by simp [hi'])
  by_cases hi0 : i = 0
  · subst hi0
    simpa [List.getD, hi', Addr.add] using this
  · simpa [List.getD, hi', Addr.add, hi0] using this
end Go.Proofs.Ytebnhelejebobaa
