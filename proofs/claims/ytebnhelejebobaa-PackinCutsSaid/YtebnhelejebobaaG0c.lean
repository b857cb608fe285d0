/-
  LAWS of chapter 15, over what they want of package packin (PinAll): the first call (alive). NO PROGRAM NEEDED: a frame: a place of one block, and other blocks (out of CinNest). Whole numbers that lie within their kind; x & 31; x | y of bits beside each other. NO PROGRAM NEEDED: boxes (open containers) as cells. CONTRACTS of package event's machine: a container's mayEnd; a document's atKey, end, take; Check. NO PROGRAM NEEDED: a block as a whole, as cells from place 0 on. LAWS of chapter 15, over PinAll: PackinDeep. CONTRACT of truchmanref1.Big: the bytes of a number; a []byte made, written cell by cell, turned into a string. NO PROGRAM NEEDED: the order of numbers as digits. CONTRACTS of the documents own Digits and Print. CONTRACT of the documents own Write: the inside of a text's string. CONTRACT of the document's own plain, for JSON: what is written of a part that is no container, nor an end. THE DOCUMENT'S OWN STACK: open containers as a list of truchmanref1.Box. CONTRACT of the document's own Writer, for JSON: an end; a value; a container that begins. NO PROGRAM NEEDED: of a document that goes on to its end there is room for one part more; how long a part is as CBOR. CONTRACTS of the book's documents out of numbers (truchmanbook.Doc, text, Open). CONTRACTS of the book's documents out of numbers: what the closures of truchmanbook.Doc do, step by step. CONTRACT of truchmanbook.SameEvs: two lists that hold the same. NO PROGRAM NEEDED: '(at%n + n) % n' is a place; wraps that
-/
import Derived.Test.YtebnhelejebobaaG0b
import Derived.Deep.QuietTactic
import Derived.Deep.RegionWith
import Derived.Test.YtebnhelejebobaaG0a
import Derived.Deep.DeepCutAuto
import Derived.Deep.RegionLaw
import GoSem.Op.String
import Derived.OwnWalk
import Derived.BigCall
import Derived.BigGuard
/-
  LAWS of chapter 15, over what they want of package packin (PinAll): the first call (alive).
-/
namespace Go.Proofs.Ytebnhelejebobaa
open Go.RowKit
open Go.Lib
theorem palive_a : allPm 4 [146, 1, 192] = ([⟨5, false, 0, ⟨#[]⟩, 2⟩, ⟨2, false, 1, ⟨#[]⟩, 0⟩, ⟨0, false, 0, ⟨#[]⟩, 0⟩, ⟨7, false, 0, ⟨#[]⟩, 0⟩], 0) := by kernel_rfl
set_option maxRecDepth 100000 in
set_option maxHeartbeats 4000000 in
theorem palive_any (H : PinAll) (w : World) : Calls Try.prog 13 #[] w fun e w' => e = .returned (.bool true) ∧ Below w.heap.size w w' := by
  have HA := Lib.hid (fun W => H [146, 1, 192] 4 (by omega) (by simp) W)
  rw [palive_a] at HA
  have q0 := fun W => ev_eql ⟨5, false, 0, ⟨#[]⟩, 2⟩ ⟨5, false, 0, ⟨#[]⟩, 2⟩ W
  have q1 := fun W => ev_eql ⟨2, false, 1, ⟨#[]⟩, 0⟩ ⟨2, false, 1, ⟨#[]⟩, 0⟩ W
  have q2 := fun W => ev_eql ⟨0, false, 0, ⟨#[]⟩, 0⟩ ⟨0, false, 0, ⟨#[]⟩, 0⟩ W
  rw [sameE_refl] at q0 q1 q2
  simp only [evV] at q0 q1 q2
  go_enter Try.func13, Try.ntmps13
  go_wp2_with fail
  refine (HA.out _).mono ?_
  rintro r w1 ⟨u1, rfl, hM1⟩
  have hW := hM1.2.1
  have HB := Lib.hid hM1.1
  clear hM1
  obtain ⟨g, off, cap, rfl, _, _, _, _, hc⟩ := hW.form (by decide)
  have c0 := (hc 0 (.int .i64 5) rfl).1
  have c1 := (hc 1 (.bool false) rfl).1
  have c2 := (hc 2 (.int .u64 0) rfl).1
  have c3 := (hc 3 (.string ⟨#[]⟩) rfl).1
  have c4 := (hc 4 (.int .i64 2) rfl).1
  have c5 := (hc 5 (.int .i64 2) rfl).1
  have c6 := (hc 6 (.bool false) rfl).1
  have c7 := (hc 7 (.int .u64 1) rfl).1
  have c8 := (hc 8 (.string ⟨#[]⟩) rfl).1
  have c9 := (hc 9 (.int .i64 0) rfl).1
  have c10 := (hc 10 (.int .i64 0) rfl).1
  have c11 := (hc 11 (.bool false) rfl).1
  have c12 := (hc 12 (.int .u64 0) rfl).1
  have c13 := (hc 13 (.string ⟨#[]⟩) rfl).1
  have c14 := (hc 14 (.int .i64 0) rfl).1
  have c15 := (hc 15 (.int .i64 7) rfl).1
  simp only [Nat.add_zero] at c0
  clear hc hW
  go_wp2
  go_ret
  exact ⟨rfl, HB.out⟩
theorem pall_str (H : PinAll) (x : ByteArray) (D : Nat) (hD : 1 ≤ D ∧ D ≤ 16) (hz : x.size ≤ 100000000) (w : World) :
    Calls Try.prog 14 #[.string x, .int .i64 D] w fun r w' => ∃ u, r = .returned (.tuple #[u, .int .i64 (allPm D x.data.toList).2]) ∧ Made w w' u (allPm D x.data.toList).1.length (allPm D x.data.toList).1 := by
  have := H x.data.toList D hD (by simpa using hz) w
  simpa using this
end Go.Proofs.Ytebnhelejebobaa
/-
  NO PROGRAM NEEDED: a frame: a place of one block, and other blocks (out of CinNest).
-/
namespace Go.Proofs.Ytebnhelejebobaa
open Go.RowKit
open Go.Lib
/-! ### A frame: a place of one block, and other blocks -/
/-- Of the blocks that there are b alone (of it the n cells from o on) and those of g may have turned. -/
structure Subg (g : List Nat) (b o n : Nat) (w w' : World) : Prop where
  os : w'.os = w.os
  tape : w'.tape = w.tape
  output : w'.output = w.output
  size : w.heap.size ≤ w'.heap.size
  block : ∀ k, k < w.heap.size → k ≠ b → k ∉ g → w'.heap[k]? = w.heap[k]?
  shape : ∀ (c : Array Value) (t : TypeId) (fr : Nat × Nat), w.heap[b]? = some (.cells c t fr) → ∃ c' : Array Value, w'.heap[b]? = some (.cells c' t fr) ∧ c'.size = c.size
  cell : ∀ k, (k < o ∨ o + n ≤ k) → w'.cell? ⟨b, k, none⟩ = w.cell? ⟨b, k, none⟩
theorem Sub.subg {b o n : Nat} {w w' : World} (h : Sub b o n w w') (g : List Nat) : Subg g b o n w w' :=
  ⟨h.step.os, h.step.tape, h.step.output, h.step.size, fun k hk hb _ => h.step.block k hk (by simpa using hb), h.shape, h.cell⟩
theorem Subg.refl (g : List Nat) (b o n : Nat) (w : World) : Subg g b o n w w := (Sub.refl b o n w).subg g
theorem Subg.trans {g g2 : List Nat} {b o n : Nat} {w w1 w2 : World} (h : Subg g b o n w w1) (k : Subg g2 b o n w1 w2) (hg : ∀ x ∈ g2, x ∈ g ∨ w.heap.size ≤ x) : Subg g b o n w w2 :=
  ⟨k.os.trans h.os, k.tape.trans h.tape, k.output.trans h.output, Nat.le_trans h.size k.size,
   fun i hi hb hn => (k.block i (Nat.lt_of_lt_of_le hi h.size) hb (fun e => (hg i e).elim hn (fun h => by omega))).trans (h.block i hi hb hn),
   fun c t fr hc => by
    obtain ⟨c1, h1, s1⟩ := h.shape c t fr hc
    obtain ⟨c2, h2, s2⟩ := k.shape c1 t fr h1
    exact ⟨c2, h2, s2.trans s1⟩, fun i hi => (k.cell i hi).trans (h.cell i hi)⟩
theorem Subg.tr {g : List Nat} {b o n : Nat} {w w1 w2 : World} (h : Subg g b o n w w1) (k : Subg g b o n w1 w2) : Subg g b o n w w2 := h.trans k (fun _ h => .inl h)
theorem Subg.widen {g g' : List Nat} {b o n o' n' : Nat} {w w' : World} (h : Subg g b o n w w') (hg : ∀ x ∈ g, x ∈ g') (h1 : o' ≤ o) (h2 : o + n ≤ o' + n') : Subg g' b o' n' w w' :=
  ⟨h.os, h.tape, h.output, h.size, fun k hk hb hn => h.block k hk hb (fun e => hn (hg k e)), h.shape, fun k hk => h.cell k (by omega)⟩
theorem Subg.drewN {g : List Nat} {b o n : Nat} {w w' : World} (h : Subg g b o n w w') (q : Nat) : Subg g b o n w (w'.drewN q) := ⟨h.os, h.tape, h.output, h.size, h.block, h.shape, h.cell⟩
theorem Subg.below {g : List Nat} {b o n B : Nat} {w w' : World} (h : Subg g b o n w w') (hb : B ≤ b) (hg : ∀ x ∈ g, B ≤ x) (hw : B ≤ w.heap.size) : Below B w w' :=
  ⟨h.os, h.tape, h.output, h.size, fun k hk => h.block k (by omega) (by omega) (fun e => by have := hg k e; omega)⟩
theorem subg_below {w w' : World} {b : Nat} (h : Below w.heap.size w w') (hb : b < w.heap.size) (g : List Nat) (o n : Nat) : Subg g b o n w w' := (sub_of_below h hb o n).subg g
/-- What is kept of a block beside. -/
theorem subg_far {g : List Nat} {b o n k j : Nat} (w : World) (hk : k ∈ g) (hb : k ≠ b) (v : Value) : Subg g b o n w (w.setCell ⟨k, j, none⟩ v) :=
  ⟨rfl, rfl, rfl, by simp [World.setCell], fun i _ _ hn => Below.heap_setCell w ⟨k, j, none⟩ v i (fun e => hn (e ▸ hk)),
   fun c _ _ hc => ⟨c, (Below.heap_setCell w ⟨k, j, none⟩ v b (fun e => hb e.symm)).trans hc, rfl⟩, fun i _ => World.cell?_of_block (w := w) (Below.heap_setCell w ⟨k, j, none⟩ v b (fun e => hb e.symm))⟩
theorem subg_grown {g : List Nat} {b o n : Nat} {w w' : World} {row : Option Nat} (h : w.grownBy w' row) (hr : ∀ k, row = some k → k ∈ g) (hb : row ≠ some b) (hl : b < w.heap.size) : Subg g b o n w w' :=
  ⟨h.os, h.tape, h.output, h.size, fun k hk _ hn => h.block k hk (fun e => hn (hr k e.symm)),
   fun c _ _ hc => ⟨c, (h.block b hl (fun e => hb e.symm)).trans hc, rfl⟩, fun _ _ => World.cell?_of_block (w := w) (h.block b hl (fun e => hb e.symm))⟩
theorem Subg.frozen {g : List Nat} {b o n : Nat} {w w' : World} (h : Subg g b o n w w') (c : Array Value) (t : TypeId) (fr : Nat × Nat) (hc : w.heap[b]? = some (.cells c t fr)) (k : Nat) : w'.frozen? ⟨b, k, none⟩ = w.frozen? ⟨b, k, none⟩ := by
  obtain ⟨c', h', _⟩ := h.shape c t fr hc
  unfold World.frozen?
  simp only [hc, h']
theorem At.subg {g : List Nat} {w w' : World} {b o n o' : Nat} {vs : List Value} (h : At w b o' vs) (k : Subg g b o n w w') (hd : o' + vs.length ≤ o ∨ o + n ≤ o') : At w' b o' vs := fun j u hj => by
  have hlt : j < vs.length := (List.getElem?_eq_some_iff.1 hj).1
  obtain ⟨h1, h2⟩ := h j u hj
  obtain ⟨c, t, fr, hc, _⟩ := cell_block h1
  exact ⟨(k.cell _ (by omega)).trans h1, (k.frozen c t fr hc _).trans h2⟩
theorem Win.subg {g : List Nat} {b o n : Nat} {w w' : World} {e : TypeId} {sz m : Nat} {v : Value} {xs : List Value} (h : Win w e sz v m xs) (k : Subg g b o n w w') (hb : b ∉ Value.owner v) (hg : ∀ x ∈ Value.owner v, x ∉ g) : Win w' e sz v m xs :=
  h.keep fun x hx => k.block x (h.lt x hx) (fun e => hb (e ▸ hx)) (hg x hx)
end Go.Proofs.Ytebnhelejebobaa
/-
  Whole numbers that lie within their kind; x & 31; x | y of bits beside each other.
-/
namespace Go.Proofs.Ytebnhelejebobaa
open Go.RowKit
open Go.Lib
theorem wrapI_u64 (n : Int) (h0 : 0 ≤ n) (h1 : n < 18446744073709551616) : IntKind.u64.wrap n = n := by
  simp [IntKind.wrap, IntKind.bits, IntKind.signed]
  omega
theorem wrapI_u8 (n : Int) (h0 : 0 ≤ n) (h1 : n < 256) : IntKind.u8.wrap n = n := by
  simp [IntKind.wrap, IntKind.bits, IntKind.signed]
  omega
theorem wrapI_i64 (n : Int) (h0 : 0 ≤ n) (h1 : n < 9223372036854775808) : IntKind.i64.wrap n = n := by
  rw [IntKind.wrap_i64]
  omega
theorem and31 (x : Nat) (h : x < 256) : bits .and .u8 (x : Int) 31 = ((x % 32 : Nat) : Int) := by
  have h1 : (BitVec.ofInt 8 (x : Int)).toNat = x := by
    rw [BitVec.ofInt_natCast, BitVec.toNat_ofNat]; exact Nat.mod_eq_of_lt (by omega)
  have h2 : (BitVec.ofInt 8 (31 : Int)).toNat = 31 := by decide
  show IntKind.u8.wrap ((BitVec.ofInt 8 (x : Int) &&& BitVec.ofInt 8 (31 : Int)).toNat : Int) = _
  rw [BitVec.toNat_and, h1, h2, show 31 = 2 ^ 5 - 1 by decide, Nat.and_two_pow_sub_one_eq_mod, wrapI_u8 _ (by omega) (by omega)]
theorem or_u64 (a c k : Nat) (ha : a * 2 ^ k + c < 18446744073709551616) (hc : c < 2 ^ k) : bits .or .u64 ((a * 2 ^ k : Nat) : Int) (c : Int) = ((a * 2 ^ k + c : Nat) : Int) := by
  have h1 : (BitVec.ofInt 64 ((a * 2 ^ k : Nat) : Int)).toNat = a * 2 ^ k := by
    rw [BitVec.ofInt_natCast, BitVec.toNat_ofNat]; exact Nat.mod_eq_of_lt (by omega)
  have h2 : (BitVec.ofInt 64 (c : Int)).toNat = c := by
    rw [BitVec.ofInt_natCast, BitVec.toNat_ofNat]; exact Nat.mod_eq_of_lt (by omega)
  show IntKind.u64.wrap ((BitVec.ofInt 64 ((a * 2 ^ k : Nat) : Int) ||| BitVec.ofInt 64 (c : Int)).toNat : Int) = _
  rw [BitVec.toNat_or, h1, h2, show a * 2 ^ k = 2 ^ k * a by rw [Nat.mul_comm], ← Nat.two_pow_add_eq_or_of_lt hc, wrapI_u64 _ (by omega) (by rw [Nat.mul_comm]; omega)]
end Go.Proofs.Ytebnhelejebobaa
/-
  NO PROGRAM NEEDED: boxes (open containers) as cells.
-/
namespace Go.Proofs.Ytebnhelejebobaa
open Go.RowKit
open Go.Lib
/-- An open container's cells. -/
def bxL (b : Bx) : List Value := [.bool b.map, .int .i64 b.c, .int .i64 (b.have_ : Int)]
def bxsL : List Bx → List Value
  | [] => []
  | b :: r => bxsL r ++ bxL b
theorem bxsL_length : ∀ s : List Bx, (bxsL s).length = s.length * 3
  | [] => rfl
  | b :: r => by rw [bxsL, List.length_append, bxsL_length r]; simp [bxL]; omega
theorem bxsL_one : ∀ (s : List Bx) (u : Value), u ∈ bxsL s → u.oneCell' = true
  | [], u, h => by simp [bxsL] at h
  | b :: r, u, h => by
    rw [bxsL, List.mem_append] at h
    rcases h with h | h
    · exact bxsL_one r u h
    · simp [bxL] at h
      rcases h with rfl | rfl | rfl <;> rfl
end Go.Proofs.Ytebnhelejebobaa
/-
  CONTRACTS of package event's machine: a container's mayEnd; a document's atKey, end, take; Check.
-/
namespace Go.Proofs.Ytebnhelejebobaa
open Go.RowKit
open Go.Lib
/-- A document that is going on. -/
structure Doc (M B : Nat) (w : World) (d : Nat) (s : List Bx) (wh : Bool) (v : Value) : Prop where
  own : Blk w d #[v, .bool wh] 64
  win : Win w 95 3 v s.length (bxsL s)
  dB : B ≤ d
  vB : ∀ k ∈ Value.owner v, B ≤ k
  ok : ∀ b ∈ s, (-1 ≤ b.c ∧ b.c ≤ 9223372036854775807) ∧ b.have_ ≤ M
  deep : s.length ≤ 16
  most : M ≤ 1000
/-- The last container's cells. -/
theorem Doc.last {M B : Nat} {w : World} {d : Nat} {b : Bx} {r : List Bx} {wh : Bool} {v : Value} (h : Doc M B w d (b :: r) wh v) :
    ∃ g off N cap, v = .slice (some ⟨g, off, none⟩) N cap ∧ N = r.length + 1 ∧ N ≤ 9223372036854775807 ∧
      (w.cell? ⟨g, off + r.length * 3, none⟩ = some (.bool b.map) ∧ w.cell? ⟨g, off + r.length * 3 + 1, none⟩ = some (.int .i64 b.c) ∧ w.cell? ⟨g, off + r.length * 3 + 2, none⟩ = some (.int .i64 (b.have_ : Int))) ∧
      (w.frozen? ⟨g, off + r.length * 3, none⟩ = false ∧ w.frozen? ⟨g, off + r.length * 3 + 1, none⟩ = false ∧ w.frozen? ⟨g, off + r.length * 3 + 2, none⟩ = false) := by
  obtain ⟨g, off, cap, rfl, h1, h2, _, _, h3⟩ := h.win.form (by simp)
  have hl := bxsL_length r
  have hx : ∀ j u, (bxL b)[j]? = some u → w.cell? ⟨g, off + (r.length * 3 + j), none⟩ = some u ∧ w.frozen? ⟨g, off + (r.length * 3 + j), none⟩ = false := fun j u hu => by
    refine h3 _ u ?_
    rw [bxsL, ← hl, List.getElem?_append_right (by omega), Nat.add_sub_cancel_left]
    exact hu
  have x0 := hx 0 _ rfl
  have x1 := hx 1 _ rfl
  have x2 := hx 2 _ rfl
  simp only [← Nat.add_assoc, Nat.add_zero] at x0 x1 x2
  refine ⟨g, off, _, cap, rfl, by simp, ?_, ⟨x0.1, x1.1, x2.1⟩, ⟨x0.2, x1.2, x2.2⟩⟩
  unfold maxLen at h2
  simp only [List.length_cons] at h1 ⊢
  omega
theorem at_key (M B : Nat) (w : World) (d : Nat) (s : List Bx) (wh : Bool) (v : Value) (h : Doc M B w d s wh v) :
    Calls Try.prog 41 #[.pointer (some ⟨d, 0, none⟩)] w fun r w' => r = .returned (.bool (keyB s)) ∧ w' = w := by
  have c0 := h.own.cell 0
  cases s with
  | nil =>
    obtain ⟨a, cap, rfl, _, _⟩ := h.win.slice_form
    clear h
    go_enter Try.func41, Try.ntmps41
    go_wp2
    go_ret
    exact ⟨rfl, rfl⟩
  | cons b r =>
    have hr := Nat.le_trans (h.ok b (by simp)).2 h.most
    obtain ⟨g, off, N, cap, rfl, hN, hN2, ⟨x0, x1, x2⟩, ⟨y0, y1, y2⟩⟩ := h.last
    have hl : (N : Int) - 1 = (r.length : Int) := by omega
    have hl2 : 0 < N := by omega
    have hl3 : r.length < N := by omega
    have hm : (((b.have_ : Int) % 2 == 0) : Bool) = (b.have_ % 2 == 0) := by rw [Bool.eq_iff_iff, beq_iff_eq, beq_iff_eq]; omega
    have hk : keyB (b :: r) = (b.map && (b.have_ % 2 == 0)) := rfl
    rw [hk]
    obtain ⟨m, c, q⟩ := b
    simp only at *
    generalize (q % 2 == 0) = Q at *
    clear h hk hr hN
    generalize r.length = n at *
    cases m
    · go_enter Try.func41, Try.ntmps41
      go_wp2
      go_ret
      exact ⟨rfl, rfl⟩
    · go_enter Try.func41, Try.ntmps41
      go_wp2
      go_ret
      exact ⟨rfl, rfl⟩
theorem may_end (b : Bx) (hc : -1 ≤ b.c) (hq : b.have_ ≤ 1000) (w : World) :
    Calls Try.prog 52 #[.agg #[.bool b.map, .int .i64 b.c, .int .i64 (b.have_ : Int)]] w fun r w' => r = .returned (.bool (decide (¬ shutB b))) ∧ Below w.heap.size w w' := by
  obtain ⟨m, c, q⟩ := b
  have h1 := Lib.hid (up_alloc (Below.refl w.heap.size w) (.cells #[.bool m, .int .i64 c, .int .i64 (q : Int)] 95))
  simp only at *
  have hs : shutB ⟨m, c, q⟩ ↔ (0 ≤ c ∧ (q : Int) ≠ (if m then 2 * c else c)) ∨ (m = true ∧ q % 2 = 1) := Iff.rfl
  cases m
  · simp only [Bool.false_eq_true, if_false, false_and, or_false] at hs
    by_cases h : c = -1
    · subst h
      rw [decide_eq_true (p := ¬ shutB ⟨false, -1, q⟩) (fun h => by rw [hs] at h; omega)]
      clear hs
      go_enter Try.func52, Try.ntmps52
      go_wp2
      go_ret
      exact ⟨rfl, h1.out⟩
    · have e : decide (¬ shutB ⟨false, c, q⟩) = (c == (q : Int)) := by
        rw [Bool.eq_iff_iff, decide_eq_true_iff, beq_iff_eq, hs]
        omega
      rw [e]
      have hz : (c == -1) = false := by simpa using h
      clear hs h e
      go_enter Try.func52, Try.ntmps52
      go_wp2
      go_ret
      exact ⟨rfl, h1.out⟩
  · simp only [if_true, true_and] at hs
    by_cases h2 : q % 2 = 1
    · rw [decide_not, decide_eq_true (hs.2 (.inr h2)), Bool.not_true]
      have hz : (((q : Int) % 2) != 0) = true := by simp; omega
      clear hs h2
      go_enter Try.func52, Try.ntmps52
      go_wp2
      go_ret
      exact ⟨rfl, h1.out⟩
    · have hz : (((q : Int) % 2) != 0) = false := by simp; omega
      by_cases h : c = -1
      · subst h
        rw [decide_eq_true (p := ¬ shutB ⟨true, -1, q⟩) (fun h => by rw [hs] at h; omega)]
        clear hs h2
        go_enter Try.func52, Try.ntmps52
        go_wp2
        go_ret
        exact ⟨rfl, h1.out⟩
      · have e : decide (¬ shutB ⟨true, c, q⟩) = (c == (q : Int) / 2) := by
          rw [Bool.eq_iff_iff, decide_eq_true_iff, beq_iff_eq, hs]
          omega
        rw [e]
        have hz2 : (c == -1) = false := by simpa using h
        clear hs h e h2
        go_enter Try.func52, Try.ntmps52
        go_wp2
        go_ret
        exact ⟨rfl, h1.out⟩
theorem Doc.go {M B : Nat} {w w' : World} {d : Nat} {s : List Bx} {wh : Bool} {v : Value} (h : Doc M B w d s wh v) (k : Below w.heap.size w w') : Doc M B w' d s wh v :=
  ⟨h.own.go k, h.win.keep fun g hg => k.block g (h.win.lt g hg), h.dB, h.vB, h.ok, h.deep, h.most⟩
theorem Doc.apart {M B : Nat} {w : World} {d : Nat} {s : List Bx} {wh : Bool} {v : Value} (h : Doc M B w d s wh v) : d ∉ Value.owner v := h.win.apart h.own (by decide)
theorem Doc.lt {M B : Nat} {w : World} {d : Nat} {s : List Bx} {wh : Bool} {v : Value} (h : Doc M B w d s wh v) : B ≤ w.heap.size := Nat.le_trans h.dB (Nat.le_of_lt h.own.lt)
theorem ends_none (M B : Nat) (w : World) (d : Nat) (wh : Bool) (v : Value) (h : Doc M B w d [] wh v) :
    Calls Try.prog 40 #[.pointer (some ⟨d, 0, none⟩)] w fun r w' => r = .returned (.int .i64 2) ∧ Below w.heap.size w w' := by
  have c0 := h.own.cell 0
  obtain ⟨a, cap, rfl, _, _⟩ := h.win.slice_form
  clear h
  go_enter Try.func40, Try.ntmps40
  go_wp2
  go_ret
  exact ⟨rfl, Below.refl _ _⟩
set_option maxHeartbeats 1000000 in
theorem end_shut (M B : Nat) (w : World) (d : Nat) (b : Bx) (r : List Bx) (wh : Bool) (v : Value) (h : Doc M B w d (b :: r) wh v) (hs : shutB b) :
    Calls Try.prog 40 #[.pointer (some ⟨d, 0, none⟩)] w fun r w' => r = .returned (.int .i64 2) ∧ Below w.heap.size w w' := by
  have c0 := h.own.cell 0
  have hE := fun w => may_end b (h.ok b (by simp)).1.1 (Nat.le_trans (h.ok b (by simp)).2 h.most) w
  rw [decide_not, decide_eq_true hs, Bool.not_true] at hE
  obtain ⟨g, off, N, cap, rfl, hN, hN2, ⟨x0, x1, x2⟩, ⟨y0, y1, y2⟩⟩ := h.last
  have hl : (N : Int) - 1 = (r.length : Int) := by omega
  have hl3 : r.length < N := by omega
  obtain ⟨m, c, q⟩ := b
  simp only at *
  clear h hN hs
  have HE := Lib.hid hE
  clear hE
  generalize r.length = n at *
  go_enter Try.func40, Try.ntmps40
  go_wp2_with (go_at_call 52; refine (HE.out _).mono ?_; rintro e w1 ⟨rfl, hb⟩)
  go_ret
  exact ⟨rfl, hb⟩
set_option maxHeartbeats 1000000 in
theorem end_ok (M B : Nat) (w : World) (d : Nat) (b : Bx) (r : List Bx) (wh : Bool) (v : Value) (h : Doc M B w d (b :: r) wh v) (hs : ¬ shutB b) :
    Calls Try.prog 40 #[.pointer (some ⟨d, 0, none⟩)] w fun e w' => e = .returned (.int .i64 0) ∧ Below B w w' ∧ ∃ v', Doc M B w' d r (decide (r = [])) v' := by
  have hE := fun w => may_end b (h.ok b (by simp)).1.1 (Nat.le_trans (h.ok b (by simp)).2 h.most) w
  rw [decide_eq_true hs] at hE
  obtain ⟨v', hsl, hw', ho'⟩ := h.win.hi (P := Try.prog) (t := 62) Try.underlying62 (fun w => by kernel_rfl) r.length (by simp)
  rw [bxsL, ← bxsL_length, List.take_left] at hw'
  obtain ⟨a', cap', rfl, _, _⟩ := hw'.slice_form
  obtain ⟨g, off, N, cap, rfl, hN, hN2, ⟨x0, x1, x2⟩, ⟨y0, y1, y2⟩⟩ := h.last
  have c0 := h.own.cell 0
  have hl : (N : Int) - 1 = (r.length : Int) := by omega
  have hl3 : r.length < N := by omega
  have hr0 : (((r.length : Nat) : Int) == 0) = decide (r = []) := by
    cases r
    · rfl
    · simp; omega
  have H := Lib.hid h
  have HW := Lib.hid hw'
  have HO := Lib.hid ho'
  obtain ⟨m, c, q⟩ := b
  simp only at *
  clear h hN hs hw' ho'
  have HE := Lib.hid hE
  clear hE
  generalize hR : decide (r = []) = R at *
  generalize hn : r.length = n at *
  have HR := Lib.hid hR
  have HN := Lib.hid hn
  clear hR hn
  go_enter Try.func40, Try.ntmps40
  go_wp2_with fail
  refine (HE.out _).mono ?_
  rintro e w1 ⟨rfl, hb⟩
  have D1 := Lib.hid (H.out.go hb)
  have k0 := D1.out.own.cell 0
  have k1 := D1.out.own.cell 1
  have z0 := D1.out.own.froz 0
  have z1 := D1.out.own.froz 1
  have HB := Lib.hid (hb.mono H.out.lt)
  have HW1 := Lib.hid (HW.out.keep fun k hk => hb.block k (HW.out.lt k hk))
  clear hb
  go_wp2
  go_ret
  have b2 : Below B w ((w1.setCell ⟨d, 0, none⟩ (.slice a' n cap')).setCell ⟨d, 1, none⟩ (.bool R)) := (HB.out.setCell D1.out.dB _).setCell D1.out.dB _
  have hv : ∀ k ∈ Value.owner (.slice a' n cap'), B ≤ k := fun k hk => D1.out.vB k (HO.out ▸ hk)
  have ha : d ∉ Value.owner (.slice a' n cap') := fun hk => D1.out.apart (HO.out ▸ hk)
  refine ⟨rfl, b2, .slice a' n cap', ?_, ?_, D1.out.dB, hv, fun b hb => H.out.ok b (List.mem_cons_of_mem _ hb), Nat.le_trans (Nat.le_succ _) H.out.deep, H.out.most⟩
  · exact (D1.out.own.set 0 _).set 1 _
  · rw [HN.out]
    exact (HW1.out.setCell_far ha _).setCell_far ha _
end Go.Proofs.Ytebnhelejebobaa
/-
  NO PROGRAM NEEDED: a block as a whole, as cells from place 0 on.
-/
namespace Go.Proofs.Ytebnhelejebobaa
open Go.RowKit
open Go.Lib
theorem at_block {w : World} {b : Nat} {c : Array Value} {t : TypeId} (h : w.heap[b]? = some (.cells c t (0, 0))) : At w b 0 c.toList := fun j u hj => by
  refine ⟨?_, ?_⟩
  · unfold World.cell?
    simp only [h]
    simpa using hj
  · unfold World.frozen?
    simp only [h]
    simp
end Go.Proofs.Ytebnhelejebobaa
/-
  LAWS of chapter 15, over PinAll: PackinDeep.
-/
namespace Go.Proofs.Ytebnhelejebobaa
open Go.RowKit
open Go.Lib
theorem pdeep_cases (n D : Nat) : (D < n ∧ ∃ L : List Ev, L.length = D ∧ allPm D (List.replicate n 145 ++ [5]) = (L, 4)) ∨ (¬ D < n ∧ ∃ L : List Ev, L.length = 2 * n + 1 ∧ allPm D (List.replicate n 145 ++ [5]) = (L, 0)) := by
  by_cases h : D < n
  · exact .inl ⟨h, _, by simp, deepP_more D n h [5]⟩
  · exact .inr ⟨h, _, by simp; omega, deepP_all D n (by omega)⟩
set_option maxRecDepth 100000 in
set_option maxHeartbeats 4000000 in
theorem pdeep_in (H : PinAll) (n D : Nat) (w : World) (hn : 1 ≤ n ∧ n ≤ 20) (hD : 1 ≤ D ∧ D ≤ 16) :
    Calls Try.prog 6 #[.int .i64 n, .int .i64 D] w fun r w' => r = .returned (.bool true) ∧ Below w.heap.size w w' := by
  have h1 : ((n : Int) < 1) = False := by simp; omega
  have h2 : ((20 : Int) < (n : Int)) = False := by simp; omega
  have h3 : ((D : Int) < 1) = False := by simp; omega
  have h4 : ((16 : Int) < (D : Int)) = False := by simp; omega
  have hn20 : n ≤ 20 := hn.2
  have HA := Lib.hid (palive_any H w)
  have HJ := Lib.hid (fun W => H (List.replicate n 145 ++ [5]) D hD (by simp; omega) W)
  have HU : Hid (∀ k : Nat, List.replicate (k + 1) (145 : UInt8) = List.replicate k 145 ++ [145]) := Lib.hid (fun k => List.replicate_succ')
  have HC := Lib.hid (pdeep_cases n D)
  clear hn hD
  go_enter Try.func6, Try.ntmps6
  go_wp2_with fail
  refine HA.out.mono ?_
  rintro r w1 ⟨rfl, b1⟩
  have B1 := Lib.hid b1
  clear b1
  go_wp2
  go_loopw [5, 6] (fun s i wr => ∃ (k : Nat) (X : ByteArray), s = .string X ∧ i = .int .i64 k ∧ k ≤ n ∧ Hid (X = ⟨(List.replicate k (145 : UInt8)).toArray⟩) ∧ Hid (Below w.heap.size w wr)) (fun _ i _ => n - (RowKit.intOf i).toNat)
  case atStart => exact ⟨0, ⟨#[]⟩, rfl, rfl, by omega, Lib.hid rfl, B1⟩
  case round =>
    obtain ⟨k, X, rfl, rfl, hk, HX, HWR⟩ := hrel
    have hzX : X.size = k := by rw [HX.out, size_of]; simp
    by_cases hlt : k < n
    · have hz5 : ¬ 9223372036854775807 < X.size + 1 := by omega
      have HY : Hid (X ++ ⟨([145] : List UInt8).toArray⟩ = ⟨(List.replicate (k + 1) (145 : UInt8)).toArray⟩) := Lib.hid (by rw [HX.out, HU.out]; exact cat_of _ _)
      clear hzX
      go_wp2
      go_roundw
      case rel => exact ⟨k + 1, _, rfl, rfl, hlt, HY, HWR⟩
      case measure => simp [RowKit.intOf]; omega
    · obtain rfl : k = n := by omega
      have HX1 : Hid (X ++ ⟨#[5]⟩ = ⟨(List.replicate k (145 : UInt8) ++ [5]).toArray⟩) := Lib.hid (by rw [HX.out]; exact cat_of _ _)
      have hz1 : ¬ 9223372036854775807 < X.size + 1 := by omega
      have HJQ := HJ.out
      rw [← HX1.out] at HJQ
      rcases HC.out with ⟨hd, L, hL, hall⟩ | ⟨hd, L, hL, hall⟩
      · rw [hall] at HJQ
        simp only [hL] at HJQ
        have HJJ := Lib.hid HJQ
        have hd2 : ((D : Int) < (k : Int)) = True := by simp; omega
        clear HJQ hd hL hall hzX
        go_wp2_with fail
        refine (HJJ.out _).mono ?_
        rintro r w2 ⟨u, rfl, hM⟩
        obtain ⟨a, cp, rfl, _, _⟩ := hM.2.1.slice_form
        have HM := Lib.hid (up_trans HWR.out hM.1)
        clear hM
        go_wp2
        go_ret
        exact ⟨rfl, HM.out⟩
      · rw [hall] at HJQ
        simp only [hL] at HJQ
        have HJJ := Lib.hid HJQ
        have hd2 : ((D : Int) < (k : Int)) = False := by simp; omega
        clear HJQ hd hL hall hzX
        go_wp2_with fail
        refine (HJJ.out _).mono ?_
        rintro r w2 ⟨u, rfl, hM⟩
        obtain ⟨a, cp, rfl, _, _⟩ := hM.2.1.slice_form
        have HM := Lib.hid (up_trans HWR.out hM.1)
        have hq : (((2 * k + 1 : Nat) : Int) == wrap64 (wrap64 (2 * (k : Int)) + 1)) = true := by rw [beq_iff_eq]; unfold wrap64; omega
        clear hM
        generalize ((2 * k + 1 : Nat) : Int) = N at *
        go_wp2
        go_ret
        exact ⟨rfl, HM.out⟩
theorem pdeep_out (H : PinAll) (n d : Int) (w : World) (h : ¬ (1 ≤ n ∧ n ≤ 20 ∧ 1 ≤ d ∧ d ≤ 16)) :
    Calls Try.prog 6 #[.int .i64 n, .int .i64 d] w fun r w' => r = .returned (.bool true) ∧ Below w.heap.size w w' := by
  have key : ∀ c1 c2 c3 c4 : Prop, (n < 1) = c1 → ((20 : Int) < n) = c2 → (d < 1) = c3 → ((16 : Int) < d) = c4 →
      (c1 = True ∨ c1 = False ∧ c2 = True ∨ c1 = False ∧ c2 = False ∧ c3 = True ∨ c1 = False ∧ c2 = False ∧ c3 = False ∧ c4 = True) →
      Calls Try.prog 6 #[.int .i64 n, .int .i64 d] w fun r w' => r = .returned (.bool true) ∧ Below w.heap.size w w' := by
    intro c1 c2 c3 c4 e1 e2 e3 e4 hc
    have HA := Lib.hid (palive_any H w)
    clear h
    rcases hc with rfl | ⟨rfl, rfl⟩ | ⟨rfl, rfl, rfl⟩ | ⟨rfl, rfl, rfl, rfl⟩
    all_goals
      go_enter Try.func6, Try.ntmps6
      go_wp2_with fail
      refine HA.out.mono ?_
      rintro r w1 ⟨rfl, b1⟩
      have B1 := Lib.hid b1
      clear b1
      go_wp2
      go_ret
      exact ⟨rfl, B1.out⟩
  refine key _ _ _ _ rfl rfl rfl rfl ?_
  by_cases h1 : n < 1
  · exact .inl (eq_true h1)
  by_cases h2 : 20 < n
  · exact .inr (.inl ⟨eq_false h1, eq_true h2⟩)
  by_cases h3 : d < 1
  · exact .inr (.inr (.inl ⟨eq_false h1, eq_false h2, eq_true h3⟩))
  · exact .inr (.inr (.inr ⟨eq_false h1, eq_false h2, eq_false h3, eq_true (by omega)⟩))
theorem pdeep_row (H : PinAll) (n d : Int) (w : World) :
    Calls Try.prog 6 #[.int .i64 n, .int .i64 d] w fun r w' => r = .returned (.bool true) ∧ Below w.heap.size w w' := by
  by_cases h : 1 ≤ n ∧ n ≤ 20 ∧ 1 ≤ d ∧ d ≤ 16
  · obtain ⟨N, rfl⟩ : ∃ N : Nat, n = N := ⟨n.toNat, by omega⟩
    obtain ⟨D, rfl⟩ : ∃ D : Nat, d = D := ⟨d.toNat, by omega⟩
    exact pdeep_in H N D w (by omega) (by omega)
  · exact pdeep_out H n d w h
end Go.Proofs.Ytebnhelejebobaa
/-
  CONTRACT of truchmanref1.Big: the bytes of a number; a []byte made, written cell by cell, turned into a string.
-/
namespace Go.Proofs.Ytebnhelejebobaa
open Go.RowKit
open Go.Lib
/-- The row of a number's bytes when k of them are laid, from the last on. -/
def rowB (n k v : Nat) : List UInt8 := List.replicate (n - k) 0 ++ bigB k v
theorem rowB_zero (n v : Nat) : rowB n 0 v = List.replicate n 0 := by simp [rowB, bigB]
theorem rowB_all (n v : Nat) : rowB n n v = bigB n v := by simp [rowB]
theorem rowB_len (n k v : Nat) (h : k ≤ n) : (rowB n k v).length = n := by simp [rowB, bigB_length]; omega
theorem rowB_set (n k v : Nat) (h : k < n) : (rowB n k v).set (n - 1 - k) (UInt8.ofNat (v / 256 ^ k % 256)) = rowB n (k + 1) v := by
  have e : List.replicate (n - k) (0 : UInt8) = List.replicate (n - 1 - k) 0 ++ [0] := by
    rw [show n - k = (n - 1 - k) + 1 by omega, List.replicate_succ']
  unfold rowB
  rw [e, List.append_assoc, List.set_append_right _ _ (by simp)]
  simp [bigB, show n - (k + 1) = n - 1 - k by omega]
theorem bCells_set (l : List UInt8) (k : Nat) (b : UInt8) : (bCells l).set k (.int .u8 (b.toNat : Int)) = bCells (l.set k b) := by
  simp [bCells, List.map_set]
theorem at_new (w : World) (l : List UInt8) : At (w.alloc (.cells (Lib.byteCells l).toArray 5)) w.heap.size 0 (bCells l) := fun j u hj => by
  have hb : (w.alloc (.cells (Lib.byteCells l).toArray 5)).heap[w.heap.size]? = some (.cells (Lib.byteCells l).toArray 5 (0, 0)) := by
    show (w.heap.push _)[_]? = _
    rw [Array.getElem?_push, if_pos rfl]
  have hu : (Lib.byteCells l)[j]? = some u := hj
  refine ⟨?_, ?_⟩
  · simp only [World.cell?, hb, Nat.zero_add]
    simpa using hu
  · unfold World.frozen?
    rw [hb]
    simp
theorem conv_at {w : World} {g : Nat} {l : List UInt8} (n cap : Nat) (hl : l.length = n) (h : At w g 0 (bCells l)) :
    (convert 42 9 (.slice (some ⟨g, 0, none⟩) n cap)).run Try.prog w = .ok (.string ⟨l.toArray⟩) w := by
  have hby : Lib.Bytes w g 0 ⟨l.toArray⟩ := by
    intro i hi
    have hi' : i < l.length := by simpa [ByteArray.size] using hi
    have := (h i (.int .u8 l[i].toNat) (by simp [bCells, hi'])).1
    exact this
  have := run_convert_window (P := Try.prog) w 42 5 9 Try.underlying42 Try.underlying5 Try.underlying9 g 0 ⟨l.toArray⟩ hby 0 n cap (by simp [ByteArray.size]; omega)
  rw [Nat.zero_add] at this
  have e : ByteArray.extract ⟨l.toArray⟩ 0 (0 + n) = ⟨l.toArray⟩ := by
    apply ByteArray.ext
    apply Array.toList_inj.1
    rw [extract_data]
    show List.take _ l = l
    exact List.take_of_length_le (by omega)
  rw [this, e]
theorem and255 (x : Nat) (h : x < 18446744073709551616) : bits .and .u64 (x : Int) 255 = ((x % 256 : Nat) : Int) := by
  have h1 : (BitVec.ofInt 64 (x : Int)).toNat = x := by
    rw [BitVec.ofInt_natCast, BitVec.toNat_ofNat]; exact Nat.mod_eq_of_lt (by omega)
  have h2 : (BitVec.ofInt 64 (255 : Int)).toNat = 255 := by decide
  show IntKind.u64.wrap ((BitVec.ofInt 64 (x : Int) &&& BitVec.ofInt 64 (255 : Int)).toNat : Int) = _
  rw [BitVec.toNat_and, h1, h2, show 255 = 2 ^ 8 - 1 by decide, Nat.and_two_pow_sub_one_eq_mod, wrapI_u64 _ (by omega) (by omega)]
set_option maxHeartbeats 1000000 in
theorem rbig_any (v n : Nat) (hv : v < 18446744073709551616) (h1 : 1 ≤ n) (h8 : n ≤ 8) (w : World) :
    Calls Try.prog 23 #[.int .u64 v, .int .i64 n] w fun e w' => e = .returned (.string ⟨(bigB n v).toArray⟩) ∧ Below w.heap.size w w' := by
  have hmk := make_zero n (by omega) n rfl
  have g1 : ((n : Int) < 1) = False := by simp only [eq_iff_iff, iff_false]; omega
  have g2 : ((8 : Int) < n) = False := by simp only [eq_iff_iff, iff_false]; omega
  have HN : Hid (At (w.alloc (.cells (Lib.byteCells (List.replicate n 0)).toArray 5)) w.heap.size 0 (bCells (rowB n 0 v))) := Lib.hid (by rw [rowB_zero]; exact at_new w _)
  go_enter Try.func23, Try.ntmps23
  go_wp2
  go_loopw [0, 6] (fun x i wr => ∃ k : Nat, k ≤ n ∧ i = .int .i64 ((n : Int) - 1 - k) ∧ x = .int .u64 ((v / 256 ^ k : Nat) : Int) ∧ Hid (At wr w.heap.size 0 (bCells (rowB n k v)) ∧ Below w.heap.size w wr)) (fun _ i _ => (RowKit.intOf i + 1).toNat)
  case atStart => exact ⟨0, Nat.zero_le _, by simp, by simp, Lib.hid ⟨HN.out, (Below.refl _ _).alloc (Nat.le_refl _) _⟩⟩
  case round =>
    obtain ⟨k, hk, rfl, rfl, HP⟩ := hrel
    have hx : v / 256 ^ k < 18446744073709551616 := Nat.lt_of_le_of_lt (Nat.div_le_self _ _) hv
    by_cases hlt : k < n
    · have hc : ∃ u, wr.cell? ⟨w.heap.size, n - 1 - k, none⟩ = some u ∧ wr.frozen? ⟨w.heap.size, n - 1 - k, none⟩ = false := by
        have hl : n - 1 - k < (bCells (rowB n k v)).length := by rw [bCells_length, rowB_len _ _ _ hk]; omega
        have := HP.out.1 (n - 1 - k) _ (List.getElem?_eq_getElem hl)
        rw [Nat.zero_add] at this
        exact ⟨_, this⟩
      obtain ⟨u, hcell, hfroz⟩ := hc
      obtain ⟨j, hj⟩ : ∃ j, n - 1 - k = j := ⟨_, rfl⟩
      rw [hj] at hcell hfroz
      rw [show (n : Int) - 1 - k = (j : Int) by omega]
      obtain ⟨y, hy⟩ : ∃ y, v / 256 ^ k = y := ⟨_, rfl⟩
      rw [hy] at hx ⊢
      have hand := and255 y hx
      have hw8 : IntKind.u8.wrap ((y % 256 : Nat) : Int) = ((y % 256 : Nat) : Int) := wrapI_u8 _ (by omega) (by omega)
      have hdiv : Hid (((y : Int) / 256) = ((v / 256 ^ (k + 1) : Nat) : Int)) := Lib.hid (by
        rw [Nat.pow_succ, ← Nat.div_div_eq_div_mul, hy]
        omega)
      have HQ : Hid (At (wr.setCell ⟨w.heap.size, j, none⟩ (.int .u8 ((y % 256 : Nat) : Int))) w.heap.size 0 (bCells (rowB n (k + 1) v)) ∧ Below w.heap.size w (wr.setCell ⟨w.heap.size, j, none⟩ (.int .u8 ((y % 256 : Nat) : Int)))) := Lib.hid (by
        refine ⟨?_, HP.out.2.setCell (by simp) _⟩
        have := HP.out.1.set (n - 1 - k) (by rw [bCells_length, rowB_len _ _ _ hk]; omega) (.int .u8 ((y % 256 : Nat) : Int))
        rw [← byte_of y, ← hy, bCells_set, rowB_set n k v hlt, byte_of, hy, hj, Nat.zero_add] at this
        exact this)
      obtain ⟨z, hz⟩ : ∃ z, y % 256 = z := ⟨_, rfl⟩
      rw [hz] at hand hw8 HQ
      clear hy HP HN
      go_wp2
      go_roundw
      case rel => exact ⟨k + 1, by omega, by rw [← hj]; go_num, by rw [hdiv.out], HQ⟩
      case measure => simp [RowKit.intOf]
    · have hkn : k = n := by omega
      subst hkn
      rw [show (k : Int) - 1 - k = -1 by omega]
      have hcv : (convert 42 9 (.slice (some ⟨w.heap.size, 0, none⟩) k k)).run Try.prog wr = .ok (.string ⟨(bigB k v).toArray⟩) wr := by
        have := HP.out.1
        rw [rowB_all] at this
        exact conv_at k k (bigB_length k v) this
      go_wp2
      go_ret
      exact ⟨rfl, HP.out.2⟩
theorem rbig_out (v : Nat) (n : Int) (h : n < 1 ∨ 8 < n) (w : World) :
    Calls Try.prog 23 #[.int .u64 v, .int .i64 n] w fun e w' => e = .returned (.string ⟨#[]⟩) ∧ Below w.heap.size w w' := by
  by_cases h1 : n < 1
  · clear h
    go_enter Try.func23, Try.ntmps23
    go_wp2
    go_ret
    exact ⟨rfl, Below.refl _ _⟩
  · have h8 : 8 < n := by omega
    have g1 : (n < 1) = False := by simp only [eq_iff_iff, iff_false]; omega
    clear h h1
    go_enter Try.func23, Try.ntmps23
    go_wp2
    go_ret
    exact ⟨rfl, Below.refl _ _⟩
end Go.Proofs.Ytebnhelejebobaa
/-
  NO PROGRAM NEEDED: the order of numbers as digits.
-/
namespace Go.Proofs.Ytebnhelejebobaa
open Go.Lib
theorem lessb_cons (a b : UInt8) (x y : List UInt8) : Op.bytesLess (a :: x) (b :: y) = true ↔ a.toNat < b.toNat ∨ (a = b ∧ Op.bytesLess x y = true) := by
  rw [Op.bytesLess]
  simp only [Bool.or_eq_true, Bool.and_eq_true, beq_iff_eq, decide_eq_true_eq]
  rfl
theorem lessb_last (p q : UInt8) : ∀ x y : List UInt8, x.length = y.length → (Op.bytesLess (x ++ [p]) (y ++ [q]) = true ↔ Op.bytesLess x y = true ∨ (x = y ∧ p.toNat < q.toNat))
  | [], [], _ => by
    simp [Op.bytesLess]
    exact Iff.rfl
  | [], _ :: _, h => by simp at h
  | _ :: _, [], h => by simp at h
  | a :: x, b :: y, h => by
    have ih := lessb_last p q x y (by simpa using h)
    rw [List.cons_append, List.cons_append, lessb_cons, lessb_cons, ih]
    simp only [List.cons.injEq]
    constructor
    · rintro (h | ⟨h1, h2 | ⟨h2, h3⟩⟩)
      · exact .inl (.inl h)
      · exact .inl (.inr ⟨h1, h2⟩)
      · exact .inr ⟨⟨h1, h2⟩, h3⟩
    · rintro ((h | ⟨h1, h2⟩) | ⟨⟨h1, h2⟩, h3⟩)
      · exact .inl h
      · exact .inr ⟨h1, .inl h2⟩
      · exact .inr ⟨h1, .inr ⟨h2, h3⟩⟩
theorem lessb_irrefl (x : List UInt8) : ¬ Op.bytesLess x x = true := by
  induction x with
  | nil => simp [Op.bytesLess]
  | cons a t ih =>
    rw [lessb_cons]
    rintro (h | ⟨_, h⟩)
    · omega
    · exact ih h
theorem nDigits_mono : ∀ b a : Nat, b ≤ a → nDigits b ≤ nDigits a := by
  intro b
  induction b using Nat.strongRecOn with
  | _ b ih =>
    intro a h
    by_cases hb : b < 10
    · rw [nDigits_small hb]; exact nDigits_pos a
    · rw [nDigits_big hb, nDigits_big (show ¬ a < 10 by omega)]
      have := ih (b / 10) (by omega) (a / 10) (by omega)
      omega
theorem less_dec : ∀ a b : Nat, nDigits a = nDigits b → (Op.bytesLess (decDigits a) (decDigits b) = true ↔ a < b) := by
  intro a
  induction a using Nat.strongRecOn with
  | _ a ih =>
    intro b h
    by_cases ha : a < 10
    · have hb : b < 10 := by
        by_cases hb : b < 10
        · exact hb
        · rw [nDigits_small ha, nDigits_big hb] at h
          have := nDigits_pos (b / 10)
          omega
      rw [decDigits_one ha, decDigits_one hb, lessb_cons, dig_toNat a ha, dig_toNat b hb]
      simp [Op.bytesLess]
    · have hb : ¬ b < 10 := by
        intro hb
        rw [nDigits_small hb, nDigits_big ha] at h
        have := nDigits_pos (a / 10)
        omega
      rw [nDigits_big ha, nDigits_big hb] at h
      have i1 := ih (a / 10) (by omega) (b / 10) (by omega)
      rw [dec_big (by omega), dec_big (u := b) (by omega), lessb_last _ _ _ _ (by rw [decDigits_length, decDigits_length]; omega), i1, dig_toNat _ (by omega), dig_toNat _ (by omega)]
      constructor
      · rintro (h | ⟨h1, h2⟩)
        · omega
        · have n1 : ¬ a / 10 < b / 10 := by rw [← i1, h1]; exact lessb_irrefl _
          by_cases hlt : b / 10 < a / 10
          · have i2 := ih (b / 10) (by omega) (a / 10) (by omega)
            have := i2.2 hlt
            rw [h1] at this
            exact absurd this (lessb_irrefl _)
          · omega
      · intro h
        by_cases hlt : a / 10 < b / 10
        · exact .inl hlt
        · have he : a / 10 = b / 10 := by omega
          exact .inr ⟨by rw [he], by omega⟩
/-- The order that the law asks. -/
theorem order_dec (a b : Nat) : (nDigits a < nDigits b ∨ nDigits a = nDigits b ∧ Op.bytesLess (decDigits a) (decDigits b) = true) ↔ a < b := by
  constructor
  · rintro (h | ⟨h1, h2⟩)
    · by_cases hl : a < b
      · exact hl
      · have := nDigits_mono b a (by omega)
        omega
    · exact (less_dec a b h1).1 h2
  · intro h
    have := nDigits_mono a b (by omega)
    by_cases he : nDigits a = nDigits b
    · exact .inr ⟨he, (less_dec a b he).2 h⟩
    · exact .inl (by omega)
theorem nDigits_le (u : Nat) (h : u < 100000000000000000000) : nDigits u ≤ 20 := by
  have : nDigits u ≤ nDigits 99999999999999999999 := nDigits_mono _ _ (by omega)
  rw [show nDigits 99999999999999999999 = 20 from nDigits_unique 19 _ (by decide) (by decide)] at this
  exact this
theorem print_len (w : Bool × Nat) (h : w.2 < 18446744073709551616) : (printD w).length ≤ 21 := by
  obtain ⟨m, v⟩ := w
  unfold printD
  have h : v < 18446744073709551616 := h
  cases m with
  | true =>
    simp only [if_true, List.length_cons, decDigits_length]
    have := nDigits_le (v + 1) (by omega)
    omega
  | false =>
    simp only [Bool.false_eq_true, if_false, decDigits_length]
    have := nDigits_le v (by omega)
    omega
/-- The bytes of a number are digits, or a minus. -/
theorem dec_bytes : ∀ u : Nat, ∀ b ∈ decDigits u, 48 ≤ b.toNat ∧ b.toNat ≤ 57 := by
  intro u
  induction u using Nat.strongRecOn with
  | _ u ih =>
    intro b hb
    by_cases h : u < 10
    · rw [decDigits_one h] at hb
      simp only [List.mem_singleton] at hb
      subst hb
      rw [dig_toNat u h]
      omega
    · rw [dec_big (by omega)] at hb
      rcases List.mem_append.1 hb with hb | hb
      · exact ih (u / 10) (by omega) b hb
      · simp only [List.mem_singleton] at hb
        subst hb
        rw [dig_toNat _ (by omega)]
        omega
end Go.Proofs.Ytebnhelejebobaa
/-
  CONTRACTS of the documents own Digits and Print.
-/
namespace Go.Proofs.Ytebnhelejebobaa
open Go.RowKit
open Go.Lib
/-- An empty text counts one. -/
def emptyV : Value → Nat
  | .string s => if s.size = 0 then 1 else 0
  | _ => 0
/-- Of a number's digits the last ones are there. -/
def DigMid (v v' : Nat) (s : List UInt8) : Prop := (s = [] ∧ v' = v) ∨ (s ≠ [] ∧ decDigits v = (if v' = 0 then [] else decDigits v') ++ s)
theorem dig_next {v v' : Nat} {s : List UInt8} (h : DigMid v v' s) (hg : 0 < v' ∨ s = []) : DigMid v (v' / 10) (UInt8.ofNat (48 + v' % 10) :: s) := by
  right
  refine ⟨by simp, ?_⟩
  have one : ∀ u : Nat, decDigits u = (if u / 10 = 0 then [] else decDigits (u / 10)) ++ [UInt8.ofNat (48 + u % 10)] := by
    intro u
    by_cases hu : u < 10
    · rw [decDigits_one (i := u) hu, if_pos (by omega), show u % 10 = u by omega]
      rfl
    · rw [if_neg (by omega), ← dec_big (by omega)]
  rcases h with ⟨rfl, rfl⟩ | ⟨hs, he⟩
  · exact one _
  · have hv : v' ≠ 0 := by
      rcases hg with h | h
      · omega
      · exact absurd h hs
    rw [he, if_neg hv, one v', List.append_assoc]
    rfl
theorem dig_len {v v' : Nat} {s : List UInt8} (hv : v < 18446744073709551617) (h : DigMid v v' s) : s.length ≤ 20 := by
  have hl : (decDigits v).length ≤ 20 := by
    rw [decDigits_length]
    exact nDigits_le v (by omega)
  rcases h with ⟨rfl, _⟩ | ⟨_, he⟩
  · simp
  · rw [he, List.length_append] at hl
    omega
set_option maxHeartbeats 1000000 in
theorem rdigits_any (v : Nat) (hv : v < 18446744073709551616) (w : World) :
    Calls Try.prog 53 #[.int .u64 v] w fun e w' => e = .returned (.string ⟨(decDigits v).toArray⟩) ∧ Below w.heap.size w w' := by
  obtain ⟨R, hR⟩ : ∃ R : ByteArray, (⟨(decDigits v).toArray⟩ : ByteArray) = R := ⟨_, rfl⟩
  rw [hR]
  have HR := Lib.hid hR
  clear hR
  go_enter Try.func53, Try.ntmps53
  go_wp2
  go_loopw [0, 3] (fun x s wr => ∃ (v' : Nat) (l : List UInt8) (S : ByteArray), x = .int .u64 v' ∧ s = .string S ∧ v' ≤ v ∧ Hid (S = ⟨l.toArray⟩ ∧ DigMid v v' l ∧ Below w.heap.size w wr)) (fun x s _ => 2 * (RowKit.intOf x).toNat + emptyV s)
  case atStart => exact ⟨v, [], ⟨#[]⟩, rfl, rfl, Nat.le_refl _, Lib.hid ⟨rfl, .inl ⟨rfl, rfl⟩, Below.refl _ _⟩⟩
  case round =>
    obtain ⟨v', l, S, rfl, rfl, hle, HM⟩ := hrel
    have hSl : S.size = l.length := by rw [HM.out.1]; exact size_of l
    have h20 : S.size ≤ 20 := by rw [hSl]; exact dig_len (by omega) HM.out.2.1
    by_cases hgo : 0 < v' ∨ l = []
    · have hc := conv_new wr [UInt8.ofNat (48 + v' % 10)] #[.int .u8 (48 + (v' : Int) % 10)] 1 rfl (by
        simp only [Lib.byteCells, List.map_cons, List.map_nil, toNat_ofNat (48 + v' % 10) (by omega)]
        congr 2) ⟨#[UInt8.ofNat (48 + v' % 10)]⟩ rfl
      obtain ⟨Y, hY⟩ : ∃ Y : ByteArray, Y = ⟨#[UInt8.ofNat (48 + v' % 10)]⟩ := ⟨_, rfl⟩
      rw [← hY] at hc
      have hYs : Y.size = 1 := by rw [hY]; rfl
      have hZ : Y ++ S = ⟨(UInt8.ofNat (48 + v' % 10) :: l).toArray⟩ := by rw [hY, HM.out.1]; exact cat_of [_] l
      obtain ⟨Z, hZZ⟩ : ∃ Z, Y ++ S = Z := ⟨_, rfl⟩
      have hZs : Z.size ≠ 0 := by rw [← hZZ, hZ, size_of]; simp
      have HN : Hid (Z = ⟨(UInt8.ofNat (48 + v' % 10) :: l).toArray⟩ ∧ DigMid v (v' / 10) (UInt8.ofNat (48 + v' % 10) :: l) ∧ Below w.heap.size w (wr.alloc (.cells #[.int .u8 (48 + (v' : Int) % 10)] 5))) :=
        Lib.hid ⟨by rw [← hZZ]; exact hZ, dig_next HM.out.2.1 hgo, HM.out.2.2.alloc HM.out.2.2.size _⟩
      have hem : emptyV (.string Z) = 0 := by simp only [emptyV]; rw [if_neg hZs]
      have HE := Lib.hid hem
      have hHS : emptyV (.string S) = if S.size = 0 then 1 else 0 := rfl
      have HHS := Lib.hid (And.intro hHS (And.intro hSl hgo))
      clear hem hHS hZ hY hZs hSl
      by_cases h0 : 0 < v'
      · have h0' : ((0 : Int) < (v' : Int)) = True := by simp only [eq_iff_iff, iff_true]; omega
        clear hgo
        go_wp2
        go_roundw
        case rel => exact ⟨v' / 10, _, Z, by go_num, rfl, by omega, HN⟩
        case measure => rw [HE.out]; simp [RowKit.intOf]; omega
      · obtain rfl : v' = 0 := by omega
        have hl0 : l = [] := by rcases hgo with h | h; omega; exact h
        have hS0 : S.size = 0 := by rw [HHS.out.2.1, hl0]; rfl
        have e1 : (S.toList = []) = True := by
          simp only [eq_iff_iff, iff_true]
          rw [ByteArray.toList_eq, ← List.length_eq_zero_iff, size_list]
          exact hS0
        have e2 : S.toList.isEmpty = true := by rw [List.isEmpty_iff]; simpa using e1
        have HS0 := Lib.hid hS0
        have hc0 : (convert 42 9 (.slice (some ⟨wr.heap.size, 0, none⟩) 1 1)).run Try.prog (wr.alloc (.cells #[.int .u8 48] 5)) = .ok (.string Y) (wr.alloc (.cells #[.int .u8 48] 5)) := hc
        have HN0 : Hid (Z = ⟨(UInt8.ofNat (48 + 0 % 10) :: l).toArray⟩ ∧ DigMid v 0 (UInt8.ofNat (48 + 0 % 10) :: l) ∧ Below w.heap.size w (wr.alloc (.cells #[.int .u8 48] 5))) := HN
        clear hgo hl0 hS0 h0 hc
        go_wp2
        go_roundw
        case rel => exact ⟨0, _, Z, by go_num, rfl, by omega, HN0⟩
        case measure => rw [HE.out, HHS.out.1, if_pos HS0.out]; simp [RowKit.intOf]
    · have hv0 : v' = 0 := by omega
      have hl0 : l ≠ [] := fun h => hgo (.inr h)
      have hne : S.size ≠ 0 := by rw [hSl]; exact fun h => hl0 (List.length_eq_zero_iff.1 h)
      have e1 : (S.toList = []) = False := by
        simp only [eq_iff_iff, iff_false]
        rw [ByteArray.toList_eq, ← List.length_eq_zero_iff, size_list]
        exact hne
      have e2 : S.toList.isEmpty = false := by
        rw [Bool.eq_false_iff]
        intro h
        rw [List.isEmpty_iff] at h
        simp [h] at e1
      have hRS : S = R := by
        rw [← HR.out, HM.out.1]
        rcases HM.out.2.1 with ⟨h, _⟩ | ⟨_, h⟩
        · exact absurd h hl0
        · rw [h, if_pos hv0]
          rfl
      subst hv0
      have HB := Lib.hid (And.intro hRS HM.out.2.2)
      clear hgo hl0 hne hSl HM hRS
      go_wp2
      go_ret
      exact ⟨by rw [HB.out.1]; rfl, HB.out.2⟩
theorem dec_top : decDigits 18446744073709551616 = [49, 56, 52, 52, 54, 55, 52, 52, 48, 55, 51, 55, 48, 57, 53, 53, 49, 54, 49, 54] := by
  simp [decDigits]
set_option maxHeartbeats 1000000 in
theorem rprint_any (m : Bool) (v : Nat) (hv : v < 18446744073709551616) (w : World) :
    Calls Try.prog 42 #[.agg #[.bool m, .int .u64 v]] w fun e w' => e = .returned (.string ⟨(printD (m, v)).toArray⟩) ∧ Below w.heap.size w w' := by
  cases m with
  | false =>
    have HD : Hid (∀ W, Calls Try.prog 53 #[.int .u64 v] W fun e w' => e = .returned (.string ⟨(printD (false, v)).toArray⟩) ∧ Below W.heap.size W w') := Lib.hid (fun W => rdigits_any v hv W)
    have HB := Lib.hid (fun x => (Below.refl w.heap.size w).alloc (Nat.le_refl _) x)
    generalize (⟨(printD (false, v)).toArray⟩ : ByteArray) = Z at *
    go_enter Try.func42, Try.ntmps42
    go_wp2_with fail
    refine (HD.out _).mono ?_
    rintro e w1 ⟨rfl, hb⟩
    have HB1 := Lib.hid (up_trans (HB.out _) hb)
    clear hb
    go_wp2
    go_ret
    exact ⟨rfl, HB1.out⟩
  | true =>
    by_cases hm : v = 18446744073709551615
    · subst hm
      have hz : (⟨(printD (true, 18446744073709551615)).toArray⟩ : ByteArray) = ⟨#[45, 49, 56, 52, 52, 54, 55, 52, 52, 48, 55, 51, 55, 48, 57, 53, 53, 49, 54, 49, 54]⟩ := by
        show (⟨(45 :: decDigits 18446744073709551616).toArray⟩ : ByteArray) = _
        rw [dec_top]
      rw [hz]
      have HB := Lib.hid (fun x => (Below.refl w.heap.size w).alloc (Nat.le_refl _) x)
      clear hz
      go_enter Try.func42, Try.ntmps42
      go_wp2
      go_ret
      exact ⟨rfl, HB.out _⟩
    · have hz : ((v : Int) == 18446744073709551615) = false := by rw [beq_eq_false_iff_ne]; omega
      have hw : IntKind.u64.wrap ((v : Int) + 1) = ((v + 1 : Nat) : Int) := by rw [wrap_u64_of _ (by omega) (by omega)]; omega
      have HD := Lib.hid (fun W => rdigits_any (v + 1) (by omega) W)
      have hcat : (⟨#[45]⟩ : ByteArray) ++ ⟨(decDigits (v + 1)).toArray⟩ = ⟨(printD (true, v)).toArray⟩ := cat_of [45] _
      have hsz : (⟨(decDigits (v + 1)).toArray⟩ : ByteArray).size ≤ 20 := by rw [size_of, decDigits_length]; exact nDigits_le _ (by omega)
      have HB := Lib.hid (fun x => (Below.refl w.heap.size w).alloc (Nat.le_refl _) x)
      generalize (⟨(decDigits (v + 1)).toArray⟩ : ByteArray) = Y at *
      generalize (⟨(printD (true, v)).toArray⟩ : ByteArray) = Z at *
      generalize v + 1 = v1 at *
      have HC := Lib.hid hcat
      clear hcat
      go_enter Try.func42, Try.ntmps42
      go_wp2_with fail
      refine (HD.out _).mono ?_
      rintro e w1 ⟨rfl, hb⟩
      have HB1 := Lib.hid (up_trans (HB.out _) hb)
      clear hb
      have hcat := HC.out
      go_wp2
      go_ret
      exact ⟨rfl, HB1.out⟩
end Go.Proofs.Ytebnhelejebobaa
/-
  CONTRACT of the documents own Write: the inside of a text's string.
-/
namespace Go.Proofs.Ytebnhelejebobaa
open Go.RowKit
open Go.Lib
theorem slice_one (s : ByteArray) (k : Nat) (h : k < s.size) (x : UInt8) (hx : s[k]'h = x) (W : World) : (Instr.slice 9 (.string s) (some (.int .i64 (k : Int))) (some (.int .i64 ((k : Int) + 1))) none).run Try.prog W = .ok (.string ⟨#[x]⟩) W := by
  have h1 := slice_str_lh s k (k + 1) (by omega) (by omega) W
  rw [show (((k + 1 : Nat) : Int)) = (k : Int) + 1 by omega] at h1
  rw [h1]
  have : s.extract k (k + 1) = ⟨#[x]⟩ := by
    apply ByteArray.ext
    apply Array.ext'
    rw [ext_list, List.take_add_one, List.getElem?_eq_getElem (by rw [size_list]; exact h), List.drop_append_of_le_length (by rw [List.length_take, size_list]; omega)]
    have : s.data.toList[k]'(by rw [size_list]; exact h) = x := hx
    rw [this, List.drop_of_length_le (by rw [List.length_take, size_list]; omega)]
    rfl
  rw [this]
theorem lit_hex : ∀ (n : Fin 16) (h : n.val < (⟨#[48, 49, 50, 51, 52, 53, 54, 55, 56, 57, 97, 98, 99, 100, 101, 102]⟩ : ByteArray).size), (⟨#[48, 49, 50, 51, 52, 53, 54, 55, 56, 57, 97, 98, 99, 100, 101, 102]⟩ : ByteArray)[n.val]'h = hexD n.val := by decide +kernel
/-- Where the document's Write stands: the text so far. -/
def WrM (l : List UInt8) (q : Nat) (T : ByteArray) : Prop := T = ⟨(escW (l.take q)).toArray⟩
theorem wrm_size {l : List UInt8} {q : Nat} {T : ByteArray} (h : WrM l q T) : T.size ≤ 6 * q := by
  rw [h, size_of]
  have := escW_len (l.take q)
  rw [List.length_take] at this
  omega
theorem wrm_next {l : List UInt8} {q : Nat} {T : ByteArray} (h : WrM l q T) (hq : q < l.length) {x : UInt8} (hx : l[q] = x) : WrM l (q + 1) (T ++ ⟨(escB x).toArray⟩) := by
  unfold WrM at h ⊢
  rw [h, cat_of, List.take_add_one, List.getElem?_eq_getElem hq, hx, escW_append]
  simp [escW]
set_option maxRecDepth 100000 in
set_option maxHeartbeats 4000000 in
theorem rwrite_any (S : ByteArray) (hS : S.size ≤ 1000) (w : World) :
    Calls Try.prog 43 #[.string S] w fun e w' => e = .returned (.string ⟨(escW S.data.toList).toArray⟩) ∧ Below w.heap.size w w' := by
  obtain ⟨R, hR⟩ : ∃ R : ByteArray, (⟨(escW S.data.toList).toArray⟩ : ByteArray) = R := ⟨_, rfl⟩
  rw [hR]
  have HR := Lib.hid hR
  clear hR
  go_enter Try.func43, Try.ntmps43
  go_wp2
  go_loopw [3, 4, 5] (fun t i _ wr => ∃ (q : Nat) (T : ByteArray), t = .string T ∧ i = .int .i64 q ∧ q ≤ S.size ∧ Hid (WrM S.data.toList q T ∧ Below w.heap.size w wr)) (fun _ i _ _ => S.size - (RowKit.intOf i).toNat)
  case atStart => exact ⟨0, ⟨#[]⟩, rfl, rfl, by omega, Lib.hid ⟨rfl, Below.refl _ _⟩⟩
  case round =>
    obtain ⟨q, T, rfl, rfl, hq, HM⟩ := hrel
    have hT6 : T.size ≤ 6000 := by have := wrm_size HM.out.1; omega
    by_cases hlt : q < S.size
    · obtain ⟨x, hx⟩ : ∃ x, S[q]'hlt = x := ⟨_, rfl⟩
      have hql : q < S.data.toList.length := by rw [size_list]; exact hlt
      have hlq : S.data.toList[q] = x := hx
      have HN := Lib.hid (wrm_next HM.out.1 hql hlq)
      have HB := Lib.hid HM.out.2
      have hsl := slice_one S q hlt x hx
      clear HM hql hlq
      by_cases c1 : x.toNat = 34 ∨ x.toNat = 92
      · have he : escB x = [92, x] := by unfold escB; rw [if_pos c1]
        obtain ⟨X, hX⟩ : ∃ X : ByteArray, (⟨#[x]⟩ : ByteArray) = X := ⟨_, rfl⟩
        obtain ⟨U, hU⟩ : ∃ U : ByteArray, T ++ ⟨#[92]⟩ = U := ⟨_, rfl⟩
        obtain ⟨Z, hZ⟩ : ∃ Z : ByteArray, U ++ X = Z := ⟨_, rfl⟩
        have hXs : X.size = 1 := by rw [← hX]; rfl
        have hUs : U.size ≤ 6001 := by rw [← hU, ByteArray.size_append]; show T.size + 1 ≤ 6001; omega
        have HNZ : Hid (WrM S.data.toList (q + 1) Z) := Lib.hid (by
          have h := HN.out
          rw [he] at h
          rw [← hZ, ← hU, ← hX, ByteArray.append_assoc]
          exact h)
        simp only [hX] at hsl
        clear hX he HN
        rcases c1 with c1 | c1
        · have n34 : ((x.toNat : Int) == 34) = true := by rw [beq_iff_eq]; omega
          clear c1
          go_wp2
          go_roundw
          case rel => exact ⟨q + 1, Z, rfl, by go_num, by omega, Lib.hid ⟨HNZ.out, HB.out⟩⟩
          case measure => simp [RowKit.intOf]; omega
        · have n34 : ((x.toNat : Int) == 34) = false := by rw [beq_eq_false_iff_ne]; omega
          have n92 : ((x.toNat : Int) == 92) = true := by rw [beq_iff_eq]; omega
          clear c1
          go_wp2
          go_roundw
          case rel => exact ⟨q + 1, Z, rfl, by go_num, by omega, Lib.hid ⟨HNZ.out, HB.out⟩⟩
          case measure => simp [RowKit.intOf]; omega
      have n34 : ((x.toNat : Int) == 34) = false := by rw [beq_eq_false_iff_ne]; omega
      have n92 : ((x.toNat : Int) == 92) = false := by rw [beq_eq_false_iff_ne]; omega
      by_cases k8 : x.toNat = 8
      · have n8 : ((x.toNat : Int) == 8) = true := by rw [beq_iff_eq]; omega
        have he : escB x = [92, 98] := by unfold escB; rw [if_neg c1]; rw [if_pos k8]
        obtain ⟨Z, hZ⟩ : ∃ Z : ByteArray, T ++ ⟨#[92, 98]⟩ = Z := ⟨_, rfl⟩
        have HNZ : Hid (WrM S.data.toList (q + 1) Z) := Lib.hid (by
          have h := HN.out
          rw [he] at h
          rw [← hZ]
          exact h)
        clear hsl he HN c1 k8
        go_wp2
        go_roundw
        case rel => exact ⟨q + 1, Z, rfl, by go_num, by omega, Lib.hid ⟨HNZ.out, HB.out⟩⟩
        case measure => simp [RowKit.intOf]; omega
      have n8 : ((x.toNat : Int) == 8) = false := by rw [beq_eq_false_iff_ne]; omega
      by_cases k12 : x.toNat = 12
      · have n12 : ((x.toNat : Int) == 12) = true := by rw [beq_iff_eq]; omega
        have he : escB x = [92, 102] := by unfold escB; rw [if_neg c1]; rw [if_neg k8]; rw [if_pos k12]
        obtain ⟨Z, hZ⟩ : ∃ Z : ByteArray, T ++ ⟨#[92, 102]⟩ = Z := ⟨_, rfl⟩
        have HNZ : Hid (WrM S.data.toList (q + 1) Z) := Lib.hid (by
          have h := HN.out
          rw [he] at h
          rw [← hZ]
          exact h)
        clear hsl he HN c1 k8 k12
        go_wp2
        go_roundw
        case rel => exact ⟨q + 1, Z, rfl, by go_num, by omega, Lib.hid ⟨HNZ.out, HB.out⟩⟩
        case measure => simp [RowKit.intOf]; omega
      have n12 : ((x.toNat : Int) == 12) = false := by rw [beq_eq_false_iff_ne]; omega
      by_cases k10 : x.toNat = 10
      · have n10 : ((x.toNat : Int) == 10) = true := by rw [beq_iff_eq]; omega
        have he : escB x = [92, 110] := by unfold escB; rw [if_neg c1]; rw [if_neg k8]; rw [if_neg k12]; rw [if_pos k10]
        obtain ⟨Z, hZ⟩ : ∃ Z : ByteArray, T ++ ⟨#[92, 110]⟩ = Z := ⟨_, rfl⟩
        have HNZ : Hid (WrM S.data.toList (q + 1) Z) := Lib.hid (by
          have h := HN.out
          rw [he] at h
          rw [← hZ]
          exact h)
        clear hsl he HN c1 k8 k12 k10
        go_wp2
        go_roundw
        case rel => exact ⟨q + 1, Z, rfl, by go_num, by omega, Lib.hid ⟨HNZ.out, HB.out⟩⟩
        case measure => simp [RowKit.intOf]; omega
      have n10 : ((x.toNat : Int) == 10) = false := by rw [beq_eq_false_iff_ne]; omega
      by_cases k13 : x.toNat = 13
      · have n13 : ((x.toNat : Int) == 13) = true := by rw [beq_iff_eq]; omega
        have he : escB x = [92, 114] := by unfold escB; rw [if_neg c1]; rw [if_neg k8]; rw [if_neg k12]; rw [if_neg k10]; rw [if_pos k13]
        obtain ⟨Z, hZ⟩ : ∃ Z : ByteArray, T ++ ⟨#[92, 114]⟩ = Z := ⟨_, rfl⟩
        have HNZ : Hid (WrM S.data.toList (q + 1) Z) := Lib.hid (by
          have h := HN.out
          rw [he] at h
          rw [← hZ]
          exact h)
        clear hsl he HN c1 k8 k12 k10 k13
        go_wp2
        go_roundw
        case rel => exact ⟨q + 1, Z, rfl, by go_num, by omega, Lib.hid ⟨HNZ.out, HB.out⟩⟩
        case measure => simp [RowKit.intOf]; omega
      have n13 : ((x.toNat : Int) == 13) = false := by rw [beq_eq_false_iff_ne]; omega
      by_cases k9 : x.toNat = 9
      · have n9 : ((x.toNat : Int) == 9) = true := by rw [beq_iff_eq]; omega
        have he : escB x = [92, 116] := by unfold escB; rw [if_neg c1]; rw [if_neg k8]; rw [if_neg k12]; rw [if_neg k10]; rw [if_neg k13]; rw [if_pos k9]
        obtain ⟨Z, hZ⟩ : ∃ Z : ByteArray, T ++ ⟨#[92, 116]⟩ = Z := ⟨_, rfl⟩
        have HNZ : Hid (WrM S.data.toList (q + 1) Z) := Lib.hid (by
          have h := HN.out
          rw [he] at h
          rw [← hZ]
          exact h)
        clear hsl he HN c1 k8 k12 k10 k13 k9
        go_wp2
        go_roundw
        case rel => exact ⟨q + 1, Z, rfl, by go_num, by omega, Lib.hid ⟨HNZ.out, HB.out⟩⟩
        case measure => simp [RowKit.intOf]; omega
      have n9 : ((x.toNat : Int) == 9) = false := by rw [beq_eq_false_iff_ne]; omega
      by_cases k32 : x.toNat < 32
      · have n32 : (((x.toNat : Nat) : Int) < 32) = True := by simp only [eq_iff_iff, iff_true]; omega
        have he : escB x = [92, 117, 48, 48, hexD (x.toNat / 16), hexD (x.toNat % 16)] := by unfold escB; rw [if_neg c1]; rw [if_neg k8]; rw [if_neg k12]; rw [if_neg k10]; rw [if_neg k13]; rw [if_neg k9]; rw [if_pos k32]
        obtain ⟨U, hU⟩ : ∃ U : ByteArray, T ++ ⟨#[92, 117, 48, 48]⟩ = U := ⟨_, rfl⟩
        obtain ⟨H, hH⟩ : ∃ H : ByteArray, (⟨#[hexD (x.toNat / 16), hexD (x.toNat % 16)]⟩ : ByteArray) = H := ⟨_, rfl⟩
        obtain ⟨Z, hZ⟩ : ∃ Z : ByteArray, U ++ H = Z := ⟨_, rfl⟩
        have hHs : H.size = 2 := by rw [← hH]; rfl
        have hUs : U.size ≤ 6004 := by rw [← hU, ByteArray.size_append]; show T.size + 4 ≤ 6004; omega
        have HNZ : Hid (WrM S.data.toList (q + 1) Z) := Lib.hid (by
          have h := HN.out
          rw [he] at h
          rw [← hZ, ← hU, ← hH, ByteArray.append_assoc]
          exact h)
        have hcv : ∀ W : World, (convert 42 9 (.slice (some ⟨W.heap.size, 0, none⟩) 2 2)).run Try.prog (W.alloc (.cells #[.int .u8 (hexD (x.toNat / 16)).toNat, .int .u8 (hexD (x.toNat % 16)).toNat] 5)) = .ok (.string H) (W.alloc (.cells #[.int .u8 (hexD (x.toNat / 16)).toNat, .int .u8 (hexD (x.toNat % 16)).toNat] 5)) :=
          fun W => conv_new W [hexD (x.toNat / 16), hexD (x.toNat % 16)] _ 2 rfl rfl H hH.symm
        have hd : x.toNat % 16 < 16 := by omega
        have hda : x.toNat / 16 < 16 := by omega
        have h1 : ∀ h, (⟨#[48, 49, 50, 51, 52, 53, 54, 55, 56, 57, 97, 98, 99, 100, 101, 102]⟩ : ByteArray)[x.toNat / 16]'h = hexD (x.toNat / 16) := fun h => lit_hex ⟨x.toNat / 16, by omega⟩ h
        have h2 : ∀ h, (⟨#[48, 49, 50, 51, 52, 53, 54, 55, 56, 57, 97, 98, 99, 100, 101, 102]⟩ : ByteArray)[x.toNat % 16]'h = hexD (x.toNat % 16) := fun h => lit_hex ⟨x.toNat % 16, hd⟩ h
        clear hsl he HN c1 k8 k12 k10 k13 k9 k32 hH
        obtain ⟨a, hae⟩ : ∃ a, x.toNat / 16 = a := ⟨_, rfl⟩
        obtain ⟨d, hde⟩ : ∃ d, x.toNat % 16 = d := ⟨_, rfl⟩
        have i1 : (x.toNat : Int) / 16 = (a : Int) := by omega
        have i2 : (x.toNat : Int) % 16 = (d : Int) := by omega
        rw [hae] at hcv h1 hda
        rw [hde] at hcv h2 hd
        generalize hexD a = A at *
        generalize hexD d = D at *
        have z1 : ¬ 9223372036854775807 < T.size + 4 := by omega
        have z2 : ¬ 9223372036854775807 < U.size + H.size := by omega
        have z3 : ¬ 9223372036854775807 < U.size + 2 := by omega
        have hcd : ∀ W : World, (convert 42 9 (.slice (some ⟨W.heap.size, 0, none⟩) 2 2)).run Try.prog ((W.alloc (.cells #[.int .u8 A.toNat, .int .u8 D.toNat] 5)).drew) = .ok (.string H) ((W.alloc (.cells #[.int .u8 A.toNat, .int .u8 D.toNat] 5)).drew) := fun W => hcv W.drew
        clear hae hde
        go_wp2
        go_region
        go_wp2
        go_roundw
        case rel => exact ⟨q + 1, Z, rfl, by go_num, by omega, Lib.hid ⟨HNZ.out, below_drw (HB.out.alloc HB.out.size _)⟩⟩
        case measure => simp [RowKit.intOf]; omega
      have n32 : (((x.toNat : Nat) : Int) < 32) = False := by simp only [eq_iff_iff, iff_false]; omega
      have he : escB x = [x] := by unfold escB; rw [if_neg c1]; rw [if_neg k8]; rw [if_neg k12]; rw [if_neg k10]; rw [if_neg k13]; rw [if_neg k9]; rw [if_neg k32]
      obtain ⟨X, hX⟩ : ∃ X : ByteArray, (⟨#[x]⟩ : ByteArray) = X := ⟨_, rfl⟩
      obtain ⟨Z, hZ⟩ : ∃ Z : ByteArray, T ++ X = Z := ⟨_, rfl⟩
      have hXs : X.size = 1 := by rw [← hX]; rfl
      have HNZ : Hid (WrM S.data.toList (q + 1) Z) := Lib.hid (by
        have h := HN.out
        rw [he] at h
        rw [← hZ, ← hX]
        exact h)
      simp only [hX] at hsl
      clear hX he HN c1 k8 k12 k10 k13 k9 k32
      go_wp2
      go_roundw
      case rel => exact ⟨q + 1, Z, rfl, by go_num, by omega, Lib.hid ⟨HNZ.out, HB.out⟩⟩
      case measure => simp [RowKit.intOf]; omega
    · have hTR : T = R := by
        rw [← HR.out, HM.out.1, List.take_of_length_le (by rw [size_list]; omega)]
      have HB := Lib.hid (And.intro hTR HM.out.2)
      clear HM hTR
      go_wp2
      go_ret
      exact ⟨by rw [HB.out.1]; rfl, HB.out.2⟩
end Go.Proofs.Ytebnhelejebobaa
/-
  CONTRACT of the document's own plain, for JSON: what is written of a part that is no container, nor an end.
-/
namespace Go.Proofs.Ytebnhelejebobaa
open Go.RowKit
open Go.Lib
set_option maxHeartbeats 2000000 in
theorem rplain_any (e : Ev) (hk : e.k = 0 ∨ e.k = 1 ∨ e.k = 2 ∨ e.k = 3) (hm : e.m < 18446744073709551616) (ht : e.t.size ≤ 1000) (w : World) :
    Calls Try.prog 34 #[.int .i64 1, evV e] w fun r w' => r = .returned (.tuple #[.string ⟨(outW e).toArray⟩, .int .i64 0]) ∧ Below w.heap.size w w' := by
  obtain ⟨k, y, m, t, c⟩ := e
  simp only [evV] at *
  have HB := Lib.hid (fun x => (Below.refl w.heap.size w).alloc (Nat.le_refl _) x)
  rcases hk with rfl | rfl | rfl | rfl
  · have ho : outW ⟨0, y, m, t, c⟩ = [110, 117, 108, 108] := by simp [outW]
    rw [ho]
    clear ho
    go_enter Try.func34, Try.ntmps34
    go_wp2
    go_ret2
    exact ⟨rfl, HB.out _⟩
  · cases y with
    | true =>
      have ho : outW ⟨1, true, m, t, c⟩ = [116, 114, 117, 101] := by simp [outW]
      rw [ho]
      clear ho
      go_enter Try.func34, Try.ntmps34
      go_wp2
      go_ret2
      exact ⟨rfl, HB.out _⟩
    | false =>
      have ho : outW ⟨1, false, m, t, c⟩ = [102, 97, 108, 115, 101] := by simp [outW]
      rw [ho]
      clear ho
      go_enter Try.func34, Try.ntmps34
      go_wp2
      go_ret2
      exact ⟨rfl, HB.out _⟩
  · have ho : outW ⟨2, y, m, t, c⟩ = printD (y, m) := by simp [outW]
    rw [ho]
    have HP := Lib.hid (fun W => rprint_any y m hm W)
    generalize (⟨(printD (y, m)).toArray⟩ : ByteArray) = Z at *
    clear ho
    go_enter Try.func34, Try.ntmps34
    go_wp2_with fail
    refine (HP.out _).mono ?_
    rintro r w1 ⟨rfl, hb⟩
    have HB1 := Lib.hid (up_trans (HB.out _) hb)
    clear hb
    go_wp2
    go_ret2
    exact ⟨rfl, HB1.out⟩
  · have ho : outW ⟨3, y, m, t, c⟩ = 34 :: escW t.data.toList ++ [34] := by simp [outW]
    rw [ho]
    have hWr := fun W0 => rwrite_any t ht W0
    obtain ⟨X, hX⟩ : ∃ X : ByteArray, (⟨(escW t.data.toList).toArray⟩ : ByteArray) = X := ⟨_, rfl⟩
    have hXs : X.size ≤ 6000 := by
      rw [← hX, size_of]
      have h1 := escW_len t.data.toList
      rw [size_list] at h1
      omega
    obtain ⟨U, hU⟩ : ∃ U, (⟨#[34]⟩ : ByteArray) ++ X = U := ⟨_, rfl⟩
    obtain ⟨Y, hY⟩ : ∃ Y, U ++ (⟨#[34]⟩ : ByteArray) = Y := ⟨_, rfl⟩
    have hUs : U.size ≤ 6001 := by rw [← hU, ByteArray.size_append]; show 1 + X.size ≤ 6001; omega
    have hYe : (⟨(34 :: escW t.data.toList ++ [34]).toArray⟩ : ByteArray) = Y := by
      rw [← hY, ← hU, ← hX]
      have e1 := cat_of [34] (escW t.data.toList)
      have e2 := cat_of ([34] ++ escW t.data.toList) [34]
      exact (by rw [show (⟨#[34]⟩ : ByteArray) = ⟨[(34 : UInt8)].toArray⟩ from rfl, e1, e2]; rfl)
    rw [hYe]
    rw [hX] at hWr
    have HWr := Lib.hid hWr
    have z1 : ¬ 9223372036854775807 < 1 + X.size := by omega
    have z2 : ¬ 9223372036854775807 < U.size + 1 := by omega
    clear ho hWr hX hYe
    go_enter Try.func34, Try.ntmps34
    go_wp2_with fail
    refine (HWr.out _).mono ?_
    rintro r w1 ⟨rfl, hb⟩
    have HB1 := Lib.hid (up_trans (HB.out _) hb)
    clear hb
    go_wp2
    go_ret2
    exact ⟨rfl, HB1.out⟩
end Go.Proofs.Ytebnhelejebobaa
/-
  THE DOCUMENT'S OWN STACK: open containers as a list of truchmanref1.Box.
-/
namespace Go.Proofs.Ytebnhelejebobaa
open Go.RowKit
open Go.Lib
/-- The open containers, as a list of boxes. -/
structure Stk (M B : Nat) (w : World) (s : List Bx) (v : Value) : Prop where
  win : Win w 71 3 v s.length (bxsL s)
  vB : ∀ k ∈ Value.owner v, B ≤ k
  ok : ∀ b ∈ s, (-1 ≤ b.c ∧ b.c ≤ 9223372036854775807) ∧ b.have_ ≤ M
  deep : s.length ≤ 800
  most : M ≤ 1000
/-- Of the blocks below B only b may have turned. -/
structure Bew (B b : Nat) (w w' : World) : Prop where
  os : w'.os = w.os
  tape : w'.tape = w.tape
  output : w'.output = w.output
  size : w.heap.size ≤ w'.heap.size
  block : ∀ k, k < B → k ≠ b → w'.heap[k]? = w.heap[k]?
theorem _root_.Go.RowKit.Below.bew {B b : Nat} {w w' : World} (h : Below B w w') : Bew B b w w' := ⟨h.os, h.tape, h.output, h.size, fun k hk _ => h.block k hk⟩
theorem Bew.trans {B b : Nat} {w w1 w2 : World} (h : Bew B b w w1) (k : Bew B b w1 w2) : Bew B b w w2 :=
  ⟨k.os.trans h.os, k.tape.trans h.tape, k.output.trans h.output, Nat.le_trans h.size k.size, fun i hi hb => (k.block i hi hb).trans (h.block i hi hb)⟩
theorem Bew.set {B b : Nat} {w w' : World} (h : Bew B b w w') (i : Nat) (v : Value) : Bew B b w (w'.setCell ⟨b, i, none⟩ v) :=
  ⟨h.os, h.tape, h.output, Nat.le_trans h.size (by simp [World.setCell]), fun k hk hb => (Below.heap_setCell w' ⟨b, i, none⟩ v k (fun e => hb e)).trans (h.block k hk hb)⟩
theorem Bew.setFar {B b : Nat} {w w' : World} (h : Bew B b w w') {p : Addr} (hp : B ≤ p.block) (v : Value) : Bew B b w (w'.setCell p v) :=
  ⟨h.os, h.tape, h.output, Nat.le_trans h.size (by simp [World.setCell]), fun k hk hb => (Below.heap_setCell w' p v k (fun e => by subst e; omega)).trans (h.block k hk hb)⟩
theorem Bew.mono {B C b : Nat} {w w' : World} (h : Bew B b w w') (hC : C ≤ B) : Bew C b w w' := ⟨h.os, h.tape, h.output, h.size, fun k hk hb => h.block k (Nat.lt_of_lt_of_le hk hC) hb⟩
theorem Bew.below {B C b : Nat} {w w' : World} (h : Bew B b w w') (hC : C ≤ B) (hb : C ≤ b) : Below C w w' := ⟨h.os, h.tape, h.output, h.size, fun k hk => h.block k (Nat.lt_of_lt_of_le hk hC) (by omega)⟩
/-- What append made is nobody's but its own. -/
theorem Stk.zero {M B : Nat} {w : World} {s : List Bx} {v : Value} (h : Stk M B w s v) : Stk M 0 w s v := ⟨h.win, fun _ _ => Nat.zero_le _, h.ok, h.deep, h.most⟩
theorem Stk.go {M B : Nat} {w w' : World} {s : List Bx} {v : Value} (h : Stk M B w s v) (k : Below w.heap.size w w') : Stk M B w' s v :=
  ⟨h.win.keep fun g hg => k.block g (h.win.lt g hg), h.vB, h.ok, h.deep, h.most⟩
theorem Stk.last {M B : Nat} {w : World} {b : Bx} {r : List Bx} {v : Value} (h : Stk M B w (b :: r) v) :
    ∃ g off N cap, v = .slice (some ⟨g, off, none⟩) N cap ∧ N = r.length + 1 ∧ N ≤ 9223372036854775807 ∧
      (w.cell? ⟨g, off + r.length * 3, none⟩ = some (.bool b.map) ∧ w.cell? ⟨g, off + r.length * 3 + 1, none⟩ = some (.int .i64 b.c) ∧ w.cell? ⟨g, off + r.length * 3 + 2, none⟩ = some (.int .i64 (b.have_ : Int))) ∧
      (w.frozen? ⟨g, off + r.length * 3, none⟩ = false ∧ w.frozen? ⟨g, off + r.length * 3 + 1, none⟩ = false ∧ w.frozen? ⟨g, off + r.length * 3 + 2, none⟩ = false) := by
  obtain ⟨g, off, cap, rfl, h1, h2, _, _, h3⟩ := h.win.form (by simp)
  have hl := bxsL_length r
  have hx : ∀ j u, (bxL b)[j]? = some u → w.cell? ⟨g, off + (r.length * 3 + j), none⟩ = some u ∧ w.frozen? ⟨g, off + (r.length * 3 + j), none⟩ = false := fun j u hu => by
    refine h3 _ u ?_
    rw [bxsL, ← hl, List.getElem?_append_right (by omega), Nat.add_sub_cancel_left]
    exact hu
  have x0 := hx 0 _ rfl
  have x1 := hx 1 _ rfl
  have x2 := hx 2 _ rfl
  simp only [← Nat.add_assoc, Nat.add_zero] at x0 x1 x2
  refine ⟨g, off, _, cap, rfl, by simp, ?_, ⟨x0.1, x1.1, x2.1⟩, ⟨x0.2, x1.2, x2.2⟩⟩
  unfold maxLen at h2
  simp only [List.length_cons] at h1 ⊢
  omega
theorem Stk.up {M B : Nat} {w : World} {s : List Bx} {v : Value} (h : Stk M B w s v) (hM : M + 1 ≤ 1000) : Stk (M + 1) B w s v :=
  ⟨h.win, h.vB, fun b hb => ⟨(h.ok b hb).1, Nat.le_succ_of_le (h.ok b hb).2⟩, h.deep, hM⟩
theorem Stk.inc {M B : Nat} {w : World} {b : Bx} {r : List Bx} {g off cap N : Nat} (h : Stk M B w (b :: r) (.slice (some ⟨g, off, none⟩) N cap)) (hM : M + 1 ≤ 1000) (hN : N = r.length + 1) :
    Stk (M + 1) B (w.setCell ⟨g, off + r.length * 3 + 2, none⟩ (.int .i64 ((b.have_ : Int) + 1))) (incB (b :: r)) (.slice (some ⟨g, off, none⟩) N cap) ∧ B ≤ g := by
  subst hN
  have hw := h.win.store (r.length * 3 + 2) (by rw [bxsL_length]; simp; omega) (.int .i64 ((b.have_ : Int) + 1))
  have hx : (bxsL (b :: r)).set (r.length * 3 + 2) (.int .i64 ((b.have_ : Int) + 1)) = bxsL (incB (b :: r)) := by
    simp only [bxsL, incB]
    rw [← bxsL_length, List.set_append, if_neg (by omega), Nat.add_sub_cancel_left]
    rfl
  rw [hx, ← Nat.add_assoc] at hw
  refine ⟨⟨hw, h.vB, fun x hx => ?_, h.deep, hM⟩, h.vB g (by simp [Value.owner])⟩
  simp only [incB, List.mem_cons] at hx
  rcases hx with rfl | hx
  · have := h.ok b (by simp)
    exact ⟨this.1, by simp only; omega⟩
  · have := h.ok x (List.mem_cons_of_mem _ hx)
    exact ⟨this.1, by omega⟩
/-- A slice that append made of old elements and new ones. -/
theorem stk_new {M B : Nat} {w w2 : World} {s : List Bx} {v v' : Value} (hB : B ≤ w.heap.size) (hv : ∀ k ∈ Value.owner v, B ≤ k) {n : Nat} {xs : List Value} (hn : n = s.length) (hx : xs = bxsL s)
    (hW : Win w2 71 3 v' n xs) (hG : w.grownBy w2 v.ownBlock) (hO : v'.ownBlock = v.ownBlock ∨ v'.ownBlock = some w.heap.size ∧ w.heap.size < w2.heap.size)
    (ok : ∀ b ∈ s, (-1 ≤ b.c ∧ b.c ≤ 9223372036854775807) ∧ b.have_ ≤ M) (deep : s.length ≤ 800) (most : M ≤ 1000) : Stk M B w2 s v' ∧ Below B w w2 := by
  subst hn hx
  refine ⟨⟨hW, fun k hk => ?_, ok, deep, most⟩, (Below.refl B w).grown hG hB fun k hk => hv k ((ob_iff _ _).1 hk)⟩
  rcases hO with e | ⟨e, _⟩
  · exact hv k ((ob_iff _ _).1 (e ▸ (ob_iff _ _).2 hk))
  · have := (ob_iff _ _).2 hk
    rw [e] at this
    cases this
    exact hB
theorem info_rbox : (Try.prog.info? 71).map (fun i => (i.zero, i.size, i.bytes)) = some (some (.agg #[.bool false, .int .i64 0, .int .i64 0]), 3, 24) := by kernel_rfl
end Go.Proofs.Ytebnhelejebobaa
/-
  CONTRACT of the document's own Writer, for JSON: an end; a value; a container that begins.
-/
namespace Go.Proofs.Ytebnhelejebobaa
open Go.RowKit
open Go.Lib
/-- A Writer of JSON in block b: the containers that are open, whether the document is at its end. -/
structure WrAt (M B : Nat) (w : World) (b : Nat) (s : List Bx) (dn : Bool) : Prop where
  cells : ∃ a cp, At w b 0 [.int .i64 1, .slice a s.length cp, .bool dn] ∧ Stk M 0 w s (.slice a s.length cp)
  blk : ∃ cs, w.heap[b]? = some (.cells cs 34 (0, 0))
  low : B ≤ w.heap.size
theorem WrAt.lt {M B : Nat} {w : World} {b : Nat} {s : List Bx} {dn : Bool} (h : WrAt M B w b s dn) : b < w.heap.size := by
  obtain ⟨cs, hc⟩ := h.blk
  exact (Array.getElem?_eq_some_iff.1 hc).1
theorem WrAt.go {M B : Nat} {w w' : World} {b : Nat} {s : List Bx} {dn : Bool} (h : WrAt M B w b s dn) (k : Below w.heap.size w w') : WrAt M B w' b s dn := by
  have hk := k.block b h.lt
  obtain ⟨a, cp, h1, h2⟩ := h.cells
  obtain ⟨cs, hc⟩ := h.blk
  exact ⟨⟨a, cp, h1.keep hk, h2.go k⟩, ⟨cs, hk.trans hc⟩, Nat.le_trans h.low k.size⟩
theorem WrAt.at_ {M B C : Nat} {w : World} {b : Nat} {s : List Bx} {dn : Bool} (h : WrAt M B w b s dn) (hC : C ≤ w.heap.size) : WrAt M C w b s dn := ⟨h.cells, h.blk, hC⟩
theorem at_three {w : World} {b : Nat} {v0 v1 v2 : Value} (h : At w b 0 [v0, v1, v2]) :
    (w.cell? ⟨b, 0, none⟩ = some v0 ∧ w.frozen? ⟨b, 0, none⟩ = false) ∧ (w.cell? ⟨b, 1, none⟩ = some v1 ∧ w.frozen? ⟨b, 1, none⟩ = false) ∧ (w.cell? ⟨b, 2, none⟩ = some v2 ∧ w.frozen? ⟨b, 2, none⟩ = false) :=
  ⟨h 0 v0 rfl, h 1 v1 rfl, h 2 v2 rfl⟩
theorem WrAt.fin {M B : Nat} {w : World} {b : Nat} {s : List Bx} {dn : Bool} (h : WrAt M B w b s dn) (q : Bool) : WrAt M B (w.setCell ⟨b, 2, none⟩ (.bool q)) b s q ∧ Bew B b w (w.setCell ⟨b, 2, none⟩ (.bool q)) := by
  obtain ⟨a, cp, h1, h2⟩ := h.cells
  obtain ⟨cs, hc⟩ := h.blk
  have hap : b ∉ Value.owner (.slice a s.length cp) := h2.win.apart (t := 34) hc (by decide)
  have hset := h1.set 2 (by simp) (.bool q)
  refine ⟨⟨⟨a, cp, by simpa using hset, ⟨h2.win.setCell_far hap _, h2.vB, h2.ok, h2.deep, h2.most⟩⟩, ⟨_, heap_setCell_at w ⟨b, 2, none⟩ _ _ _ _ rfl hc⟩, by simpa [World.setCell] using h.low⟩, (Below.refl B w).bew.set _ _⟩
set_option maxRecDepth 100000 in
set_option maxHeartbeats 4000000 in
theorem wr_end {M B b : Nat} {w : World} {bx : Bx} {r : List Bx} (h : WrAt M B w b (bx :: r) false) (y : Bool) (m : Nat) (t : ByteArray) (c : Int) (hodd : ¬ (bx.map = true ∧ bx.have_ % 2 = 1)) :
    Calls Try.prog 17 #[.pointer (some ⟨b, 0, none⟩), evV ⟨7, y, m, t, c⟩] w fun q w' => q = .returned (.tuple #[.string ⟨(writeW (bx :: r) ⟨7, y, m, t, c⟩).toArray⟩, .int .i64 0]) ∧ WrAt M B w' b r (decide (r = [])) ∧ Bew B b w w' := by
  have hw : writeW (bx :: r) ⟨7, y, m, t, c⟩ = if bx.map = true then [125] else [93] := by simp [writeW]
  rw [hw]
  have hlen : (bx :: r).length = r.length + 1 := rfl
  obtain ⟨a, cp, hA, hS⟩ := h.cells
  rw [hlen] at hA hS
  have hBw : B ≤ w.heap.size := h.low
  have HM : Hid (∀ X, Calls Try.prog 31 #[evV ⟨7, y, m, t, c⟩] (w.alloc X) fun r w' => r = .returned (.bool true) ∧ Below (w.alloc X).heap.size (w.alloc X) w') := Lib.hid fun X => by
    have := may_any ⟨7, y, m, t, c⟩ (w.alloc X)
    rwa [decide_eq_true (show mayE ⟨7, y, m, t, c⟩ from ⟨by simp, by simp, by simp⟩)] at this
  simp only [evV] at HM ⊢
  have HH := Lib.hid h
  have HS := Lib.hid hS
  have HA := Lib.hid hA
  have hA0 := (hA.alloc (by simp) (.cells #[.int .i64 7, .bool y, .int .u64 m, .string t, .int .i64 c] 39))
  obtain ⟨⟨k0, _⟩, ⟨k1, _⟩, ⟨k2, _⟩⟩ := at_three hA0
  obtain ⟨n', hn'⟩ : ∃ n', r.length = n' := ⟨_, rfl⟩
  rw [hn'] at k1
  have Hn := Lib.hid hn'
  have hn15 : n' ≤ 799 := by have := hS.deep; simp only [List.length_cons] at this; omega
  clear h hA hS hw hlen hA0 hn'
  go_enter Try.func17, Try.ntmps17
  go_wp2_with fail
  refine (HM.out _).mono ?_
  rintro e w1 ⟨rfl, hb1⟩
  have E1 := Lib.hid ((blk_new w _ _).go hb1)
  obtain ⟨⟨e0, e1, e2, e3, e4⟩, ef⟩ := E1.out.ev
  have hbw1 := up_trans (up_alloc (Below.refl w.heap.size w) (.cells #[.int .i64 7, .bool y, .int .u64 m, .string t, .int .i64 c] 39)) hb1
  have HB1 := Lib.hid hbw1
  have A1 := Lib.hid (HA.out.keep (hbw1.block b HH.out.lt))
  have D1 := Lib.hid (HS.out.go hbw1)
  rw [Hn.out] at A1
  clear hb1 ef k0 k1 k2 hbw1
  obtain ⟨⟨k0, q0⟩, ⟨k1, q1⟩, ⟨k2, q2⟩⟩ := at_three A1.out
  obtain ⟨g, off, N, cap', hv, hNa, hNb, ⟨y0, y1, y2⟩, _⟩ := D1.out.last
  injection hv with hv1 hv2 hv3
  subst hv1
  rw [Hn.out] at y0 y1 y2
  have hbh : bx.have_ ≤ 1000 := Nat.le_trans (D1.out.ok bx (by simp)).2 D1.out.most
  obtain ⟨bm, bc, bh⟩ := bx
  simp only at y0 y1 y2 hodd hbh
  have kk0 : ∀ x, (w1.alloc x).cell? ⟨b, 0, none⟩ = some (.int .i64 1) := fun x => (at_three (A1.out.alloc (by simp) x)).1.1
  have kk1 : ∀ x, (w1.alloc x).cell? ⟨b, 1, none⟩ = some (.slice (some ⟨g, off, none⟩) (n' + 1) cp) := fun x => (at_three (A1.out.alloc (by simp) x)).2.1.1
  obtain ⟨v', hsl, hw', ho'⟩ := D1.out.win.hi (P := Try.prog) (t := 32) Try.underlying32 (fun w => by kernel_rfl) r.length (by simp)
  rw [bxsL, ← bxsL_length, List.take_left, Hn.out] at hw'
  rw [Hn.out] at hsl
  obtain ⟨a', cap2, rfl, _, _⟩ := hw'.slice_form
  have HW := Lib.hid (fun x => hw'.alloc x)
  have hl1 : ((n' : Int) + 1 == 1) = decide (r = []) := by
    have h1 := Hn.out
    cases r with
    | nil => simp at h1; subst h1; rfl
    | cons x r => simp at h1; simp; omega
  generalize hR : decide (r = []) = R at hl1
  have HR := Lib.hid hR
  have hn1 : ((n' : Int) + 1 == 0) = false := by rw [beq_eq_false_iff_ne]; omega
  clear hw' ho' hNa hNb hv2 hv3 hR
  have hz : bm = true → (((bh : Int) % 2) != 0) = false := fun e => by
    simp only [bne_eq_false_iff_eq]
    have : ¬ bh % 2 = 1 := fun h2 => hodd ⟨e, h2⟩
    omega
  clear hodd
  have fin : ∀ (v3 : Value) (w3 : World), Win w3 71 3 v3 n' (bxsL r) → (w1.alloc (.cells #[.bool bm, .int .i64 bc, .int .i64 (bh : Int)] 71)).grownBy w3 (Value.slice none 0 0).ownBlock →
      (v3.ownBlock = (Value.slice none 0 0).ownBlock ∨ v3.ownBlock = some (w1.heap.size + 1) ∧ w1.heap.size + 1 < w3.heap.size) →
      (w3.cell? ⟨b, 0, none⟩ = some (.int .i64 1) ∧ (w3.cell? ⟨b, 1, none⟩ = some (.slice (some ⟨g, off, none⟩) (n' + 1) cp) ∧ w3.frozen? ⟨b, 1, none⟩ = false) ∧ (w3.cell? ⟨b, 2, none⟩ = some (.bool false) ∧ w3.frozen? ⟨b, 2, none⟩ = false)) ∧
      w3.cell? ⟨w1.heap.size, 0, none⟩ = some (.bool bm) ∧ b ≠ w1.heap.size ∧
      (∀ a3 c3, v3 = .slice a3 n' c3 → WrAt M B ((w3.setCell ⟨b, 1, none⟩ (.slice a3 n' c3)).setCell ⟨b, 2, none⟩ (.bool R)) b r R ∧ Bew B b w ((w3.setCell ⟨b, 1, none⟩ (.slice a3 n' c3)).setCell ⟨b, 2, none⟩ (.bool R))) := by
    intro v3 w3 hW3 hG3 hO3
    have hbw1 : b < w1.heap.size := Nat.lt_of_lt_of_le HH.out.lt HB1.out.size
    have hB1 : B ≤ w1.heap.size := Nat.le_trans HH.out.low HB1.out.size
    have hK := stk_new (M := M) (B := B) (s := r) (w := w1.alloc (.cells #[.bool bm, .int .i64 bc, .int .i64 (bh : Int)] 71)) (by simp; omega) (by simp [Value.owner]) Hn.out.symm rfl hW3 hG3 (by simpa using hO3) (fun x hx => D1.out.ok x (List.mem_cons_of_mem _ hx)) (by rw [Hn.out]; omega) D1.out.most
    have hblk : w3.heap[b]? = w1.heap[b]? := (hG3.block b (by simp; omega) (by simp [Value.ownBlock])).trans (Below.heap_alloc w1 _ b hbw1)
    have A3 := A1.out.keep hblk
    obtain ⟨⟨p0, _⟩, ⟨p1, p1'⟩, ⟨p2, p2'⟩⟩ := at_three A3
    have hbox : w3.cell? ⟨w1.heap.size, 0, none⟩ = some (.bool bm) := ((blk_new w1 #[.bool bm, .int .i64 bc, .int .i64 (bh : Int)] 71).lift hG3 (by simp [Value.ownBlock])).cell 0
    refine ⟨⟨p0, ⟨p1, p1'⟩, ⟨p2, p2'⟩⟩, hbox, by omega, ?_⟩
    rintro a3 c3 rfl
    obtain ⟨cs, hcs⟩ := HH.out.blk
    have hw3 : w3.heap[b]? = some (.cells cs 34 (0, 0)) := hblk.trans ((HB1.out.block b HH.out.lt).trans hcs)
    have hap : b ∉ Value.owner (.slice a3 n' c3) := hK.1.win.apart (t := 34) hw3 (by decide)
    have hset := (A3.set 1 (by simp) (.slice a3 n' c3)).set 2 (by simp) (.bool R)
    have hS3 : Stk M 0 ((w3.setCell ⟨b, 1, none⟩ (.slice a3 n' c3)).setCell ⟨b, 2, none⟩ (.bool R)) r (.slice a3 n' c3) := ⟨(hK.1.win.setCell_far hap _).setCell_far hap _, fun _ _ => Nat.zero_le _, hK.1.ok, hK.1.deep, hK.1.most⟩
    refine ⟨⟨⟨a3, c3, ?_, ?_⟩, ⟨_, heap_setCell_at _ ⟨b, 2, none⟩ _ _ _ _ rfl (heap_setCell_at w3 ⟨b, 1, none⟩ _ _ _ _ rfl hw3)⟩, by
      have := hK.2.size
      simp only [World.setCell, Array.size_modify]
      simp at this
      omega⟩, ?_⟩
    · rw [Hn.out]
      simpa using hset
    · rw [Hn.out]
      exact hS3
    · have b1 : Below B w w1 := HB1.out.mono hBw
      have b2 : Below B w (w1.alloc (.cells #[.bool bm, .int .i64 bc, .int .i64 (bh : Int)] 71)) := b1.alloc hB1 _
      exact ((b2.trans hK.2).bew.set _ _).set _ _
  have FIN := Lib.hid fin
  clear fin
  cases bm with
  | false =>
    clear hz
    go_wp2_with (at_builtin; refine wpList_append_win rfl _ _ _ rfl Try.underlying32 info_rbox rfl rfl (Win.nil_ _ _ _) _ rfl n' _ (Win.src (HW.out _) Try.underlying32 (bxsL_one _)) ?e1 ?e2 ?_)
    case e1 => unfold maxLen; omega
    case e2 => omega
    intro v3 w3 hW3 hG3 hO3
    obtain ⟨⟨p0, ⟨p1, p1'⟩, ⟨p2, p2'⟩⟩, hbox, hne, hfin⟩ := FIN.out v3 w3 (by simpa using hW3.out) hG3.out (by simpa using hO3.out)
    obtain ⟨a3, c3, rfl, _, _⟩ := Win.slice_form hW3.out
    have HFI := Lib.hid hfin
    clear hW3 hG3 hO3 hfin
    go_wp2
    go_ret2
    exact ⟨rfl, by rw [HR.out]; exact HFI.out _ _ rfl⟩
  | true =>
    have hz1 := hz rfl
    clear hz
    go_wp2_with (at_builtin; refine wpList_append_win rfl _ _ _ rfl Try.underlying32 info_rbox rfl rfl (Win.nil_ _ _ _) _ rfl n' _ (Win.src (HW.out _) Try.underlying32 (bxsL_one _)) ?e1 ?e2 ?_)
    case e1 => unfold maxLen; omega
    case e2 => omega
    intro v3 w3 hW3 hG3 hO3
    obtain ⟨⟨p0, ⟨p1, p1'⟩, ⟨p2, p2'⟩⟩, hbox, hne, hfin⟩ := FIN.out v3 w3 (by simpa using hW3.out) hG3.out (by simpa using hO3.out)
    obtain ⟨a3, c3, rfl, _, _⟩ := Win.slice_form hW3.out
    have HFI := Lib.hid hfin
    clear hW3 hG3 hO3 hfin
    go_wp2
    go_ret2
    exact ⟨rfl, by rw [HR.out]; exact HFI.out _ _ rfl⟩
end Go.Proofs.Ytebnhelejebobaa
/-
  NO PROGRAM NEEDED: of a document that goes on to its end there is room for one part more; how long a part is as CBOR.
-/
namespace Go.Proofs.Ytebnhelejebobaa
open Go.Lib
/-- Of a document that goes on to its end: there is room for one part more. -/
theorem room_of {b : Bx} {r : List Bx} {e : Ev} {l : List Ev} (h : runC (.live (b :: r)) (e :: l) = .done) (h7 : e.k ≠ 7) (hc : 0 ≤ b.c) : (b.have_ : Int) < if b.map = true then 2 * b.c else b.c := by
  by_cases h1 : (b.have_ : Int) < if b.map = true then 2 * b.c else b.c
  · exact h1
  · by_cases h2 : (b.have_ : Int) = if b.map = true then 2 * b.c else b.c
    · have hf : fullB b = true := by
        unfold fullB
        rw [decide_eq_true_eq]
        exact ⟨hc, h2⟩
      exact absurd (full_end hf h) h7
    · exact absurd h (over_bad _ _ ⟨b, List.mem_cons_self, hc, by omega⟩)
theorem writeK_len {e : Ev} (hg : GoodK e) (s : List Bx) : (writeK s e).length ≤ 209 := by
  have ht := hg.text.1
  unfold writeK
  split
  · split
    · simp
    · split <;> simp
  split
  · simp
  split
  · simp
  split
  · exact Nat.le_trans (headB_len _ _) (by decide)
  split
  · rw [List.length_append]
    have := headB_len (if e.k = 3 then 3 else 2) e.t.data.toList.length
    omega
  split
  · simp
  · exact Nat.le_trans (headB_len _ _) (by decide)
theorem writeK_any {e : Ev} (h7 : e.k ≠ 7) (s : List Bx) : writeK s e = writeK [] e := by
  unfold writeK
  rw [if_neg h7, if_neg h7]
end Go.Proofs.Ytebnhelejebobaa
/-
  CONTRACTS of the book's documents out of numbers (truchmanbook.Doc, text, Open).
-/
namespace Go.Proofs.Ytebnhelejebobaa
open Go.RowKit
open Go.Lib
def pieceL (i : Nat) : List UInt8 :=
  if i = 0 then [97] else if i = 1 then [34] else if i = 2 then [92] else if i = 3 then [10] else if i = 4 then [195, 169] else if i = 5 then [1] else if i = 6 then [240, 157, 132, 158] else [122]
/-- A text out of a number, as the loop makes it: k rounds are left. -/
def textGo (x : Nat) : Nat → List UInt8 → List UInt8
  | 0, acc => acc
  | k + 1, acc => textGo x k (acc ++ pieceL (x / 2 ^ ((k + 1) % 8) % 8))
def textL (x : Nat) : List UInt8 := textGo x (x % 8) []
theorem piece_len (i : Nat) : (pieceL i).length ≤ 4 := by
  unfold pieceL
  repeat' split
  all_goals simp
theorem and_nat (r m : Nat) (h : r < 9223372036854775808) (hm : m < 9223372036854775808) : bits .and .i64 (r : Int) (m : Int) = ((r &&& m : Nat) : Int) := by
  have h1 : (BitVec.ofInt 64 (r : Int)).toNat = r := by rw [BitVec.ofInt_natCast, BitVec.toNat_ofNat]; exact Nat.mod_eq_of_lt (by omega)
  have h2 : (BitVec.ofInt 64 (m : Int)).toNat = m := by rw [BitVec.ofInt_natCast, BitVec.toNat_ofNat]; exact Nat.mod_eq_of_lt (by omega)
  show IntKind.i64.wrap ((BitVec.ofInt 64 (r : Int) &&& BitVec.ofInt 64 (m : Int)).toNat : Int) = _
  have h3 : r &&& m ≤ m := Nat.and_le_right
  rw [BitVec.toNat_and, h1, h2, IntKind.wrap_i64]
  omega
theorem dand7 (r : Nat) (h : r < 65536) : bits .and .i64 (r : Int) 7 = ((r % 8 : Nat) : Int) := by
  have := and_nat r 7 (by omega) (by omega)
  rw [show r &&& 7 = r % 8 from Nat.and_two_pow_sub_one_eq_mod r 3] at this
  exact this
theorem catD (l k : List UInt8) : (⟨l.toArray⟩ : ByteArray) ++ ⟨k.toArray⟩ = ⟨(l ++ k).toArray⟩ := by
  apply ByteArray.ext
  simp
theorem piece_at (i : Nat) (hi : i < 8) (h : i < [Value.string ⟨#[97]⟩, .string ⟨#[34]⟩, .string ⟨#[92]⟩, .string ⟨#[10]⟩, .string ⟨#[195, 169]⟩, .string ⟨#[1]⟩, .string ⟨#[240, 157, 132, 158]⟩, .string ⟨#[122]⟩].length) :
    ([Value.string ⟨#[97]⟩, .string ⟨#[34]⟩, .string ⟨#[92]⟩, .string ⟨#[10]⟩, .string ⟨#[195, 169]⟩, .string ⟨#[1]⟩, .string ⟨#[240, 157, 132, 158]⟩, .string ⟨#[122]⟩])[i]'h = .string ⟨(pieceL i).toArray⟩ := by
  match i, hi with
  | 0, _ => rfl
  | 1, _ => rfl
  | 2, _ => rfl
  | 3, _ => rfl
  | 4, _ => rfl
  | 5, _ => rfl
  | 6, _ => rfl
  | 7, _ => rfl
set_option maxHeartbeats 1000000 in
theorem text_any (x : Nat) (hx : x < 65536) (w : World) : Calls Try.prog 30 #[.int .i64 x] w fun r w' => r = .returned (.string ⟨(textL x).toArray⟩) ∧ Below w.heap.size w w' := by
  obtain ⟨Z, hZ⟩ : ∃ Z, textL x = Z := ⟨_, rfl⟩
  rw [hZ]
  have HZ := Lib.hid hZ
  have ha := dand7 x hx
  have HX := Lib.hid hx
  clear hZ hx
  go_enter Try.func30, Try.ntmps30
  go_wp2
  go_loopw [3, 4] (fun s k wr => ∃ (j : Nat) (acc : List UInt8), s = .string ⟨acc.toArray⟩ ∧ k = .int .i64 j ∧ j ≤ 7 ∧ acc.length ≤ 4 * (7 - j) ∧ Hid (textGo x j acc = Z) ∧ Hid (Below w.heap.size w wr)) (fun _ k _ => (RowKit.intOf k).toNat)
  case atStart => exact ⟨x % 8, [], rfl, rfl, by omega, by simp, HZ, Lib.hid (Below.refl _ _)⟩
  case round =>
    obtain ⟨j, acc, rfl, rfl, hj, hl, HT, HB⟩ := hrel
    cases j with
    | zero =>
      go_wp2
      go_ret
      exact ⟨by rw [← HT.out]; rfl, HB.out⟩
    | succ j =>
      obtain ⟨i, hi⟩ : ∃ i, i = x / 2 ^ ((j + 1) % 8) % 8 := ⟨_, rfl⟩
      have hib : i < 8 := by omega
      have hd : x / 2 ^ ((j + 1) % 8) < 65536 := Nat.lt_of_le_of_lt (Nat.div_le_self _ _) HX.out
      have hb7 : bits .and .i64 ((x : Int) / 2 ^ ((j + 1) % 8)) 7 = (i : Int) := by
        have := dand7 (x / 2 ^ ((j + 1) % 8)) hd
        rw [hi, ← this]
        congr 1
      have hpc := piece_at i hib
      obtain ⟨P, hP⟩ : ∃ P : ByteArray, ⟨(pieceL i).toArray⟩ = P := ⟨_, rfl⟩
      obtain ⟨A, hA⟩ : ∃ A : ByteArray, ⟨acc.toArray⟩ = A := ⟨_, rfl⟩
      have hps : P.size ≤ 4 := by
        rw [← hP]
        have := piece_len i
        simpa [ByteArray.size] using this
      have has : A.size ≤ 28 := by
        rw [← hA]
        have : acc.length ≤ 28 := by omega
        simpa [ByteArray.size] using this
      have hcat : A ++ P = ⟨(acc ++ pieceL i).toArray⟩ := by rw [← hA, ← hP]; exact catD _ _
      have hlen : (acc ++ pieceL i).length ≤ 4 * (7 - j) := by
        have := piece_len i
        rw [List.length_append]
        omega
      have hgo : textGo x j (acc ++ pieceL i) = Z := by rw [← HT.out, hi]; rfl
      rw [hP] at hpc
      rw [hA]
      have HC := Lib.hid hcat
      have HL := Lib.hid hlen
      have HG := Lib.hid hgo
      have hov : ¬ 9223372036854775807 < A.size + P.size := by omega
      clear hi hd hP hA hcat hlen hgo hl
      go_wp2
      go_roundw
      case rel => exact ⟨j, acc ++ pieceL i, by rw [HC.out], rfl, by omega, HL.out, HG, Lib.hid (up_alloc HB.out _)⟩
      case measure => simp [RowKit.intOf]
theorem heap_new2 (w : World) (X Y : Obj) : ((w.alloc X).alloc Y).heap[w.heap.size + 1]? = some Y := by
  have := heap_alloc_new (w.alloc X) Y
  rwa [World.size_alloc] at this
def openE (e : Ev) : Ev := if e.k = 5 ∨ e.k = 6 then ⟨e.k, e.y, e.m, e.t, -1⟩ else e
theorem evs_cells (e : Ev) : evsC [e] = [.int .i64 e.k, .bool e.y, .int .u64 e.m, .string e.t, .int .i64 e.c] := by simp [evs_one, evCells]
end Go.Proofs.Ytebnhelejebobaa
/-
  CONTRACTS of the book's documents out of numbers: what the closures of truchmanbook.Doc do, step by step.
-/
namespace Go.Proofs.Ytebnhelejebobaa
open Go.RowKit
open Go.Lib
/-- A number of the list, as 'next' tells it. -/
def wordD (z : Int) : Nat := (bits .and .i64 z 65535).toNat
theorem wordD_is (z : Int) : bits .and .i64 z 65535 = ((wordD z : Nat) : Int) ∧ wordD z < 65536 := by
  have e1 : (BitVec.ofInt 64 (65535 : Int)).toNat = 65535 := by rw [BitVec.toNat_ofInt]; omega
  have h1 : bits .and .i64 z 65535 = ((BitVec.ofInt 64 z &&& BitVec.ofInt 64 65535).toNat : Int) ∧ (BitVec.ofInt 64 z &&& BitVec.ofInt 64 65535).toNat ≤ 65535 := by
    have hle : (BitVec.ofInt 64 z &&& BitVec.ofInt 64 65535).toNat ≤ 65535 := by
      rw [BitVec.toNat_and, e1]
      exact Nat.and_le_right
    refine ⟨?_, hle⟩
    show IntKind.i64.wrap ((BitVec.ofInt 64 z &&& BitVec.ofInt 64 65535).toNat : Nat) = _
    rw [IntKind.wrap_i64]
    omega
  unfold wordD
  rw [h1.1]
  generalize (BitVec.ofInt 64 z &&& BitVec.ofInt 64 65535).toNat = a at h1
  exact ⟨rfl, by rw [Int.toNat_natCast]; omega⟩
def nxD (n : Nat) (L : Nat → Int) (at_ : Nat) : Nat := if at_ < n then wordD (L at_) else 0
theorem nxD_lt (n : Nat) (L : Nat → Int) (at_ : Nat) : nxD n L at_ < 65536 := by
  unfold nxD
  split
  · exact (wordD_is _).2
  · omega
/-- The closures. -/
def clNext (ba bl : Nat) : Value := .func (.func 28) #[] #[.pointer (some ⟨ba, 0, none⟩), .pointer (some ⟨bl, 0, none⟩)]
def clItem (bn bo bd bi : Nat) : Value := .func (.func 29) #[] #[.pointer (some ⟨bn, 0, none⟩), .pointer (some ⟨bo, 0, none⟩), .pointer (some ⟨bd, 0, none⟩), .pointer (some ⟨bi, 0, none⟩)]
/-- The numbers, as they came in. -/
def DLAt (w : World) (B : Nat) (A : Option Addr) (n : Nat) (L : Nat → Int) : Prop := 0 < n → ∃ b off, A = some ⟨b, off, none⟩ ∧ b < B ∧ ∀ i, i < n → w.cell? ⟨b, off + i, none⟩ = some (.int .i64 (L i))
theorem DLAt.below {w w' : World} {B n : Nat} {A : Option Addr} {L : Nat → Int} (h : DLAt w B A n L) (k : Below B w w') : DLAt w' B A n L := fun hn => by
  obtain ⟨b, off, hA, hb, hc⟩ := h hn
  exact ⟨b, off, hA, hb, fun i hi => (k.cell hb).trans (hc i hi)⟩
/-- What the closures of a document hold on to. -/
structure DS (W : World) (A : Option Addr) (n cp : Nat) (L : Nat → Int) (D bl bd bo ba bn bi : Nat) (w : World) (v : Value) (m : Nat) (out : List Ev) (at_ : Nat) : Prop where
  l : Blk w bl #[.slice A n cp] 29
  d : Blk w bd #[.int .i64 D] 3
  o : Blk w bo #[v] 23
  a : Blk w ba #[.int .i64 at_] 3
  x : Blk w bn #[clNext ba bl] 50
  i : Blk w bi #[clItem bn bo bd bi] 66
  made : Made W w v m out
  len : out.length = m
  ls : DLAt w W.heap.size A n L
  da : bd ≠ ba
  low : W.heap.size ≤ bo ∧ W.heap.size ≤ ba
theorem next_any (bl ba n cp at_ : Nat) (A : Option Addr) (L : Nat → Int) (B : Nat) (w : World) (hl : Blk w bl #[.slice A n cp] 29) (ha : Blk w ba #[.int .i64 at_] 3) (hL : DLAt w B A n L) (hB : B ≤ ba) (h1 : at_ ≤ 1000000000) (h2 : n ≤ 1000000000) :
    Calls Try.prog 28 #[.pointer (some ⟨ba, 0, none⟩), .pointer (some ⟨bl, 0, none⟩)] w fun r w' => r = .returned (.int .i64 (nxD n L at_ : Nat)) ∧ w' = w.setCell ⟨ba, 0, none⟩ (.int .i64 ((at_ : Int) + 1)) := by
  have a0 := ha.cell 0
  have f0 := ha.froz 0
  have hne : bl ≠ ba := fun e => by
    subst e
    have := hl.symm.trans ha
    simp at this
  have l0 : (w.setCell ⟨ba, 0, none⟩ (.int .i64 ((at_ : Int) + 1))).cell? ⟨bl, 0, none⟩ = some (.slice A n cp) := (hl.far hne _).cell 0
  have l1 := hl.cell 0
  by_cases hlt : at_ < n
  · obtain ⟨b, off, rfl, hb, hc⟩ := hL (by omega)
    have hc := hc at_ hlt
    have hcell : (w.setCell ⟨ba, 0, none⟩ (.int .i64 ((at_ : Int) + 1))).cell? ⟨b, off + at_, none⟩ = some (.int .i64 (L at_)) := by
      rw [World.cell?_setCell_other _ _ _ _ (fun e => by have := congrArg Addr.block e; simp at this; omega)]
      exact hc
    have hnx : nxD n L at_ = wordD (L at_) := by unfold nxD; rw [if_pos hlt]
    have hw := (wordD_is (L at_)).1
    rw [hnx]
    generalize wordD (L at_) = z at hw
    clear hL hl ha hb hnx
    go_enter Try.func28, Try.ntmps28
    go_wp2
    go_ret
    exact ⟨rfl, rfl⟩
  · have hnx : nxD n L at_ = 0 := by unfold nxD; rw [if_neg hlt]
    rw [hnx]
    clear hL hl ha hnx
    go_enter Try.func28, Try.ntmps28
    go_wp2
    go_ret
    exact ⟨rfl, rfl⟩
theorem DS.go {W : World} {A : Option Addr} {n cp : Nat} {L : Nat → Int} {D bl bd bo ba bn bi : Nat} {w w' : World} {v : Value} {m : Nat} {out : List Ev} {at_ : Nat} (h : DS W A n cp L D bl bd bo ba bn bi w v m out at_) (k : Below w.heap.size w w') :
    DS W A n cp L D bl bd bo ba bn bi w' v m out at_ :=
  ⟨h.l.go k, h.d.go k, h.o.go k, h.a.go k, h.x.go k, h.i.go k, h.made.go k, h.len, h.ls.below (k.mono h.made.1.size), h.da, h.low⟩
/-- One number more is told. -/
theorem DS.next {W : World} {A : Option Addr} {n cp : Nat} {L : Nat → Int} {D bl bd bo ba bn bi : Nat} {w : World} {v : Value} {m : Nat} {out : List Ev} {at_ : Nat} (h : DS W A n cp L D bl bd bo ba bn bi w v m out at_) :
    DS W A n cp L D bl bd bo ba bn bi (w.setCell ⟨ba, 0, none⟩ (.int .i64 ((at_ : Int) + 1))) v m out (at_ + 1) := by
  have ne : ∀ {b : Nat} {cs : Array Value} {t : TypeId}, Blk w b cs t → t ≠ 3 → b ≠ ba := fun {b cs t} hb ht e => by
    subst e
    have := hb.symm.trans h.a
    simp at this
    exact ht this.2
  have hb : Below W.heap.size w (w.setCell ⟨ba, 0, none⟩ (.int .i64 ((at_ : Int) + 1))) := (Below.refl _ _).setCell h.low.2 _
  have hap : ba ∉ Value.owner v := h.made.2.1.apart (t := 3) h.a (by decide)
  exact ⟨h.l.far (ne h.l (by decide)) _, h.d.far h.da _, h.o.far (ne h.o (by decide)) _, h.a.set 0 _, h.x.far (ne h.x (by decide)) _, h.i.far (ne h.i (by decide)) _,
    ⟨h.made.1.trans hb, h.made.2.1.setCell_far hap _, h.made.2.2⟩, h.len, h.ls.below hb, h.da, h.low⟩
/-- One part more is told. -/
theorem DS.put {W : World} {A : Option Addr} {n cp : Nat} {L : Nat → Int} {D bl bd bo ba bn bi : Nat} {w wA w2 : World} {v v' : Value} {m : Nat} {out : List Ev} {at_ : Nat} (h : DS W A n cp L D bl bd bo ba bn bi w v m out at_) (e : Ev)
    (hA : Below w.heap.size w wA) (hW : Win w2 39 5 v' (m + 1) (evsC out ++ evsC [e])) (hG : wA.grownBy w2 v.ownBlock) (hO : v'.ownBlock = v.ownBlock ∨ v'.ownBlock = some wA.heap.size ∧ wA.heap.size < w2.heap.size) :
    DS W A n cp L D bl bd bo ba bn bi (w2.setCell ⟨bo, 0, none⟩ v') v' (m + 1) (out ++ [e]) at_ := by
  have hM : Made W w2 v' (m + 1) (out ++ [e]) := made_more h.made hA hW hG hO
  have lift : ∀ {b : Nat} {cs : Array Value} {t : TypeId}, Blk w b cs t → 39 ≠ t → Blk w2 b cs t := fun {b cs t} hb ht => (hb.go hA).lift hG (fun e => h.made.2.1.apart hb ht ((ob_iff _ _).1 e))
  have ho := lift h.o (by decide)
  have ne : ∀ {b : Nat} {cs : Array Value} {t : TypeId}, Blk w2 b cs t → t ≠ 23 → b ≠ bo := fun {b cs t} hb ht e => by
    subst e
    have := hb.symm.trans ho
    simp at this
    exact ht this.2
  have hl := lift h.l (by decide)
  have hd := lift h.d (by decide)
  have ha := lift h.a (by decide)
  have hx := lift h.x (by decide)
  have hi := lift h.i (by decide)
  have hb : Below W.heap.size w2 (w2.setCell ⟨bo, 0, none⟩ v') := (Below.refl _ _).setCell h.low.1 _
  have hw2 : Below W.heap.size w w2 := ((Below.refl W.heap.size w).trans (hA.mono h.made.1.size)).grown hG (Nat.le_trans h.made.1.size hA.size) (fun k hk => h.made.2.2 k ((ob_iff _ _).1 hk))
  have hap : bo ∉ Value.owner v' := hM.2.1.apart (t := 23) ho (by decide)
  exact ⟨hl.far (ne hl (by decide)) _, hd.far (ne hd (by decide)) _, ho.set 0 _, ha.far (ne ha (by decide)) _, hx.far (ne hx (by decide)) _, hi.far (ne hi (by decide)) _,
    ⟨hM.1.trans hb, hM.2.1.setCell_far hap _, hM.2.2⟩, by rw [List.length_append, h.len]; rfl, (h.ls.below hw2).below hb, h.da, h.low⟩
end Go.Proofs.Ytebnhelejebobaa
/-
  CONTRACT of truchmanbook.SameEvs: two lists that hold the same.
-/
namespace Go.Proofs.Ytebnhelejebobaa
open Go.RowKit
open Go.Lib
/-- Two lists that hold the same. -/
theorem same_evs (A A' : Option Addr) (n cp cp' : Nat) (E : Nat → Ev) (w : World) (hn : n ≤ 900) (hE : EvsAt w w.heap.size A n E) (hE' : EvsAt w w.heap.size A' n E) :
    Calls Try.prog 18 #[.slice A n cp, .slice A' n cp'] w fun r w' => r = .returned (.bool true) ∧ Below w.heap.size w w' := by
  have HE := Lib.hid hE
  have HE' := Lib.hid hE'
  clear hE hE'
  go_enter Try.func18, Try.ntmps18
  go_wp2
  go_loopw [5] (fun i wr => ∃ j : Nat, i = .int .i64 j ∧ j ≤ n ∧ Hid (Below w.heap.size w wr)) (fun i _ => n - (RowKit.intOf i).toNat)
  case atStart => exact ⟨0, rfl, by omega, Lib.hid (Below.refl _ _)⟩
  case round =>
    obtain ⟨j, rfl, hjn, HB⟩ := hrel
    by_cases hlt : j < n
    · obtain ⟨b, off, rfl, hb, x0, x1, x2, x3, x4⟩ := (HE.out.below HB.out).cells hlt
      obtain ⟨b', off', rfl, hb', y0, y1, y2, y3, y4⟩ := (HE'.out.below HB.out).cells hlt
      have he := fun W => ev_eql (E j) (E j) W
      rw [sameE_refl] at he
      generalize E j = e at *
      obtain ⟨k, y, m, t, c⟩ := e
      simp only [evV] at he x0 x1 x2 x3 x4 y0 y1 y2 y3 y4
      go_wp2
      go_quiet (fail)
      go_wp2
      go_roundw
      case rel => exact ⟨j + 1, rfl, hlt, Lib.hid (below_drN HB.out _)⟩
      case measure => simp [RowKit.intOf]; omega
    · obtain rfl : j = n := by omega
      go_wp2
      go_ret
      exact ⟨rfl, HB.out⟩
end Go.Proofs.Ytebnhelejebobaa
/-
  NO PROGRAM NEEDED: '(at%n + n) % n' is a place; wraps that do nothing.
-/
namespace Go.Proofs.Ytebnhelejebobaa
open Go.RowKit
open Go.Lib
theorem wrap64_of {x : Int} (h : -9223372036854775808 ≤ x ∧ x ≤ 9223372036854775807) : wrap64 x = x := by
  first | (rw [wrap64]; omega) | (unfold wrap64; omega) | (simp only [wrap64, IntKind.wrap_i64]; omega)
/-- '(at%n + n) % n' -/
theorem rem_place (a : Int) (n : Nat) (hn : 0 < n) (hm : n ≤ 1000000) : ∃ k : Nat, k < n ∧ ((wrap64 (a.tmod n + n)).tmod n) = (k : Int) := by
  have h1 := Int.tmod_lt_of_pos a (show (0 : Int) < n by omega)
  have h2 : -(n : Int) < a.tmod n := by
    have := Int.lt_tmod_of_pos a (show (0 : Int) < n by omega)
    exact this
  have hw : wrap64 (a.tmod n + n) = a.tmod n + n := wrap64_of (by omega)
  rw [hw]
  have h3 : 0 ≤ a.tmod n + n := by omega
  have h4 := Int.tmod_nonneg (n : Int) h3
  have h5 := Int.tmod_lt_of_pos (a.tmod n + n) (show (0 : Int) < n by omega)
  exact ⟨((a.tmod n + n).tmod n).toNat, by omega, by omega⟩
end Go.Proofs.Ytebnhelejebobaa
/-
  CONTRACT of the document's own lead (truchmanref1): what a byte says of the rune that it begins.
-/
namespace Go.Proofs.Ytebnhelejebobaa
open Go.RowKit
open Go.Lib
/-- The document's own table of first bytes. -/
def leadN (b : Nat) : Nat × Nat × Nat :=
  match openS b with
  | none => (0, 0, 0)
  | some (0, _, _) => (1, 0, 0)
  | some (n + 1, lo, hi) => (n + 2, lo, hi)
set_option maxHeartbeats 1600000 in
theorem lead_any (x : Nat) (w : World) :
    Calls Try.prog 49 #[.int .u8 x] w fun e w' => e = .returned (.tuple #[.int .i64 (leadN x).1, .int .u8 (leadN x).2.1, .int .u8 (leadN x).2.2]) ∧ w = w' := by
  by_cases c0 : (x : Int) < 128
  · skip
    have he : leadN x = (1, 0, 0) := by unfold leadN openS; rw [if_pos (by omega)]
    rw [he]
    go_enter Try.func49, Try.ntmps49
    go_wp2
    refine bodyPost_ret (results_tmp3 rfl _ _ _) rfl ?_
    exact ⟨rfl, rfl⟩
  by_cases c1 : (194 : Int) ≤ x ∧ (x : Int) ≤ 223
  · obtain ⟨c1a, c1b⟩ := c1
    have he : leadN x = (2, 128, 191) := by unfold leadN openS; rw [if_neg (by omega), if_pos (by omega)]
    rw [he]
    go_enter Try.func49, Try.ntmps49
    go_wp2
    refine bodyPost_ret (results_tmp3 rfl _ _ _) rfl ?_
    exact ⟨rfl, rfl⟩
  have c1' : (194 : Int) ≤ x → ¬ (x : Int) ≤ 223 := fun h h' => c1 ⟨h, h'⟩
  clear c1
  by_cases d1 : (194 : Int) ≤ x
  · have c1'' := c1' d1
    clear c1'
    by_cases c2 : (x : Int) = 224
    · have c2z : ((x : Int) == 224) = true := by rw [beq_iff_eq]; exact c2
      have he : leadN x = (3, 160, 191) := by unfold leadN openS; rw [if_neg (by omega), if_neg (by omega), if_pos (by omega)]
      rw [he]
      go_enter Try.func49, Try.ntmps49
      go_wp2
      refine bodyPost_ret (results_tmp3 rfl _ _ _) rfl ?_
      exact ⟨rfl, rfl⟩
    have c2z : ((x : Int) == 224) = false := by rw [beq_eq_false_iff_ne]; exact c2
    by_cases c3 : (x : Int) = 237
    · have c3z : ((x : Int) == 237) = true := by rw [beq_iff_eq]; exact c3
      have he : leadN x = (3, 128, 159) := by unfold leadN openS; rw [if_neg (by omega), if_neg (by omega), if_neg (by omega), if_pos (by omega)]
      rw [he]
      go_enter Try.func49, Try.ntmps49
      go_wp2
      refine bodyPost_ret (results_tmp3 rfl _ _ _) rfl ?_
      exact ⟨rfl, rfl⟩
    have c3z : ((x : Int) == 237) = false := by rw [beq_eq_false_iff_ne]; exact c3
    have c4a : (225 : Int) ≤ x := by omega
    by_cases c4 : (x : Int) ≤ 239
    · skip
      have he : leadN x = (3, 128, 191) := by unfold leadN openS; rw [if_neg (by omega), if_neg (by omega), if_neg (by omega), if_neg (by omega), if_pos (by omega)]
      rw [he]
      go_enter Try.func49, Try.ntmps49
      go_wp2
      refine bodyPost_ret (results_tmp3 rfl _ _ _) rfl ?_
      exact ⟨rfl, rfl⟩
    by_cases c5 : (x : Int) = 240
    · have c5z : ((x : Int) == 240) = true := by rw [beq_iff_eq]; exact c5
      have he : leadN x = (4, 144, 191) := by unfold leadN openS; rw [if_neg (by omega), if_neg (by omega), if_neg (by omega), if_neg (by omega), if_neg (by omega), if_pos (by omega)]
      rw [he]
      go_enter Try.func49, Try.ntmps49
      go_wp2
      refine bodyPost_ret (results_tmp3 rfl _ _ _) rfl ?_
      exact ⟨rfl, rfl⟩
    have c5z : ((x : Int) == 240) = false := by rw [beq_eq_false_iff_ne]; exact c5
    have c6a : (241 : Int) ≤ x := by omega
    by_cases c6 : (x : Int) ≤ 243
    · skip
      have he : leadN x = (4, 128, 191) := by unfold leadN openS; rw [if_neg (by omega), if_neg (by omega), if_neg (by omega), if_neg (by omega), if_neg (by omega), if_neg (by omega), if_pos (by omega)]
      rw [he]
      go_enter Try.func49, Try.ntmps49
      go_wp2
      refine bodyPost_ret (results_tmp3 rfl _ _ _) rfl ?_
      exact ⟨rfl, rfl⟩
    by_cases c7 : (x : Int) = 244
    · have c7z : ((x : Int) == 244) = true := by rw [beq_iff_eq]; exact c7
      have he : leadN x = (4, 128, 143) := by unfold leadN openS; rw [if_neg (by omega), if_neg (by omega), if_neg (by omega), if_neg (by omega), if_neg (by omega), if_neg (by omega), if_neg (by omega), if_pos (by omega)]
      rw [he]
      go_enter Try.func49, Try.ntmps49
      go_wp2
      refine bodyPost_ret (results_tmp3 rfl _ _ _) rfl ?_
      exact ⟨rfl, rfl⟩
    have c7z : ((x : Int) == 244) = false := by rw [beq_eq_false_iff_ne]; exact c7
    have he : leadN x = (0, 0, 0) := by unfold leadN openS; rw [if_neg (by omega), if_neg (by omega), if_neg (by omega), if_neg (by omega), if_neg (by omega), if_neg (by omega), if_neg (by omega), if_neg (by omega)]
    rw [he]
    go_enter Try.func49, Try.ntmps49
    go_wp2
    refine bodyPost_ret (results_tmp3 rfl _ _ _) rfl ?_
    exact ⟨rfl, rfl⟩
  · have c1a : (x : Int) < 194 := by omega
    clear c1'
    have c2z : ((x : Int) == 224) = false := by rw [beq_eq_false_iff_ne]; omega
    have c3z : ((x : Int) == 237) = false := by rw [beq_eq_false_iff_ne]; omega
    have c4 : ¬ (225 : Int) ≤ x := by omega
    have c5z : ((x : Int) == 240) = false := by rw [beq_eq_false_iff_ne]; omega
    have c6 : ¬ (241 : Int) ≤ x := by omega
    have c7z : ((x : Int) == 244) = false := by rw [beq_eq_false_iff_ne]; omega
    have he : leadN x = (0, 0, 0) := by unfold leadN openS; rw [if_neg (by omega), if_neg (by omega), if_neg (by omega), if_neg (by omega), if_neg (by omega), if_neg (by omega), if_neg (by omega), if_neg (by omega)]
    rw [he]
    go_enter Try.func49, Try.ntmps49
    go_wp2
    refine bodyPost_ret (results_tmp3 rfl _ _ _) rfl ?_
    exact ⟨rfl, rfl⟩
end Go.Proofs.Ytebnhelejebobaa
/-
  NO PROGRAM NEEDED (but for names): what chapter 15's law on texts asks of each byte; a []byte that a loop fills.
-/
namespace Go.Proofs.Ytebnhelejebobaa
open Go.RowKit
open Go.Lib
/-- A text's bytes, behind its head. -/
def txBq (m : Bool) (n : Nat) (c : UInt8) : List UInt8 := txPk m n ++ List.replicate n c
theorem txBq_len (m : Bool) (n : Nat) (c : UInt8) : (txBq m n c).length = (txPk m n).length + n := by simp [txBq]
/-- The reader's place behind so many bytes. -/
def txSq (m : Bool) (n : Nat) (c : UInt8) (i : Nat) : Pm := (runPm 3 pm0 ((txBq m n c).take i)).1
theorem txSq_0 (m : Bool) (n : Nat) (c : UInt8) : txSq m n c 0 = pm0 := rfl
/-- A BYTE OF ONE THAT IS SHORT ENOUGH. -/
theorem txSq_step (m : Bool) (n : Nat) (c : UInt8) (hn : n ≤ 200) (hc : c.toNat < 128) (i : Nat) (hi : i < (txBq m n c).length) :
    (stepPm 3 (txSq m n c i) (txBq m n c)[i]).1 = txSq m n c (i + 1) ∧ errPm (txSq m n c (i + 1)) = 0 ∧
    (i + 1 < (txBq m n c).length → (stepPm 3 (txSq m n c i) (txBq m n c)[i]).2 = [] ∧ heldPm (txSq m n c (i + 1)) = i + 1 - (txPk m n).length) ∧
    (i + 1 = (txBq m n c).length → (stepPm 3 (txSq m n c i) (txBq m n c)[i]).2.length = 1 ∧ heldPm (txSq m n c (i + 1)) = 0 ∧ donePm (txSq m n c (i + 1)) = true) := by
  have hr := runPm_snoc 3 pm0 (txBq m n c) i hi
  have hl := txBq_len m n c
  obtain ⟨j, h1, h2, h3⟩ := textsP_pre m n c hn hc i (by omega)
  have h1' : runPm 3 pm0 ((txBq m n c).take i) = (j, []) := h1
  have hs : txSq m n c i = j := by unfold txSq; rw [h1']
  rw [h1'] at hr
  simp only [List.nil_append] at hr
  have e1 : (stepPm 3 (txSq m n c i) (txBq m n c)[i]).1 = txSq m n c (i + 1) := by
    rw [hs]; unfold txSq; rw [hr]
  have hfull : i + 1 = (txBq m n c).length → runPm 3 pm0 ((txBq m n c).take (i + 1)) = (.c (.item [] true), [evTxC m (List.replicate n c)]) := by
    intro h
    rw [h, List.take_length]
    exact textsP_end m n c hn hc
  refine ⟨e1, ?_, fun h => ?_, fun h => ?_⟩
  · by_cases h : i + 1 < (txBq m n c).length
    · obtain ⟨j', g1, g2, _⟩ := textsP_pre m n c hn hc (i + 1) (by omega)
      have : txSq m n c (i + 1) = j' := by unfold txSq; exact congrArg Prod.fst g1
      rw [this]; exact g2
    · have : txSq m n c (i + 1) = .c (.item [] true) := by unfold txSq; rw [hfull (by omega)]
      rw [this]; rfl
  · obtain ⟨j', g1, _, g3⟩ := textsP_pre m n c hn hc (i + 1) (by omega)
    have g1' : runPm 3 pm0 ((txBq m n c).take (i + 1)) = (j', []) := g1
    have : txSq m n c (i + 1) = j' := by unfold txSq; rw [g1']
    rw [this, hs]
    rw [hr] at g1'
    exact ⟨congrArg Prod.snd g1', g3⟩
  · have h9 := hfull h
    have : txSq m n c (i + 1) = .c (.item [] true) := by unfold txSq; rw [h9]
    rw [this, hs]
    rw [hr] at h9
    have h10 : (stepPm 3 j (txBq m n c)[i]).2 = _ := congrArg Prod.snd h9
    rw [h10]
    exact ⟨rfl, rfl, rfl⟩
/-- A BYTE OF THE HEAD OF ONE THAT IS TOO LONG. -/
theorem txSq_large (m : Bool) (n : Nat) (c : UInt8) (hn : 200 < n) (hv : n < 4294967296) (i : Nat) (hi : i < (txPk m n).length) (hi2 : i < (txBq m n c).length) :
    (stepPm 3 (txSq m n c i) (txBq m n c)[i]).1 = txSq m n c (i + 1) ∧ (stepPm 3 (txSq m n c i) (txBq m n c)[i]).2 = [] ∧ errPm (txSq m n c (i + 1)) = if i + 1 = (txPk m n).length then 5 else 0 := by
  have hr := runPm_snoc 3 pm0 (txBq m n c) i hi2
  have ht : ∀ k, k ≤ (txPk m n).length → (txBq m n c).take k = (txPk m n).take k := fun k hk => List.take_append_of_le_length hk
  have hpre : ∀ k, k < (txPk m n).length → ∃ j, runPm 3 pm0 ((txBq m n c).take k) = (j, []) ∧ errPm j = 0 := fun k hk => by
    obtain ⟨j, g1, g2, _⟩ := txP_pre (D := 3) (s := []) (m := m) (n := n) (by simp [keyB]) k hk
    exact ⟨j, by rw [ht k (by omega)]; exact g1, g2⟩
  obtain ⟨j, h1, _⟩ := hpre i hi
  have hs : txSq m n c i = j := by unfold txSq; rw [h1]
  rw [h1] at hr
  simp only [List.nil_append] at hr
  have e1 : (stepPm 3 (txSq m n c i) (txBq m n c)[i]).1 = txSq m n c (i + 1) := by
    rw [hs]; unfold txSq; rw [hr]
  by_cases h : i + 1 = (txPk m n).length
  · have g : runPm 3 pm0 ((txBq m n c).take (i + 1)) = (.c (.bad 5), []) := by
      rw [ht _ (by omega), h, List.take_length]
      exact textsP_large m n hn hv
    have : txSq m n c (i + 1) = .c (.bad 5) := by unfold txSq; rw [g]
    rw [hr] at g
    refine ⟨e1, ?_, ?_⟩
    · rw [hs]; exact congrArg Prod.snd g
    · rw [this, if_pos h]; rfl
  · obtain ⟨j', g1, g2⟩ := hpre (i + 1) (by omega)
    have : txSq m n c (i + 1) = j' := by unfold txSq; rw [g1]
    rw [hr] at g1
    refine ⟨e1, ?_, ?_⟩
    · rw [hs]; exact congrArg Prod.snd g1
    · rw [this, if_neg h]; exact g2
end Go.Proofs.Ytebnhelejebobaa
