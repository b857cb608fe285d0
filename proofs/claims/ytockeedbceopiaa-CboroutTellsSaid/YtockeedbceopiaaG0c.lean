/-
  CONTRACT of the document's own Writer, for JSON: a value. CONTRACT of the document's own Writer, for JSON: a value within a container. THE SHELF AT THIS DUMP, IN PLAIN WORDS: strings.Builder (a new one, String): contracts that the kit's library proves once over any program; what is laid here is only the table of numbers. THE SHELF AT THIS DUMP, IN PLAIN WORDS: strings.Builder (WriteString): contracts that the kit's library proves once over any program; what is laid here is only the table of numbers. A strings.Builder beside steps in blocks of other types. TWO PLAIN PARTS held against each other, by == and !=. CONTRACT of truchmanbook.SameEvs: two lists that hold the same. CONTRACTS of package truchmanbook: copyEvs, LentEvs, StaysEvs. NO PROGRAM NEEDED: what chapter 14 asks of CBOR's writer, over the machine of CoutPure: with counts that are not known a container is a byte longer; one part alone. CONTRACTS of the book's documents out of numbers (truchmanbook.Doc, text, Open). CONTRACTS of the book's documents out of numbers: what the closures of truchmanbook.Doc do, step by step. CONTRACTS of the book's documents out of numbers: one item after another, to the depth asked. THE BOOK'S DOCUMENTS OUT OF NUMBERS, AS LISTS: how many parts; that they are one document, with counts or without; what JSON has. THE BOOK'S DOCUMENTS OUT OF NUMBERS, AS LISTS: their numbers, their texts; what JSON has. NO PROGRAM NEEDED: documents written part by part, as far as they are written; blanks ahea
-/
import Derived.Test.YtockeedbceopiaaG0b
import Derived.Deep.RegionWith
import Derived.Deep.QuietTactic
import Derived.StillTail
import Derived.Deep.RegionLaw
import Derived.Shelf.Strings.BuilderF
import Derived.Shelf.Strings.BuilderK
import Derived.Below
import Derived.Test.YtockeedbceopiaaProg
import Derived.Test.YtockeedbceopiaaG0a
import Derived.Defers
import Derived.Recover
/-
  CONTRACT of the document's own Writer, for JSON: a value.
-/
namespace Go.Proofs.Ytockeedbceopiaa
open Go.RowKit
open Go.Lib
set_option maxRecDepth 100000 in
set_option maxHeartbeats 4000000 in
theorem wr_val0 {M B b : Nat} {w : World} (h : WrAt M B w b [] false) (e : Ev) (hk : e.k = 0 ∨ e.k = 1 ∨ e.k = 2 ∨ e.k = 3 ∨ e.k = 4) (X : ByteArray) (hX : X.size ≤ 100000)
    (hP : ∀ W, Calls Try.prog 27 #[.int .i64 1, evV e] W fun r w' => r = .returned (.tuple #[.string X, .int .i64 0]) ∧ Below W.heap.size W w') :
    Calls Try.prog 13 #[.pointer (some ⟨b, 0, none⟩), evV e] w fun q w' => q = .returned (.tuple #[.string X, .int .i64 0]) ∧ WrAt M B w' b [] true ∧ Bew B b w w' := by
  obtain ⟨a, cp, hA, hS⟩ := h.cells
  have hBw : B ≤ w.heap.size := h.low
  have HM : Hid (∀ X, Calls Try.prog 16 #[evV e] (w.alloc X) fun r w' => r = .returned (.bool true) ∧ Below (w.alloc X).heap.size (w.alloc X) w') := Lib.hid fun X => by
    have := may_any e (w.alloc X)
    rwa [decide_eq_true (show mayE e from ⟨by omega, by omega, by omega⟩)] at this
  have HP := Lib.hid hP
  obtain ⟨k, y, m, t, c⟩ := e
  simp only [evV] at HM HP hk ⊢
  have n7 : (k == 7) = false := by rw [beq_eq_false_iff_ne]; omega
  have n5 : (k == 5) = false := by rw [beq_eq_false_iff_ne]; omega
  have n6 : (k == 6) = false := by rw [beq_eq_false_iff_ne]; omega
  have HH := Lib.hid h
  have HS := Lib.hid hS
  have HA := Lib.hid hA
  have hA0 := (hA.alloc (by simp) (.cells #[.int .i64 k, .bool y, .int .u64 m, .string t, .int .i64 c] 35))
  obtain ⟨⟨k0, _⟩, ⟨k1, _⟩, ⟨k2, _⟩⟩ := at_three hA0
  simp only [List.length_nil] at k1 HA HS
  clear h hA hS hA0 hP hk
  go_enter Try.func13, Try.ntmps13
  go_wp2_with fail
  refine (HM.out _).mono ?_
  rintro e w1 ⟨rfl, hb1⟩
  have E1 := Lib.hid ((blk_new w _ _).go hb1)
  obtain ⟨⟨e0, e1, e2, e3, e4⟩, ef⟩ := E1.out.ev
  have hbw1 := up_trans (up_alloc (Below.refl w.heap.size w) (.cells #[.int .i64 k, .bool y, .int .u64 m, .string t, .int .i64 c] 35)) hb1
  have A1 := Lib.hid (HA.out.keep (hbw1.block b HH.out.lt))
  have HB1 := Lib.hid hbw1
  clear hb1 ef k0 k1 k2 hbw1
  obtain ⟨⟨k0, q0⟩, ⟨k1, q1⟩, ⟨k2, q2⟩⟩ := at_three A1.out
  go_wp2
  go_region_with (go_at_call 27; refine (HP.out _).mono ?_; rintro r w2 ⟨rfl, hb2⟩)
  all_goals
    have hW1 := HH.out.go HB1.out
    have hb2' : Below w1.heap.size w1 w2 := ⟨hb2.os, hb2.tape, hb2.output, hb2.size, hb2.block⟩
    have A2 := A1.out.keep (hb2'.block b hW1.lt)
    have HW2 := Lib.hid (hW1.go hb2')
    have HBB := Lib.hid (up_trans HB1.out hb2')
    have HA2 := Lib.hid A2
    obtain ⟨⟨p0, r0⟩, ⟨p1, r1⟩, ⟨p2, r2⟩⟩ := at_three A2
    have hcat : (⟨#[]⟩ : ByteArray) ++ X = X := by apply ByteArray.ext; simp
    have HC := Lib.hid hcat
    have hE2 : w2.cell? ⟨w.heap.size, 0, none⟩ = some (.int .i64 k) := (World.cell?_of_block (w := w1) (a := ⟨w.heap.size, 0, none⟩) (hb2'.block _ E1.out.lt)).trans e0
    have hne : w.heap.size ≠ b := by have := HH.out.lt; omega
    have hE3 : (w2.setCell ⟨b, 2, none⟩ (.bool true)).cell? ⟨w.heap.size, 0, none⟩ = some (.int .i64 k) := by
      rw [World.cell?_setCell_other _ _ _ _ (fun e => hne (congrArg Addr.block e).symm)]
      exact hE2
    clear A2 hb2 hb2' hW1 hcat e0 e1 e2 e3 e4 k0 k1 k2 q0 q1 q2 hE2
    go_wp2
    go_ret2
    refine ⟨by rw [HC.out]; rfl, (HW2.out.fin true).1, ?_⟩
    exact (HBB.out.mono hBw).bew.trans (HW2.out.fin true).2
end Go.Proofs.Ytockeedbceopiaa
/-
  CONTRACT of the document's own Writer, for JSON: a value within a container.
-/
namespace Go.Proofs.Ytockeedbceopiaa
open Go.RowKit
open Go.Lib
/-- Behind 'Open = append(nil, Open...)', stored; then one part more in the last. -/
theorem wr_inc {M B b : Nat} {V w3 : World} {bx : Bx} {r : List Bx} {v3 : Value} {n' : Nat} (hn' : r.length = n') (h : WrAt M B V b (bx :: r) false) (hM : M + 1 ≤ 1000) (hW3 : Win w3 69 3 v3 (n' + 1) (bxsL (bx :: r))) (hG3 : V.grownBy w3 (Value.slice none 0 0).ownBlock)
    (hO3 : v3.ownBlock = (Value.slice none 0 0).ownBlock ∨ v3.ownBlock = some V.heap.size ∧ V.heap.size < w3.heap.size) :
    ∃ g3 off3 c3, v3 = .slice (some ⟨g3, off3, none⟩) (n' + 1) c3 ∧ (w3.cell? ⟨b, 0, none⟩ = some (.int .i64 1) ∧ (∃ u, w3.cell? ⟨b, 1, none⟩ = some u ∧ w3.frozen? ⟨b, 1, none⟩ = false) ∧ w3.cell? ⟨b, 2, none⟩ = some (.bool false)) ∧ g3 ≠ b ∧
      (w3.cell? ⟨g3, off3 + n' * 3 + 2, none⟩ = some (.int .i64 (bx.have_ : Int)) ∧ w3.frozen? ⟨g3, off3 + n' * 3 + 2, none⟩ = false) ∧
      WrAt (M + 1) B ((w3.setCell ⟨b, 1, none⟩ v3).setCell ⟨g3, off3 + n' * 3 + 2, none⟩ (.int .i64 ((bx.have_ : Int) + 1))) b (incB (bx :: r)) false ∧
      Bew B b V ((w3.setCell ⟨b, 1, none⟩ v3).setCell ⟨g3, off3 + n' * 3 + 2, none⟩ (.int .i64 ((bx.have_ : Int) + 1))) := by
  subst hn'
  have hBV : B ≤ V.heap.size := h.low
  obtain ⟨a, cp, hA, hS⟩ := h.cells
  obtain ⟨cs, hcs⟩ := h.blk
  obtain ⟨hK, hKB⟩ := stk_new (M := M) (B := B) (s := bx :: r) hBV (by simp [Value.owner]) rfl rfl hW3 hG3 hO3 hS.ok hS.deep hS.most
  have hblk : w3.heap[b]? = V.heap[b]? := hG3.block b h.lt (by simp [Value.ownBlock])
  have A3 := hA.keep hblk
  have hw3 : w3.heap[b]? = some (.cells cs 32 (0, 0)) := hblk.trans hcs
  obtain ⟨g3, off3, N, c3, rfl, hN, _, ⟨_, _, z2⟩, ⟨_, _, f2⟩⟩ := hK.last
  subst hN
  have hap : b ∉ Value.owner (.slice (some ⟨g3, off3, none⟩) (r.length + 1) c3) := hK.win.apart (t := 32) hw3 (by decide)
  have hgb : g3 ≠ b := fun e => hap (by simp [Value.owner, e])
  obtain ⟨⟨p0, _⟩, ⟨p1, p1'⟩, ⟨p2, _⟩⟩ := at_three A3
  have K4 : Stk M B (w3.setCell ⟨b, 1, none⟩ (.slice (some ⟨g3, off3, none⟩) (r.length + 1) c3)) (bx :: r) (.slice (some ⟨g3, off3, none⟩) (r.length + 1) c3) := ⟨hK.win.setCell_far hap _, hK.vB, hK.ok, hK.deep, hK.most⟩
  obtain ⟨K5, hg5⟩ := K4.inc hM rfl
  have A4 := A3.set 1 (by simp) (.slice (some ⟨g3, off3, none⟩) (r.length + 1) c3)
  have hw4 := heap_setCell_at w3 ⟨b, 1, none⟩ (.slice (some ⟨g3, off3, none⟩) (r.length + 1) c3) _ _ _ rfl hw3
  have hw5 : ((w3.setCell ⟨b, 1, none⟩ (.slice (some ⟨g3, off3, none⟩) (r.length + 1) c3)).setCell ⟨g3, off3 + r.length * 3 + 2, none⟩ (.int .i64 ((bx.have_ : Int) + 1))).heap[b]? = (w3.setCell ⟨b, 1, none⟩ (.slice (some ⟨g3, off3, none⟩) (r.length + 1) c3)).heap[b]? := Below.heap_setCell _ _ _ b (fun e => hgb e.symm)
  refine ⟨g3, off3, c3, rfl, ⟨p0, ⟨_, p1, p1'⟩, p2⟩, hgb, ⟨z2, f2⟩, ⟨⟨some ⟨g3, off3, none⟩, c3, ?_, ?_⟩, ⟨_, hw5.trans hw4⟩, by
    have := hKB.size
    simp only [World.setCell, Array.size_modify]
    omega⟩, ?_⟩
  · have : (incB (bx :: r)).length = r.length + 1 := rfl
    rw [this]
    exact At.keep (w := w3.setCell ⟨b, 1, none⟩ (.slice (some ⟨g3, off3, none⟩) (r.length + 1) c3)) (by simpa using A4) hw5
  · exact K5.zero
  · exact (hKB.bew.set _ _).setFar hg5 _
end Go.Proofs.Ytockeedbceopiaa
/-
  THE SHELF AT THIS DUMP, IN PLAIN WORDS: strings.Builder (a new one, String): contracts that the kit's library proves once over any program; what is laid here is only the table of numbers.
-/
namespace Go.Proofs.Ytockeedbceopiaa
open Go.Shelf
open Go.RowKit
def lays169_ren : Go.Shelf.Ren := ⟨fun | 169 => 29 | n => n,
  fun | 0 => 0 | 3 => 3 | 5 => 5 | 9 => 9 | 37 => 70 | 70 => 73 | 72 => 75 | 127 => 96 | n => n, fun | n => n⟩
theorem lays169 : Go.Proofs.Lays.n169 Try.prog lays169_ren := {
  mixed := by kernel_rfl
  f169 := Try.func29.trans (congrArg some (by kernel_rfl))
  t0 := Try.underlying0
  a0 := Try.isAgg0
  z0 := Try.sizeOf0
  v0 := Try.zeroValue0
  t3 := Try.underlying3
  a3 := Try.isAgg3
  z3 := Try.sizeOf3
  v3 := Try.zeroValue3
  t9 := Try.underlying9
  a9 := Try.isAgg9
  z9 := Try.sizeOf9
  v9 := Try.zeroValue9
  t37 := Try.underlying70
  a37 := Try.isAgg70
  z37 := Try.sizeOf70
  v37 := Try.zeroValue70
  t70 := Try.underlying73
  a70 := Try.isAgg73
  z70 := Try.sizeOf73
  v70 := Try.zeroValue73
  t72 := Try.underlying75
  a72 := Try.isAgg75
  z72 := Try.sizeOf75
  v72 := Try.zeroValue75
  t127 := Try.underlying96
  a127 := Try.isAgg96
  z127 := Try.sizeOf96
  v127 := Try.zeroValue96 }
theorem builder_Extra169 : Builder.Extra Try.prog lays169_ren where
  sizeBuilder := by kernel_rfl
  liesBuilder := by kernel_rfl
  t5 := Try.underlying5
  a5 := Try.isAgg5
  z5 := Try.sizeOf5
  v5 := Try.zeroValue5
  infoByte := by kernel_rfl
  cellsByte := by kernel_rfl
  sizeByte := by kernel_rfl
  neB5 := by decide
/-- A Builder at block b (blocks from B on are its own) that holds bytes. -/
abbrev IsB (B b : Nat) (bs : List UInt8) (w : World) : Prop := Lib.IsBuilderF 75 5 B b (Lib.byteCells bs) w
/-- A new one. -/
theorem isB_new (B b : Nat) (w : World) (hB : B ≤ b) (h : w.heap[b]? = some (.cells #[.pointer none, .slice none 0 0] 75 (0, 0))) : IsB B b [] w :=
  .inl ⟨hB, .slice none 0 0, h, World.ownsRowF_nil _ _ _ _, by simp [Value.ownBlock]⟩
/-- String, by the shelf. -/
theorem sb_string (B b : Nat) (l : List UInt8) (w : World) (h : IsB B b l w) (hBw : B ≤ w.heap.size) :
    Calls Try.prog 29 #[.pointer (some ⟨b, 0, none⟩)] w fun e w' => e = .returned (.string ⟨l.toArray⟩) ∧ (IsB B b l w' ∧ Below B w w' ∧ Lib.OthersKept 5 (some b) w w') := Any.Builder_String_any_k lays169 builder_Extra169 B b l w h hBw
end Go.Proofs.Ytockeedbceopiaa
/-
  THE SHELF AT THIS DUMP, IN PLAIN WORDS: strings.Builder (WriteString): contracts that the kit's library proves once over any program; what is laid here is only the table of numbers.
-/
namespace Go.Proofs.Ytockeedbceopiaa
open Go.Shelf
open Go.RowKit
def lays166_ren : Go.Shelf.Ren := ⟨fun | 166 => 30 | 240 => 49 | 276 => 61 | n => n,
  fun | 0 => 0 | 3 => 3 | 4 => 4 | 5 => 5 | 9 => 9 | 20 => 20 | 37 => 70 | 70 => 73 | 72 => 75 | 75 => 78 | 80 => 76 | 164 => 107 | n => n, fun | n => n⟩
theorem lays166 : Go.Proofs.Lays.n166 Try.prog lays166_ren := {
  mixed := by kernel_rfl
  f166 := Try.func30.trans (congrArg some (by kernel_rfl))
  f240 := Try.func49.trans (congrArg some (by kernel_rfl))
  f276 := Try.func61.trans (congrArg some (by kernel_rfl))
  t0 := Try.underlying0
  a0 := Try.isAgg0
  z0 := Try.sizeOf0
  v0 := Try.zeroValue0
  t3 := Try.underlying3
  a3 := Try.isAgg3
  z3 := Try.sizeOf3
  v3 := Try.zeroValue3
  t4 := Try.underlying4
  a4 := Try.isAgg4
  z4 := Try.sizeOf4
  v4 := Try.zeroValue4
  t9 := Try.underlying9
  a9 := Try.isAgg9
  z9 := Try.sizeOf9
  v9 := Try.zeroValue9
  t20 := Try.underlying20
  a20 := Try.isAgg20
  z20 := Try.sizeOf20
  v20 := Try.zeroValue20
  t37 := Try.underlying70
  a37 := Try.isAgg70
  z37 := Try.sizeOf70
  v37 := Try.zeroValue70
  t70 := Try.underlying73
  a70 := Try.isAgg73
  z70 := Try.sizeOf73
  v70 := Try.zeroValue73
  t72 := Try.underlying75
  a72 := Try.isAgg75
  z72 := Try.sizeOf75
  v72 := Try.zeroValue75
  t75 := Try.underlying78
  a75 := Try.isAgg78
  z75 := Try.sizeOf78
  v75 := Try.zeroValue78
  t164 := Try.underlying107
  a164 := Try.isAgg107
  z164 := Try.sizeOf107
  v164 := Try.zeroValue107 }
theorem builder_Extra166 : Builder.Extra Try.prog lays166_ren where
  sizeBuilder := by kernel_rfl
  liesBuilder := by kernel_rfl
  t5 := Try.underlying5
  a5 := Try.isAgg5
  z5 := Try.sizeOf5
  v5 := Try.zeroValue5
  infoByte := by kernel_rfl
  cellsByte := by kernel_rfl
  sizeByte := by kernel_rfl
  neB5 := by decide
/-- WriteString, by the shelf. -/
theorem sb_write (B b : Nat) (bs : List UInt8) (s : ByteArray) (w : World) (h : IsB B b bs w) (hlen : bs.length + s.size ≤ 140737488355328) (hBw : B ≤ w.heap.size) :
    Calls Try.prog 30 #[.pointer (some ⟨b, 0, none⟩), .string s] w fun e w' => e = .returned (.tuple #[.int .i64 s.size, .nilIface]) ∧ (IsB B b (bs ++ s.data.toList) w' ∧ Below B w w' ∧ Lib.OthersKept 5 (some b) w w') := by
  refine (Any.Builder_WriteString_k lays166 builder_Extra166 B b (Lib.byteCells bs) s w h (by rw [Lib.byteCells_length]; exact hlen) hBw).mono ?_
  rintro e w' ⟨rfl, h1, h2, h3⟩
  refine ⟨rfl, ?_, h2, h3⟩
  have : Lib.byteCells (bs ++ s.data.toList) = Lib.byteCells bs ++ Lib.strCells s := by
    rw [Lib.byteCells_append]
    rfl
  unfold IsB
  rw [this]
  exact .inr h1
end Go.Proofs.Ytockeedbceopiaa
/-
  A strings.Builder beside steps in blocks of other types.
-/
namespace Go.Proofs.Ytockeedbceopiaa
open Go.RowKit
open Go.Lib
theorem isB_off {B b : Nat} {bs : List UInt8} {w w' : World} {ts : List Nat} (h : IsB B b bs w) (k : Off ts w w') (h1 : 75 ∉ ts) (h2 : 5 ∉ ts) : IsB B b bs w' := by
  have one : ∀ p, Lib.BuilderAtF 75 5 B b p (Lib.byteCells bs) w → Lib.BuilderAtF 75 5 B b p (Lib.byteCells bs) w' := by
    rintro p ⟨hB, v, hb, ⟨hl, hown⟩, hv⟩
    refine ⟨hB, v, k _ _ _ _ hb h1, ⟨hl, ?_⟩, hv⟩
    rcases hown with h0 | ⟨g, cap, cur, fz, hv', hg, hc, r⟩
    · exact .inl h0
    · exact .inr ⟨g, cap, cur, fz, hv', hg, k _ _ _ _ hc h2, r⟩
  rcases h with h | h
  · exact .inl (one _ h)
  · exact .inr (one _ h)
theorem IsB.typ {B b : Nat} {bs : List UInt8} {w : World} (h : IsB B b bs w) : ∃ cs fr, w.heap[b]? = some (.cells cs 75 fr) := by
  rcases h with ⟨_, v, hb, _⟩ | ⟨_, v, hb, _⟩ <;> exact ⟨_, _, hb⟩
/-- A step of a Builder. -/
theorem off_kept {B b : Nat} {bs : List UInt8} {w w' : World} (h : IsB B b bs w) (k : Lib.OthersKept 5 (some b) w w') : Off [75, 5] w w' := by
  intro i c t fr hi ht
  refine k i _ hi ?_ ?_
  · intro e
    cases e
    obtain ⟨cs, fr', hc⟩ := h.typ
    rw [hi] at hc
    cases hc
    exact ht (by simp)
  · intro c' fz e
    cases e
    exact ht (by simp)

end Go.Proofs.Ytockeedbceopiaa
/-
  TWO PLAIN PARTS held against each other, by == and !=.
-/
namespace Go.Proofs.Ytockeedbceopiaa
open Go.RowKit
open Go.Lib
/-- Two plain parts, cell by cell. -/
def sameE (X Y : Ev) : Bool := (X.k == Y.k) && (X.y == Y.y) && (X.m == Y.m) && (X.t.toList == Y.t.toList) && (X.c == Y.c)
theorem bytes_eq {a b : ByteArray} (h : a.toList = b.toList) : a = b := by
  apply ByteArray.ext
  simp only [ByteArray.toList_eq] at h
  exact Array.ext' h
theorem sameE_iff (X Y : Ev) : sameE X Y = true ↔ X = Y := by
  obtain ⟨k, y, m, t, c⟩ := X
  obtain ⟨k', y', m', t', c'⟩ := Y
  simp only [sameE, Bool.and_eq_true, beq_iff_eq, Ev.mk.injEq]
  constructor
  · rintro ⟨⟨⟨⟨h1, h2⟩, h3⟩, h4⟩, h5⟩
    exact ⟨h1, h2, h3, bytes_eq h4, h5⟩
  · rintro ⟨h1, h2, h3, h4, h5⟩
    exact ⟨⟨⟨⟨h1, h2⟩, h3⟩, by rw [h4]⟩, h5⟩
theorem sameE_refl (X : Ev) : sameE X X = true := (sameE_iff X X).2 rfl
theorem sameE_comm (X Y : Ev) : sameE X Y = sameE Y X := by
  rw [Bool.eq_iff_iff, sameE_iff, sameE_iff]
  exact eq_comm
theorem sameE_ne {X Y : Ev} (h : X ≠ Y) : sameE X Y = false := by
  cases hs : sameE X Y with
  | false => rfl
  | true => exact absurd ((sameE_iff X Y).1 hs) h
theorem natb (a b : Nat) : (((a : Int)) == (b : Int)) = (a == b) := by
  rw [Bool.eq_iff_iff, beq_iff_eq, beq_iff_eq]
  omega
theorem ev_eql (X Y : Ev) (W : World) : (binOp .eql 35 (evV X) (evV Y)).run Try.prog W = .ok (.bool (sameE X Y)) W := by
  have hp : Try.prog.stoodInHeld 35 = false := by kernel_rfl
  have hs : Try.prog.underlying 35 = some (.struct (Try.prog.fieldsOf 35)) := by kernel_rfl
  simp only [run_eql_struct, evV]
  rw [run_equalIn_agg _ _ _ _ _ hs hp]
  simp [go_sem]
  have h3' : ((X.m : Int) = (Y.m : Int)) ↔ X.m = Y.m := by omega
  simp only [h3']
  by_cases h1 : X.k = Y.k <;> by_cases h2 : X.y = Y.y <;> by_cases h3 : X.m = Y.m <;> by_cases h4 : X.t.toList = Y.t.toList <;> by_cases h5 : X.c = Y.c <;> simp [sameE, h1, h2, h3, h4, h5]
theorem ev_neq (X Y : Ev) (W : World) : (binOp .neq 35 (evV X) (evV Y)).run Try.prog W = .ok (.bool (!sameE X Y)) W := by
  have hp : Try.prog.stoodInHeld 35 = false := by kernel_rfl
  have hs : Try.prog.underlying 35 = some (.struct (Try.prog.fieldsOf 35)) := by kernel_rfl
  simp only [run_neq_struct, evV]
  rw [run_equalIn_agg _ _ _ _ _ hs hp]
  simp [go_sem]
  have h3' : ((X.m : Int) = (Y.m : Int)) ↔ X.m = Y.m := by omega
  simp only [h3']
  by_cases h1 : X.k = Y.k <;> by_cases h2 : X.y = Y.y <;> by_cases h3 : X.m = Y.m <;> by_cases h4 : X.t.toList = Y.t.toList <;> by_cases h5 : X.c = Y.c <;> simp [sameE, h1, h2, h3, h4, h5]
end Go.Proofs.Ytockeedbceopiaa
/-
  CONTRACT of truchmanbook.SameEvs: two lists that hold the same.
-/
namespace Go.Proofs.Ytockeedbceopiaa
open Go.RowKit
open Go.Lib
/-- Two lists that hold the same. -/
theorem same_evs (A A' : Option Addr) (n cp cp' : Nat) (E : Nat → Ev) (w : World) (hn : n ≤ 900) (hE : EvsAt w w.heap.size A n E) (hE' : EvsAt w w.heap.size A' n E) :
    Calls Try.prog 31 #[.slice A n cp, .slice A' n cp'] w fun r w' => r = .returned (.bool true) ∧ Below w.heap.size w w' := by
  have HE := Lib.hid hE
  have HE' := Lib.hid hE'
  clear hE hE'
  go_enter Try.func31, Try.ntmps31
  go_wp2
  go_loopw [5] (fun i wr => ∃ j : Nat, i = .int .i64 j ∧ j ≤ n ∧ Hid (Below w.heap.size w wr)) (fun i _ => n - (RowKit.intOf i).toNat)
  case atStart => exact ⟨0, rfl, by omega, Lib.hid (Below.refl _ _)⟩
  case round =>
    obtain ⟨j, rfl, hjn, HB⟩ := hrel
    by_cases hlt : j < n
    · obtain ⟨b, off, rfl, hb, x0, x1, x2, x3, x4⟩ := (HE.out.below HB.out).cells hlt
      obtain ⟨b', off', rfl, hb', y0, y1, y2, y3, y4⟩ := (HE'.out.below HB.out).cells hlt
      have he := fun W => ev_eql (E j) (E j) W
      rw [sameE_refl] at he
      generalize E j = e at *
      obtain ⟨k, y, m, t, c⟩ := e
      simp only [evV] at he x0 x1 x2 x3 x4 y0 y1 y2 y3 y4
      go_wp2
      go_quiet (fail)
      go_wp2
      go_roundw
      case rel => exact ⟨j + 1, rfl, hlt, Lib.hid (below_drN HB.out _)⟩
      case measure => simp [RowKit.intOf]; omega
    · obtain rfl : j = n := by omega
      go_wp2
      go_ret
      exact ⟨rfl, HB.out⟩
end Go.Proofs.Ytockeedbceopiaa
/-
  CONTRACTS of package truchmanbook: copyEvs, LentEvs, StaysEvs.
-/
namespace Go.Proofs.Ytockeedbceopiaa
open Go.RowKit
open Go.Lib
set_option maxHeartbeats 1000000 in
theorem ev_copy (A : Option Addr) (n cp : Nat) (E : Nat → Ev) (w : World) (hn : n ≤ 200) (hE : EvsAt w w.heap.size A n E) :
    Calls Try.prog 28 #[.slice A n cp] w fun r w' => ∃ v, r = .returned v ∧ Made w w' v n (pre E n) := by
  have HE := Lib.hid hE
  clear hE
  go_enter Try.func28, Try.ntmps28
  go_wp2_with (at_builtin; refine wpList_append_win rfl _ _ _ rfl Try.underlying22 info_ev rfl rfl (Win.nil_ _ _ _) _ rfl n _ (HE.out.from Try.underlying22) ?e1 ?e2 ?_)
  case e1 => unfold maxLen; omega
  case e2 => omega
  intro v2 w2 hW2 hG2 hO2
  have HM : Hid (Made w w2 v2 n (pre E n)) := Lib.hid (by
    have h := made_more (K := pre E n) (m := n) (made_nil w) (Below.refl _ _) (by simpa [evsC] using hW2.out) hG2.out (by simpa using hO2.out)
    simpa using h)
  clear hW2 hG2 hO2
  go_wp2
  go_ret
  exact ⟨_, rfl, HM.out⟩
def evMark : Ev := ⟨0, false, 0, ⟨#[]⟩, -77⟩
set_option maxHeartbeats 1000000 in
theorem lent_any (A : Option Addr) (n cp : Nat) (E : Nat → Ev) (w : World) (hn : n ≤ 200) (hE : EvsAt w w.heap.size A n E) :
    Calls Try.prog 17 #[.slice A n cp] w fun r w' => ∃ g off cap, r = .returned (.slice (some ⟨g, off, none⟩) n cap) ∧ n + 1 ≤ cap ∧ cap ≤ 9223372036854775807 ∧ Made w w' (.slice (some ⟨g, off, none⟩) (n + 1) cap) (n + 1) (pre E n ++ [evMark]) := by
  have HE := Lib.hid hE
  clear hE
  go_enter Try.func17, Try.ntmps17
  go_wp2_with fail
  refine (ev_copy A n cp E _ hn HE.out).mono ?_
  rintro e w1 ⟨v1, rfl, h1⟩
  have H1 := Lib.hid h1
  clear h1
  obtain ⟨a1, c1, rfl, _, _⟩ := H1.out.2.1.slice_form
  go_wp2_with (at_builtin; refine wpList_append_win rfl _ _ _ rfl Try.underlying22 info_ev rfl rfl (H1.out.2.1.alloc _) _ rfl 1 _ (src_new _ Try.underlying22 5 1 (evCells evMark) 35 _ rfl (by rw [← evs_one]; exact evsC_one _) (heap_alloc_new w1 _)) ?e1 ?e2 ?_)
  case e1 => unfold maxLen; omega
  case e2 => omega
  intro v2 w2 hW2 hG2 hO2
  have hM : Made w w2 v2 (n + 1) (pre E n ++ [evMark]) := made_more (K := [evMark]) (m := 1) H1.out (up_alloc (Below.refl _ _) _) (by simpa [evs_one] using hW2.out) hG2.out (by simpa using hO2.out)
  obtain ⟨g, off, cap, rfl, h1, h2, _, _, _⟩ := hM.2.1.form (by omega)
  have HM := Lib.hid hM
  clear hW2 hG2 hO2 hM
  have hs := fun W => slice_hi (g := g) (off := off) (n := n + 1) (cap := cap) (k := n) Try.underlying22 (by omega) W
  go_wp2
  go_ret
  exact ⟨g, off, cap, rfl, h1, h2, HM.out⟩
set_option maxHeartbeats 1000000 in
theorem stays_any (g off cap : Nat) (A' : Option Addr) (n cp' : Nat) (E : Nat → Ev) (w : World) (hn : n ≤ 200) (hc : n + 1 ≤ cap) (hW : Win w 35 5 (.slice (some ⟨g, off, none⟩) (n + 1) cap) (n + 1) (evsC (pre E n ++ [evMark]))) (hE' : EvsAt w w.heap.size A' n E) :
    Calls Try.prog 19 #[.slice (some ⟨g, off, none⟩) n cap, .slice A' n cp'] w fun r w' => r = .returned (.bool true) ∧ Below w.heap.size w w' := by
  have hE : EvsAt w w.heap.size (some ⟨g, off, none⟩) n E := fun h0 => by
    have h1 := evs_win (n := n) hW (by simp [pre_length])
    obtain ⟨b, o, hv, hb, hx⟩ := h1 h0
    refine ⟨b, o, hv, hb, fun i hi j u hu => hx i hi j u ?_⟩
    rw [show getE (pre E n ++ [evMark]) i = E i by simp [getE, pre, List.getElem?_append, hi]]
    exact hu
  have hS := fun cp => same_evs (some ⟨g, off, none⟩) A' n cp cp' E w (by omega) hE hE'
  have HS := Lib.hid hS
  have hlast : EvsAt w w.heap.size (some ⟨g, off, none⟩) (n + 1) (getE (pre E n ++ [evMark])) := evs_win hW (by simp [pre_length])
  obtain ⟨b, o, hv, hb, x0, x1, x2, x3, x4⟩ := hlast.cells (show n < n + 1 by omega)
  simp only [Option.some.injEq, Addr.mk.injEq, and_true] at hv
  obtain ⟨rfl, rfl⟩ := hv
  rw [show getE (pre E n ++ [evMark]) n = evMark by simp [getE, pre]] at x4
  simp only [evMark] at x4
  have X4 : Hid (∀ w', Below w.heap.size w w' → w'.cell? ⟨g, off + n * 5 + 4, none⟩ = some (.int .i64 (-77))) := Lib.hid fun w' h => (h.cell hb).trans x4
  have hs := fun W => slice_hi (g := g) (off := off) (n := n) (cap := cap) (k := n + 1) Try.underlying22 (by omega) W
  clear hS hlast x0 x1 x2 x3 x4 hE hE' hW
  go_enter Try.func19, Try.ntmps19
  go_wp2_with fail
  refine (HS.out _).mono ?_
  rintro e w1 ⟨rfl, b1⟩
  have x4 := X4.out _ b1
  have B1 := Lib.hid b1
  clear b1
  go_wp2
  go_ret
  exact ⟨rfl, B1.out⟩
end Go.Proofs.Ytockeedbceopiaa
/-
  NO PROGRAM NEEDED: what chapter 14 asks of CBOR's writer, over the machine of CoutPure: with counts that are not known a container is a byte longer; one part alone.
-/
namespace Go.Proofs.Ytockeedbceopiaa
open Go.Lib
/-- The same part, its count not known. -/
def opnQ (e : Ev) : Ev := if e.k = 5 ∨ e.k = 6 then ⟨e.k, e.y, e.m, e.t, -1⟩ else e
def drpQ (s : List Bx) : List Bx := s.map fun b => ⟨b.map, -1, b.have_⟩
/-- How many containers begin. -/
def begsQ (l : List Ev) : Nat := l.countP fun e => decide (e.k = 5 ∨ e.k = 6)
theorem opnQ_k (e : Ev) : (opnQ e).k = e.k := by unfold opnQ; split <;> rfl
theorem drp_inc (s : List Bx) : drpQ (incB s) = incB (drpQ s) := by cases s <;> rfl
theorem drp_key (s : List Bx) : keyB (drpQ s) = keyB s := by cases s <;> rfl
theorem drp_len (s : List Bx) : (drpQ s).length = s.length := by simp [drpQ]
theorem opn_may {e : Ev} (h : mayE e) : mayE (opnQ e) := by
  unfold opnQ
  split
  · exact ⟨h.1, h.2.1, fun _ => by simp⟩
  · exact h
/-- A step, counts not known. -/
theorem step_drp {s : List Bx} {e : Ev} (h : ∀ f, stepC (.live s) e ≠ .bad f) : stepC (.live (drpQ s)) (opnQ e) = match stepC (.live s) e with
    | .live s' => .live (drpQ s')
    | c => c := by
  have hm : mayE e := by
    by_cases hm : mayE e
    · exact hm
    · exact absurd (by simp only [stepC]; rw [if_pos hm]) (h 2)
  have hm2 := opn_may hm
  by_cases h7 : e.k = 7
  · cases s with
    | nil => exact absurd (by simp only [stepC]; rw [if_neg (by simpa using hm), if_pos h7]) (h 2)
    | cons b r =>
      have hs : stepC (.live (b :: r)) e = if shutB b then .bad 2 else if r = [] then .done else .live r := by simp only [stepC]; rw [if_neg (by simpa using hm), if_pos h7]
      have hns : ¬ shutB b := fun hh => h 2 (by rw [hs, if_pos hh])
      have hns2 : ¬ shutB ⟨b.map, -1, b.have_⟩ := by
        rintro (⟨h1, _⟩ | h1)
        · simp at h1
        · exact hns (.inr h1)
      have hs2 : stepC (.live (drpQ (b :: r))) (opnQ e) = if drpQ r = [] then .done else .live (drpQ r) := by
        show stepC (.live (⟨b.map, -1, b.have_⟩ :: drpQ r)) (opnQ e) = _
        simp only [stepC]
        rw [if_neg (by simpa using hm2), if_pos (by rw [opnQ_k]; exact h7), if_neg hns2]
      rw [hs2, hs, if_neg hns]
      cases r with
      | nil => rfl
      | cons x q => simp [drpQ]
  · have hk : ¬ (keyB s = true ∧ e.k ≠ 3) := fun hh => h 8 (by simp only [stepC]; rw [if_neg (by simpa using hm), if_neg h7, if_pos hh])
    have h72 : (opnQ e).k ≠ 7 := by rw [opnQ_k]; exact h7
    have hk2 : ¬ (keyB (drpQ s) = true ∧ (opnQ e).k ≠ 3) := by rw [drp_key, opnQ_k]; exact hk
    by_cases h56 : e.k = 5 ∨ e.k = 6
    · have hs : stepC (.live s) e = if 16 ≤ s.length then .bad 4 else .live (⟨decide (e.k = 6), e.c, 0⟩ :: incB s) := by simp only [stepC]; rw [if_neg (by simpa using hm), if_neg h7, if_neg hk, if_pos h56]
      have hd : ¬ 16 ≤ s.length := fun hh => h 4 (by rw [hs, if_pos hh])
      have ho : opnQ e = ⟨e.k, e.y, e.m, e.t, -1⟩ := if_pos h56
      rw [hs, if_neg hd]
      simp only [stepC]
      rw [if_neg (by simpa using hm2), if_neg h72, if_neg hk2, if_pos (by rw [opnQ_k]; exact h56), if_neg (by rw [drp_len]; exact hd), ho, ← drp_inc]
      rfl
    · have hs : stepC (.live s) e = if s = [] then .done else .live (incB s) := by simp only [stepC]; rw [if_neg (by simpa using hm), if_neg h7, if_neg hk, if_neg h56]
      rw [hs]
      simp only [stepC]
      rw [if_neg (by simpa using hm2), if_neg h72, if_neg hk2, if_neg (by rw [opnQ_k]; exact h56), ← drp_inc]
      cases s with
      | nil => rfl
      | cons x q => simp [drpQ, incB]
theorem run_drp : ∀ (l : List Ev) (s : List Bx), runC (.live s) l = .done → runC (.live (drpQ s)) (l.map opnQ) = .done
  | [], s, h => by cases h
  | e :: l, s, h => by
    have hb : ∀ f, stepC (.live s) e ≠ .bad f := fun f hf => by
      rw [runC_cons, hf, runC_bad] at h
      cases h
    rw [runC_cons] at h
    rw [List.map_cons, runC_cons, step_drp hb]
    cases hc : stepC (.live s) e with
    | bad f => exact absurd hc (hb f)
    | live s' =>
      rw [hc] at h
      exact run_drp l s' h
    | done =>
      rw [hc] at h
      rw [run_endedQ h]
      rfl
/-- A CONTAINER OF A SMALL COUNT IS A BYTE SHORTER THAN ONE OF NO KNOWN COUNT. -/
theorem short_len : ∀ (l : List Ev) (s : List Bx), runC (.live s) l = .done → (∀ e ∈ l, e.k = 5 ∨ e.k = 6 → 0 ≤ e.c ∧ e.c ≤ 23) → (∀ b ∈ s, 0 ≤ b.c) → (writeAllK (drpQ s) (l.map opnQ)).length = (writeAllK s l).length + begsQ l + s.length
  | [], s, h, _, _ => by cases h
  | e :: l, s, h, hg, hs => by
    have hb : ∀ f, stepC (.live s) e ≠ .bad f := fun f hf => by
      rw [runC_cons, hf, runC_bad] at h
      cases h
    have hst := step_drp hb
    have hge := hg e (by simp)
    have hgl : ∀ x ∈ l, x.k = 5 ∨ x.k = 6 → 0 ≤ x.c ∧ x.c ≤ 23 := fun x hx => hg x (by simp [hx])
    have hm : mayE e := by
      by_cases hm : mayE e
      · exact hm
      · exact absurd (by simp only [stepC]; rw [if_pos hm]) (hb 2)
    rw [runC_cons] at h
    rw [List.map_cons]
    simp only [writeAllK, List.length_append]
    rw [hst]
    have hcy : (e.k = 5 ∨ e.k = 6) → begsQ (e :: l) = begsQ l + 1 := fun h => by
      unfold begsQ
      rw [List.countP_cons]
      simp [h]
    have hcn : ¬ (e.k = 5 ∨ e.k = 6) → begsQ (e :: l) = begsQ l := fun h => by
      unfold begsQ
      rw [List.countP_cons]
      simp [h]
    by_cases h7 : e.k = 7
    · cases s with
      | nil => exact absurd (by simp only [stepC]; rw [if_neg (by simpa using hm), if_pos h7]) (hb 2)
      | cons b r =>
        have hsC : stepC (.live (b :: r)) e = if shutB b then .bad 2 else if r = [] then .done else .live r := by simp only [stepC]; rw [if_neg (by simpa using hm), if_pos h7]
        have hns : ¬ shutB b := fun hh => hb 2 (by rw [hsC, if_pos hh])
        rw [if_neg hns] at hsC
        have hb0 := hs b (by simp)
        have w1 : writeK (b :: r) e = [] := by
          unfold writeK
          rw [if_pos h7]
          simp only
          rw [if_neg (by omega)]
        have w2 : writeK (drpQ (b :: r)) (opnQ e) = [255] := by
          unfold writeK
          rw [if_pos (by rw [opnQ_k]; exact h7)]
          rfl
        rw [w1, w2, hsC, hcn (by omega)]
        rw [hsC] at h
        by_cases hr : r = []
        · subst hr
          rw [if_pos rfl] at h ⊢
          rw [run_endedQ h]
          simp [begsQ]
        · rw [if_neg hr] at h ⊢
          simp only
          rw [short_len l r h hgl (fun x hx => hs x (List.mem_cons_of_mem _ hx))]
          simp only [List.length_cons, List.length_nil]
          omega
    · have hk : ¬ (keyB s = true ∧ e.k ≠ 3) := fun hh => hb 8 (by simp only [stepC]; rw [if_neg (by simpa using hm), if_neg h7, if_pos hh])
      by_cases h56 : e.k = 5 ∨ e.k = 6
      · have hsC : stepC (.live s) e = if 16 ≤ s.length then .bad 4 else .live (⟨decide (e.k = 6), e.c, 0⟩ :: incB s) := by simp only [stepC]; rw [if_neg (by simpa using hm), if_neg h7, if_neg hk, if_pos h56]
        have hd : ¬ 16 ≤ s.length := fun hh => hb 4 (by rw [hsC, if_pos hh])
        rw [if_neg hd] at hsC
        obtain ⟨hc0, hc1⟩ := hge h56
        have w1 : (writeK s e).length = 1 := by
          unfold writeK
          rw [if_neg h7, if_neg (by omega), if_neg (by omega), if_neg (by omega), if_neg (by omega), if_neg (by omega), headB_length]
          unfold sizH
          rw [if_pos (by omega)]
          rfl
        have w2 : (writeK (drpQ s) (opnQ e)).length = 1 := by
          rw [show opnQ e = ⟨e.k, e.y, e.m, e.t, -1⟩ from if_pos h56]
          unfold writeK
          simp only
          rw [if_neg h7, if_neg (by omega), if_neg (by omega), if_neg (by omega), if_neg (by omega), if_pos (by decide)]
          rfl
        rw [w1, w2, hsC, hcy h56]
        rw [hsC] at h
        simp only
        rw [short_len l _ h hgl (fun x hx => by
          simp only [List.mem_cons] at hx
          rcases hx with rfl | hx
          · exact hc0
          · cases s with
            | nil => simp [incB] at hx
            | cons b r =>
              simp only [incB, List.mem_cons] at hx
              rcases hx with rfl | hx
              · exact hs b (by simp)
              · exact hs x (List.mem_cons_of_mem _ hx))]
        have : (incB s).length = s.length := by cases s <;> rfl
        simp only [List.length_cons, this]
        omega
      · have hsC : stepC (.live s) e = if s = [] then .done else .live (incB s) := by simp only [stepC]; rw [if_neg (by simpa using hm), if_neg h7, if_neg hk, if_neg h56]
        have w : writeK (drpQ s) (opnQ e) = writeK s e := by
          rw [show opnQ e = e from if_neg h56]
          unfold writeK
          rw [if_neg h7, if_neg h7]
        rw [w, hsC, hcn h56]
        rw [hsC] at h
        by_cases hr : s = []
        · subst hr
          rw [if_pos rfl] at h ⊢
          rw [run_endedQ h]
          simp [begsQ]
        · rw [if_neg hr] at h ⊢
          simp only
          rw [short_len l _ h hgl (fun x hx => by
            cases s with
            | nil => exact absurd rfl hr
            | cons b r =>
              simp only [incB, List.mem_cons] at hx
              rcases hx with rfl | hx
              · exact hs b (by simp)
              · exact hs x (List.mem_cons_of_mem _ hx))]
          have : (incB s).length = s.length := by cases s <;> rfl
          rw [this]
          omega
/-- CboroutShort. -/
theorem short_all {l : List Ev} (h : runC (.live []) l = .done) (hg : ∀ e ∈ l, e.k = 5 ∨ e.k = 6 → 0 ≤ e.c ∧ e.c ≤ 23) : (allQ ⟨[], false⟩ l).2 = 0 ∧ (allQ ⟨[], false⟩ (l.map opnQ)).2 = 0 ∧ (allQ ⟨[], false⟩ (l.map opnQ)).1.length = (allQ ⟨[], false⟩ l).1.length + begsQ l := by
  have h2 := run_drp l [] h
  have h3 := short_len l [] h hg (by simp)
  rw [all_ckQ l [] h, all_ckQ _ [] h2]
  exact ⟨rfl, rfl, by simpa [drpQ] using h3⟩
/-- CboroutWholes. -/
theorem wholes_all (y : Bool) (v : Nat) : allQ ⟨[], false⟩ [⟨2, y, v, ⟨#[]⟩, 0⟩] = (headB (if y = true then 1 else 0) v, 0) := by
  have h : runC (.live []) [(⟨2, y, v, ⟨#[]⟩, 0⟩ : Ev)] = .done := by
    have hm : mayE ⟨2, y, v, ⟨#[]⟩, 0⟩ := ⟨by simp, by simp, fun h => by simp at h⟩
    have hs : stepC (.live []) (⟨2, y, v, ⟨#[]⟩, 0⟩ : Ev) = .done := by
      simp only [stepC]
      rw [if_neg (by simpa using hm)]
      simp [keyB]
    rw [runC_cons, hs]
    rfl
  rw [all_ckQ _ _ h]
  simp [writeAllK, writeK]
  cases hc : stepC (.live []) (⟨2, y, v, ⟨#[]⟩, 0⟩ : Ev) <;> simp
/-- CboroutTexts. -/
theorem texts_all (m : Bool) (t : ByteArray) : allQ ⟨[], false⟩ [⟨if m = true then 3 else 4, false, 0, t, 0⟩] = (headB (if m = true then 3 else 2) t.data.toList.length ++ t.data.toList, 0) := by
  have hm : mayE ⟨if m = true then 3 else 4, false, 0, t, 0⟩ := by cases m <;> exact ⟨by simp, by simp, fun h => by simp at h⟩
  have hs : stepC (.live []) (⟨if m = true then 3 else 4, false, 0, t, 0⟩ : Ev) = .done := by
    simp only [stepC]
    rw [if_neg (by simpa using hm)]
    cases m <;> simp [keyB]
  have h : runC (.live []) [(⟨if m = true then 3 else 4, false, 0, t, 0⟩ : Ev)] = .done := by rw [runC_cons, hs]; rfl
  rw [all_ckQ _ _ h]
  simp only [writeAllK, hs, List.append_nil]
  cases m <;> simp [writeK]
end Go.Proofs.Ytockeedbceopiaa
/-
  CONTRACTS of the book's documents out of numbers (truchmanbook.Doc, text, Open).
-/
namespace Go.Proofs.Ytockeedbceopiaa
open Go.RowKit
open Go.Lib
def pieceL (i : Nat) : List UInt8 :=
  if i = 0 then [97] else if i = 1 then [34] else if i = 2 then [92] else if i = 3 then [10] else if i = 4 then [195, 169] else if i = 5 then [1] else if i = 6 then [240, 157, 132, 158] else [122]
/-- A text out of a number, as the loop makes it: k rounds are left. -/
def textGo (x : Nat) : Nat → List UInt8 → List UInt8
  | 0, acc => acc
  | k + 1, acc => textGo x k (acc ++ pieceL (x / 2 ^ ((k + 1) % 8) % 8))
def textL (x : Nat) : List UInt8 := textGo x (x % 8) []
theorem piece_len (i : Nat) : (pieceL i).length ≤ 4 := by
  unfold pieceL
  repeat' split
  all_goals simp
theorem and_nat (r m : Nat) (h : r < 9223372036854775808) (hm : m < 9223372036854775808) : bits .and .i64 (r : Int) (m : Int) = ((r &&& m : Nat) : Int) := by
  have h1 : (BitVec.ofInt 64 (r : Int)).toNat = r := by rw [BitVec.ofInt_natCast, BitVec.toNat_ofNat]; exact Nat.mod_eq_of_lt (by omega)
  have h2 : (BitVec.ofInt 64 (m : Int)).toNat = m := by rw [BitVec.ofInt_natCast, BitVec.toNat_ofNat]; exact Nat.mod_eq_of_lt (by omega)
  show IntKind.i64.wrap ((BitVec.ofInt 64 (r : Int) &&& BitVec.ofInt 64 (m : Int)).toNat : Int) = _
  have h3 : r &&& m ≤ m := Nat.and_le_right
  rw [BitVec.toNat_and, h1, h2, IntKind.wrap_i64]
  omega
theorem dand7 (r : Nat) (h : r < 65536) : bits .and .i64 (r : Int) 7 = ((r % 8 : Nat) : Int) := by
  have := and_nat r 7 (by omega) (by omega)
  rw [show r &&& 7 = r % 8 from Nat.and_two_pow_sub_one_eq_mod r 3] at this
  exact this
theorem catD (l k : List UInt8) : (⟨l.toArray⟩ : ByteArray) ++ ⟨k.toArray⟩ = ⟨(l ++ k).toArray⟩ := by
  apply ByteArray.ext
  simp
theorem piece_at (i : Nat) (hi : i < 8) (h : i < [Value.string ⟨#[97]⟩, .string ⟨#[34]⟩, .string ⟨#[92]⟩, .string ⟨#[10]⟩, .string ⟨#[195, 169]⟩, .string ⟨#[1]⟩, .string ⟨#[240, 157, 132, 158]⟩, .string ⟨#[122]⟩].length) :
    ([Value.string ⟨#[97]⟩, .string ⟨#[34]⟩, .string ⟨#[92]⟩, .string ⟨#[10]⟩, .string ⟨#[195, 169]⟩, .string ⟨#[1]⟩, .string ⟨#[240, 157, 132, 158]⟩, .string ⟨#[122]⟩])[i]'h = .string ⟨(pieceL i).toArray⟩ := by
  match i, hi with
  | 0, _ => rfl
  | 1, _ => rfl
  | 2, _ => rfl
  | 3, _ => rfl
  | 4, _ => rfl
  | 5, _ => rfl
  | 6, _ => rfl
  | 7, _ => rfl
set_option maxHeartbeats 1000000 in
theorem text_any (x : Nat) (hx : x < 65536) (w : World) : Calls Try.prog 34 #[.int .i64 x] w fun r w' => r = .returned (.string ⟨(textL x).toArray⟩) ∧ Below w.heap.size w w' := by
  obtain ⟨Z, hZ⟩ : ∃ Z, textL x = Z := ⟨_, rfl⟩
  rw [hZ]
  have HZ := Lib.hid hZ
  have ha := dand7 x hx
  have HX := Lib.hid hx
  clear hZ hx
  go_enter Try.func34, Try.ntmps34
  go_wp2
  go_loopw [3, 4] (fun s k wr => ∃ (j : Nat) (acc : List UInt8), s = .string ⟨acc.toArray⟩ ∧ k = .int .i64 j ∧ j ≤ 7 ∧ acc.length ≤ 4 * (7 - j) ∧ Hid (textGo x j acc = Z) ∧ Hid (Below w.heap.size w wr)) (fun _ k _ => (RowKit.intOf k).toNat)
  case atStart => exact ⟨x % 8, [], rfl, rfl, by omega, by simp, HZ, Lib.hid (Below.refl _ _)⟩
  case round =>
    obtain ⟨j, acc, rfl, rfl, hj, hl, HT, HB⟩ := hrel
    cases j with
    | zero =>
      go_wp2
      go_ret
      exact ⟨by rw [← HT.out]; rfl, HB.out⟩
    | succ j =>
      obtain ⟨i, hi⟩ : ∃ i, i = x / 2 ^ ((j + 1) % 8) % 8 := ⟨_, rfl⟩
      have hib : i < 8 := by omega
      have hd : x / 2 ^ ((j + 1) % 8) < 65536 := Nat.lt_of_le_of_lt (Nat.div_le_self _ _) HX.out
      have hb7 : bits .and .i64 ((x : Int) / 2 ^ ((j + 1) % 8)) 7 = (i : Int) := by
        have := dand7 (x / 2 ^ ((j + 1) % 8)) hd
        rw [hi, ← this]
        congr 1
      have hpc := piece_at i hib
      obtain ⟨P, hP⟩ : ∃ P : ByteArray, ⟨(pieceL i).toArray⟩ = P := ⟨_, rfl⟩
      obtain ⟨A, hA⟩ : ∃ A : ByteArray, ⟨acc.toArray⟩ = A := ⟨_, rfl⟩
      have hps : P.size ≤ 4 := by
        rw [← hP]
        have := piece_len i
        simpa [ByteArray.size] using this
      have has : A.size ≤ 28 := by
        rw [← hA]
        have : acc.length ≤ 28 := by omega
        simpa [ByteArray.size] using this
      have hcat : A ++ P = ⟨(acc ++ pieceL i).toArray⟩ := by rw [← hA, ← hP]; exact catD _ _
      have hlen : (acc ++ pieceL i).length ≤ 4 * (7 - j) := by
        have := piece_len i
        rw [List.length_append]
        omega
      have hgo : textGo x j (acc ++ pieceL i) = Z := by rw [← HT.out, hi]; rfl
      rw [hP] at hpc
      rw [hA]
      have HC := Lib.hid hcat
      have HL := Lib.hid hlen
      have HG := Lib.hid hgo
      have hov : ¬ 9223372036854775807 < A.size + P.size := by omega
      clear hi hd hP hA hcat hlen hgo hl
      go_wp2
      go_roundw
      case rel => exact ⟨j, acc ++ pieceL i, by rw [HC.out], rfl, by omega, HL.out, HG, Lib.hid (up_alloc HB.out _)⟩
      case measure => simp [RowKit.intOf]
theorem heap_new2 (w : World) (X Y : Obj) : ((w.alloc X).alloc Y).heap[w.heap.size + 1]? = some Y := by
  have := heap_alloc_new (w.alloc X) Y
  rwa [World.size_alloc] at this
def openE (e : Ev) : Ev := if e.k = 5 ∨ e.k = 6 then ⟨e.k, e.y, e.m, e.t, -1⟩ else e
theorem evs_cells (e : Ev) : evsC [e] = [.int .i64 e.k, .bool e.y, .int .u64 e.m, .string e.t, .int .i64 e.c] := by simp [evs_one, evCells]
set_option maxHeartbeats 2000000 in
/-- The same parts with counts that are not known. -/
theorem dopen_any (A : Option Addr) (n cp : Nat) (E : Nat → Ev) (w : World) (hn : n ≤ 1000000) (hE : EvsAt w w.heap.size A n E) :
    Calls Try.prog 21 #[.slice A n cp] w fun r w' => ∃ v, r = .returned v ∧ Made w w' v n ((pre E n).map openE) := by
  have HE := Lib.hid hE
  have HN := Lib.hid hn
  clear hE hn
  go_enter Try.func21, Try.ntmps21
  go_wp2
  go_loopw [3, 8] (fun o i wr => ∃ (j : Nat) (a : Option Addr) (c : Nat), o = .slice a j c ∧ i = .int .i64 j ∧ j ≤ n ∧ Hid (Made w wr (.slice a j c) j ((pre E j).map openE))) (fun _ i _ => n - (RowKit.intOf i).toNat)
  case atStart => exact ⟨0, none, 0, rfl, rfl, by omega, Lib.hid (made_nil w)⟩
  case round =>
    obtain ⟨j, a, c, rfl, rfl, hjn, HM⟩ := hrel
    by_cases hlt : j < n
    · obtain ⟨b, off, rfl, hb, x0, x1, x2, x3, x4⟩ := (HE.out.below HM.out.1).cells hlt
      have hps : (pre E (j + 1)).map openE = (pre E j).map openE ++ [openE (E j)] := by rw [pre_succ, List.map_append]; rfl
      have HPS := Lib.hid hps
      have hj6 : j ≤ 1000000 := by have := HN.out; omega
      generalize E j = e at x0 x1 x2 x3 x4 HPS
      clear hps
      obtain ⟨k, y, m, t, c0⟩ := e
      simp only at x0 x1 x2 x3 x4
      by_cases h5 : k = 5
      · subst h5
        have he : openE ⟨5, y, m, t, c0⟩ = ⟨5, y, m, t, -1⟩ := rfl
        rw [he] at HPS
        clear he
        go_wp2_with (at_builtin; refine wpList_append_win rfl _ _ _ rfl Try.underlying22 info_ev rfl rfl ((HM.out.2.1.alloc _).alloc _) _ rfl 1 _ (src_new _ Try.underlying22 5 1 (evsC [⟨5, y, m, t, -1⟩]) 35 _ rfl (evsC_one _) (heap_new2 _ _ _)) ?e1 ?e2 ?_)
        case e1 => unfold maxLen; omega
        case e2 => omega
        intro v3 w3 hW3 hG3 hO3
        have hM3 : Made w w3 v3 (j + 1) ((pre E j).map openE ++ [⟨5, y, m, t, -1⟩]) := made_more HM.out (up_alloc (up_alloc (Below.refl _ _) _) _) hW3.out hG3.out (by simpa using hO3.out)
        rw [← HPS.out] at hM3
        obtain ⟨a3, c3, rfl, _, _⟩ := hM3.2.1.slice_form
        have M3 := Lib.hid hM3
        clear hW3 hG3 hO3 hM3
        go_wp2
        go_roundw
        case rel => exact ⟨j + 1, a3, c3, rfl, rfl, hlt, M3⟩
        case measure => simp [RowKit.intOf]; omega
      · by_cases h6 : k = 6
        · subst h6
          have he : openE ⟨6, y, m, t, c0⟩ = ⟨6, y, m, t, -1⟩ := rfl
          rw [he] at HPS
          clear he h5
          go_wp2_with (at_builtin; refine wpList_append_win rfl _ _ _ rfl Try.underlying22 info_ev rfl rfl ((HM.out.2.1.alloc _).alloc _) _ rfl 1 _ (src_new _ Try.underlying22 5 1 (evsC [⟨6, y, m, t, -1⟩]) 35 _ rfl (evsC_one _) (heap_new2 _ _ _)) ?e1 ?e2 ?_)
          case e1 => unfold maxLen; omega
          case e2 => omega
          intro v3 w3 hW3 hG3 hO3
          have hM3 : Made w w3 v3 (j + 1) ((pre E j).map openE ++ [⟨6, y, m, t, -1⟩]) := made_more HM.out (up_alloc (up_alloc (Below.refl _ _) _) _) hW3.out hG3.out (by simpa using hO3.out)
          rw [← HPS.out] at hM3
          obtain ⟨a3, c3, rfl, _, _⟩ := hM3.2.1.slice_form
          have M3 := Lib.hid hM3
          clear hW3 hG3 hO3 hM3
          go_wp2
          go_roundw
          case rel => exact ⟨j + 1, a3, c3, rfl, rfl, hlt, M3⟩
          case measure => simp [RowKit.intOf]; omega
        · have q5 : (k == 5) = false := by simpa using h5
          have q6 : (k == 6) = false := by simpa using h6
          have he : openE ⟨k, y, m, t, c0⟩ = ⟨k, y, m, t, c0⟩ := by unfold openE; rw [if_neg (by simp only; omega)]
          rw [he] at HPS
          clear he h5 h6
          go_wp2_with (at_builtin; refine wpList_append_win rfl _ _ _ rfl Try.underlying22 info_ev rfl rfl ((HM.out.2.1.alloc _).alloc _) _ rfl 1 _ (src_new _ Try.underlying22 5 1 (evsC [⟨k, y, m, t, c0⟩]) 35 _ rfl (evsC_one _) (heap_new2 _ _ _)) ?e1 ?e2 ?_)
          case e1 => unfold maxLen; omega
          case e2 => omega
          intro v3 w3 hW3 hG3 hO3
          have hM3 : Made w w3 v3 (j + 1) ((pre E j).map openE ++ [⟨k, y, m, t, c0⟩]) := made_more HM.out (up_alloc (up_alloc (Below.refl _ _) _) _) hW3.out hG3.out (by simpa using hO3.out)
          rw [← HPS.out] at hM3
          obtain ⟨a3, c3, rfl, _, _⟩ := hM3.2.1.slice_form
          have M3 := Lib.hid hM3
          clear hW3 hG3 hO3 hM3
          go_wp2
          go_roundw
          case rel => exact ⟨j + 1, a3, c3, rfl, rfl, hlt, M3⟩
          case measure => simp [RowKit.intOf]; omega
    · obtain rfl : j = n := by omega
      go_wp2
      go_ret
      exact ⟨_, rfl, HM.out⟩
end Go.Proofs.Ytockeedbceopiaa
/-
  CONTRACTS of the book's documents out of numbers: what the closures of truchmanbook.Doc do, step by step.
-/
namespace Go.Proofs.Ytockeedbceopiaa
open Go.RowKit
open Go.Lib
/-- A number of the list, as 'next' tells it. -/
def wordD (z : Int) : Nat := (bits .and .i64 z 65535).toNat
theorem wordD_is (z : Int) : bits .and .i64 z 65535 = ((wordD z : Nat) : Int) ∧ wordD z < 65536 := by
  have e1 : (BitVec.ofInt 64 (65535 : Int)).toNat = 65535 := by rw [BitVec.toNat_ofInt]; omega
  have h1 : bits .and .i64 z 65535 = ((BitVec.ofInt 64 z &&& BitVec.ofInt 64 65535).toNat : Int) ∧ (BitVec.ofInt 64 z &&& BitVec.ofInt 64 65535).toNat ≤ 65535 := by
    have hle : (BitVec.ofInt 64 z &&& BitVec.ofInt 64 65535).toNat ≤ 65535 := by
      rw [BitVec.toNat_and, e1]
      exact Nat.and_le_right
    refine ⟨?_, hle⟩
    show IntKind.i64.wrap ((BitVec.ofInt 64 z &&& BitVec.ofInt 64 65535).toNat : Nat) = _
    rw [IntKind.wrap_i64]
    omega
  unfold wordD
  rw [h1.1]
  generalize (BitVec.ofInt 64 z &&& BitVec.ofInt 64 65535).toNat = a at h1
  exact ⟨rfl, by rw [Int.toNat_natCast]; omega⟩
def nxD (n : Nat) (L : Nat → Int) (at_ : Nat) : Nat := if at_ < n then wordD (L at_) else 0
theorem nxD_lt (n : Nat) (L : Nat → Int) (at_ : Nat) : nxD n L at_ < 65536 := by
  unfold nxD
  split
  · exact (wordD_is _).2
  · omega
/-- The closures. -/
def clNext (ba bl : Nat) : Value := .func (.func 32) #[] #[.pointer (some ⟨ba, 0, none⟩), .pointer (some ⟨bl, 0, none⟩)]
def clItem (bn bo bd bi : Nat) : Value := .func (.func 33) #[] #[.pointer (some ⟨bn, 0, none⟩), .pointer (some ⟨bo, 0, none⟩), .pointer (some ⟨bd, 0, none⟩), .pointer (some ⟨bi, 0, none⟩)]
/-- The numbers, as they came in. -/
def DLAt (w : World) (B : Nat) (A : Option Addr) (n : Nat) (L : Nat → Int) : Prop := 0 < n → ∃ b off, A = some ⟨b, off, none⟩ ∧ b < B ∧ ∀ i, i < n → w.cell? ⟨b, off + i, none⟩ = some (.int .i64 (L i))
theorem DLAt.below {w w' : World} {B n : Nat} {A : Option Addr} {L : Nat → Int} (h : DLAt w B A n L) (k : Below B w w') : DLAt w' B A n L := fun hn => by
  obtain ⟨b, off, hA, hb, hc⟩ := h hn
  exact ⟨b, off, hA, hb, fun i hi => (k.cell hb).trans (hc i hi)⟩
/-- What the closures of a document hold on to. -/
structure DS (W : World) (A : Option Addr) (n cp : Nat) (L : Nat → Int) (D bl bd bo ba bn bi : Nat) (w : World) (v : Value) (m : Nat) (out : List Ev) (at_ : Nat) : Prop where
  l : Blk w bl #[.slice A n cp] 48
  d : Blk w bd #[.int .i64 D] 3
  o : Blk w bo #[v] 22
  a : Blk w ba #[.int .i64 at_] 3
  x : Blk w bn #[clNext ba bl] 81
  i : Blk w bi #[clItem bn bo bd bi] 82
  made : Made W w v m out
  len : out.length = m
  ls : DLAt w W.heap.size A n L
  da : bd ≠ ba
  low : W.heap.size ≤ bo ∧ W.heap.size ≤ ba
theorem next_any (bl ba n cp at_ : Nat) (A : Option Addr) (L : Nat → Int) (B : Nat) (w : World) (hl : Blk w bl #[.slice A n cp] 48) (ha : Blk w ba #[.int .i64 at_] 3) (hL : DLAt w B A n L) (hB : B ≤ ba) (h1 : at_ ≤ 1000000000) (h2 : n ≤ 1000000000) :
    Calls Try.prog 32 #[.pointer (some ⟨ba, 0, none⟩), .pointer (some ⟨bl, 0, none⟩)] w fun r w' => r = .returned (.int .i64 (nxD n L at_ : Nat)) ∧ w' = w.setCell ⟨ba, 0, none⟩ (.int .i64 ((at_ : Int) + 1)) := by
  have a0 := ha.cell 0
  have f0 := ha.froz 0
  have hne : bl ≠ ba := fun e => by
    subst e
    have := hl.symm.trans ha
    simp at this
  have l0 : (w.setCell ⟨ba, 0, none⟩ (.int .i64 ((at_ : Int) + 1))).cell? ⟨bl, 0, none⟩ = some (.slice A n cp) := (hl.far hne _).cell 0
  have l1 := hl.cell 0
  by_cases hlt : at_ < n
  · obtain ⟨b, off, rfl, hb, hc⟩ := hL (by omega)
    have hc := hc at_ hlt
    have hcell : (w.setCell ⟨ba, 0, none⟩ (.int .i64 ((at_ : Int) + 1))).cell? ⟨b, off + at_, none⟩ = some (.int .i64 (L at_)) := by
      rw [World.cell?_setCell_other _ _ _ _ (fun e => by have := congrArg Addr.block e; simp at this; omega)]
      exact hc
    have hnx : nxD n L at_ = wordD (L at_) := by unfold nxD; rw [if_pos hlt]
    have hw := (wordD_is (L at_)).1
    rw [hnx]
    generalize wordD (L at_) = z at hw
    clear hL hl ha hb hnx
    go_enter Try.func32, Try.ntmps32
    go_wp2
    go_ret
    exact ⟨rfl, rfl⟩
  · have hnx : nxD n L at_ = 0 := by unfold nxD; rw [if_neg hlt]
    rw [hnx]
    clear hL hl ha hnx
    go_enter Try.func32, Try.ntmps32
    go_wp2
    go_ret
    exact ⟨rfl, rfl⟩
theorem DS.go {W : World} {A : Option Addr} {n cp : Nat} {L : Nat → Int} {D bl bd bo ba bn bi : Nat} {w w' : World} {v : Value} {m : Nat} {out : List Ev} {at_ : Nat} (h : DS W A n cp L D bl bd bo ba bn bi w v m out at_) (k : Below w.heap.size w w') :
    DS W A n cp L D bl bd bo ba bn bi w' v m out at_ :=
  ⟨h.l.go k, h.d.go k, h.o.go k, h.a.go k, h.x.go k, h.i.go k, h.made.go k, h.len, h.ls.below (k.mono h.made.1.size), h.da, h.low⟩
/-- One number more is told. -/
theorem DS.next {W : World} {A : Option Addr} {n cp : Nat} {L : Nat → Int} {D bl bd bo ba bn bi : Nat} {w : World} {v : Value} {m : Nat} {out : List Ev} {at_ : Nat} (h : DS W A n cp L D bl bd bo ba bn bi w v m out at_) :
    DS W A n cp L D bl bd bo ba bn bi (w.setCell ⟨ba, 0, none⟩ (.int .i64 ((at_ : Int) + 1))) v m out (at_ + 1) := by
  have ne : ∀ {b : Nat} {cs : Array Value} {t : TypeId}, Blk w b cs t → t ≠ 3 → b ≠ ba := fun {b cs t} hb ht e => by
    subst e
    have := hb.symm.trans h.a
    simp at this
    exact ht this.2
  have hb : Below W.heap.size w (w.setCell ⟨ba, 0, none⟩ (.int .i64 ((at_ : Int) + 1))) := (Below.refl _ _).setCell h.low.2 _
  have hap : ba ∉ Value.owner v := h.made.2.1.apart (t := 3) h.a (by decide)
  exact ⟨h.l.far (ne h.l (by decide)) _, h.d.far h.da _, h.o.far (ne h.o (by decide)) _, h.a.set 0 _, h.x.far (ne h.x (by decide)) _, h.i.far (ne h.i (by decide)) _,
    ⟨h.made.1.trans hb, h.made.2.1.setCell_far hap _, h.made.2.2⟩, h.len, h.ls.below hb, h.da, h.low⟩
/-- One part more is told. -/
theorem DS.put {W : World} {A : Option Addr} {n cp : Nat} {L : Nat → Int} {D bl bd bo ba bn bi : Nat} {w wA w2 : World} {v v' : Value} {m : Nat} {out : List Ev} {at_ : Nat} (h : DS W A n cp L D bl bd bo ba bn bi w v m out at_) (e : Ev)
    (hA : Below w.heap.size w wA) (hW : Win w2 35 5 v' (m + 1) (evsC out ++ evsC [e])) (hG : wA.grownBy w2 v.ownBlock) (hO : v'.ownBlock = v.ownBlock ∨ v'.ownBlock = some wA.heap.size ∧ wA.heap.size < w2.heap.size) :
    DS W A n cp L D bl bd bo ba bn bi (w2.setCell ⟨bo, 0, none⟩ v') v' (m + 1) (out ++ [e]) at_ := by
  have hM : Made W w2 v' (m + 1) (out ++ [e]) := made_more h.made hA hW hG hO
  have lift : ∀ {b : Nat} {cs : Array Value} {t : TypeId}, Blk w b cs t → 35 ≠ t → Blk w2 b cs t := fun {b cs t} hb ht => (hb.go hA).lift hG (fun e => h.made.2.1.apart hb ht ((ob_iff _ _).1 e))
  have ho := lift h.o (by decide)
  have ne : ∀ {b : Nat} {cs : Array Value} {t : TypeId}, Blk w2 b cs t → t ≠ 22 → b ≠ bo := fun {b cs t} hb ht e => by
    subst e
    have := hb.symm.trans ho
    simp at this
    exact ht this.2
  have hl := lift h.l (by decide)
  have hd := lift h.d (by decide)
  have ha := lift h.a (by decide)
  have hx := lift h.x (by decide)
  have hi := lift h.i (by decide)
  have hb : Below W.heap.size w2 (w2.setCell ⟨bo, 0, none⟩ v') := (Below.refl _ _).setCell h.low.1 _
  have hw2 : Below W.heap.size w w2 := ((Below.refl W.heap.size w).trans (hA.mono h.made.1.size)).grown hG (Nat.le_trans h.made.1.size hA.size) (fun k hk => h.made.2.2 k ((ob_iff _ _).1 hk))
  have hap : bo ∉ Value.owner v' := hM.2.1.apart (t := 22) ho (by decide)
  exact ⟨hl.far (ne hl (by decide)) _, hd.far (ne hd (by decide)) _, ho.set 0 _, ha.far (ne ha (by decide)) _, hx.far (ne hx (by decide)) _, hi.far (ne hi (by decide)) _,
    ⟨hM.1.trans hb, hM.2.1.setCell_far hap _, hM.2.2⟩, by rw [List.length_append, h.len]; rfl, (h.ls.below hw2).below hb, h.da, h.low⟩
end Go.Proofs.Ytockeedbceopiaa
/-
  CONTRACTS of the book's documents out of numbers: one item after another, to the depth asked.
-/
namespace Go.Proofs.Ytockeedbceopiaa
open Go.RowKit
open Go.Lib
/-- A part that holds no other. -/
def plainD (x : Nat) : Ev :=
  if x % 8 = 0 then ⟨0, false, 0, ⟨#[]⟩, 0⟩
  else if x % 8 = 1 then ⟨1, decide (x / 8 % 2 = 1), 0, ⟨#[]⟩, 0⟩
  else if x % 8 ≤ 3 then ⟨2, decide (x / 8 % 2 = 1), (x * x / 2 ^ (x % 8) : Nat), ⟨#[]⟩, 0⟩
  else ⟨3, false, 0, ⟨(textL x).toArray⟩, 0⟩
/-- A part that would hold others, below the depth asked. -/
def lowD (x : Nat) : Ev := if x % 8 = 5 then ⟨3, false, 0, ⟨#[]⟩, 0⟩ else ⟨2, false, (x : Nat), ⟨#[]⟩, 0⟩
def listD (it : Nat → List Ev × Nat) : Nat → Nat → List Ev × Nat
  | 0, a => ([], a)
  | k + 1, a => ((it a).1 ++ (listD it k (it a).2).1, (listD it k (it a).2).2)
def mapD (n : Nat) (L : Nat → Int) (it : Nat → List Ev × Nat) : Nat → Nat → List Ev × Nat
  | 0, a => ([], a)
  | k + 1, a => (⟨3, false, 0, ⟨(textL (nxD n L a)).toArray⟩, 0⟩ :: ((it (a + 1)).1 ++ (mapD n L it k (it (a + 1)).2).1), (mapD n L it k (it (a + 1)).2).2)
/-- One item: its parts, and where the next is read. -/
def itemD (n : Nat) (L : Nat → Int) : Nat → Nat → List Ev × Nat
  | 0, a => (if nxD n L a % 8 ≤ 4 then [plainD (nxD n L a)] else [lowD (nxD n L a)], a + 1)
  | f + 1, a =>
    if nxD n L a % 8 ≤ 4 then ([plainD (nxD n L a)], a + 1)
    else if nxD n L a % 8 = 5 then
      (⟨5, false, 0, ⟨#[]⟩, (nxD n L a / 8 % 4 : Nat)⟩ :: (listD (itemD n L f) (nxD n L a / 8 % 4) (a + 1)).1 ++ [⟨7, false, 0, ⟨#[]⟩, 0⟩], (listD (itemD n L f) (nxD n L a / 8 % 4) (a + 1)).2)
    else
      (⟨6, false, 0, ⟨#[]⟩, (nxD n L a / 8 % 3 : Nat)⟩ :: (mapD n L (itemD n L f) (nxD n L a / 8 % 3) (a + 1)).1 ++ [⟨7, false, 0, ⟨#[]⟩, 0⟩], (mapD n L (itemD n L f) (nxD n L a / 8 % 3) (a + 1)).2)
/-- No item has more parts than this, nor reads more numbers. -/
def capD : Nat → Nat
  | 0 => 1
  | f + 1 => 3 * capD f + 5
theorem DS.held {W : World} {A : Option Addr} {n cp : Nat} {L : Nat → Int} {D bl bd bo ba bn bi : Nat} {w wA w2 : World} {v : Value} {m : Nat} {out : List Ev} {at_ : Nat} (h : DS W A n cp L D bl bd bo ba bn bi w v m out at_)
    (hA : Below w.heap.size w wA) (hG : wA.grownBy w2 v.ownBlock) : Blk w2 bo #[v] 22 := (h.o.go hA).lift hG (fun e => h.made.2.1.apart (t := 22) h.o (by decide) ((ob_iff _ _).1 e))
theorem next_ds {D n cp at_ m bl bd bo ba bn bi : Nat} {A : Option Addr} {L : Nat → Int} {W w : World} {v : Value} {out : List Ev} (h : DS W A n cp L D bl bd bo ba bn bi w v m out at_) (h1 : at_ ≤ 900000000) (h2 : n ≤ 900000000) :
    Calls Try.prog 32 #[.pointer (some ⟨ba, 0, none⟩), .pointer (some ⟨bl, 0, none⟩)] w fun r w' => r = .returned (.int .i64 (nxD n L at_ : Nat)) ∧ DS W A n cp L D bl bd bo ba bn bi w' v m out (at_ + 1) :=
  (next_any bl ba n cp at_ A L W.heap.size w h.l h.a h.ls h.low.2 (by omega) (by omega)).mono (by
    rintro e w' ⟨rfl, rfl⟩
    exact ⟨rfl, h.next⟩)
theorem and8 (x : Nat) (h : x < 65536) : bits .and .i64 (x : Int) 8 = if x / 8 % 2 = 1 then 8 else 0 := by
  have := and_nat x 8 (by omega) (by omega)
  rw [show x &&& 8 = if x / 8 % 2 = 1 then 8 else 0 from by
    apply Nat.eq_of_testBit_eq
    intro i
    rw [Nat.testBit_and, show (8 : Nat) = 2 ^ 3 from rfl, Nat.testBit_two_pow]
    by_cases hi : 3 = i
    · subst hi
      rw [Nat.testBit_eq_decide_div_mod_eq]
      by_cases hb : x / 2 ^ 3 % 2 = 1
      · rw [if_pos hb, decide_eq_true hb]
        rfl
      · simp [hb]
    · by_cases hb : x / 2 ^ 3 % 2 = 1
      · rw [if_pos hb, Nat.testBit_two_pow]
        simp [hi]
      · rw [if_neg hb]
        simp [hi]] at this
  rw [show ((8 : Nat) : Int) = 8 from rfl] at this
  rw [this]
  split <;> rfl
set_option maxHeartbeats 2000000 in
theorem plain0 {D n cp at_ m bl bd bo ba bn bi : Nat} (d : Nat) {A : Option Addr} {L : Nat → Int} {W w : World} {v : Value} {out : List Ev} (h : DS W A n cp L D bl bd bo ba bn bi w v m out at_) (h1 : at_ ≤ 900000000) (h2 : n ≤ 900000000) (h3 : m ≤ 900000000) (hx : nxD n L at_ % 8 = 0) :
    Calls Try.prog 33 #[.int .i64 d, .pointer (some ⟨bn, 0, none⟩), .pointer (some ⟨bo, 0, none⟩), .pointer (some ⟨bd, 0, none⟩), .pointer (some ⟨bi, 0, none⟩)] w fun r w' => ∃ v', r = .returned (.tuple #[]) ∧ DS W A n cp L D bl bd bo ba bn bi w' v' (m + 1) (out ++ [plainD (nxD n L at_)]) (at_ + 1) := by
  have hX := nxD_lt n L at_
  have x0 : w.cell? ⟨bn, 0, none⟩ = some (.func (.func 32) #[] #[.pointer (some ⟨ba, 0, none⟩), .pointer (some ⟨bl, 0, none⟩)]) := h.x.cell 0
  have HC := Lib.hid (next_ds h h1 h2)
  clear h
  generalize nxD n L at_ = x at hx hX HC
  have hpd : plainD x = ⟨0, false, 0, ⟨#[]⟩, 0⟩ := by unfold plainD; rw [if_pos hx]
  rw [hpd]
  clear hpd
  go_enter Try.func33, Try.ntmps33
  go_wp2_with (first
    | (go_at_call 32; refine HC.out.mono ?_; rintro e w1 ⟨rfl, HN⟩; have x1 := HN.o.cell 0; have x2 := HN.o.froz 0; have HN := Lib.hid HN)
    | (at_builtin; go_loud (refine wpList_append_win rfl _ _ _ rfl Try.underlying22 info_ev rfl rfl (HN.out.made.2.1.alloc _) _ rfl 1 _ (src_new _ Try.underlying22 5 1 (evsC [⟨0, false, 0, ⟨#[]⟩, 0⟩]) 35 _ rfl (evsC_one _) (heap_alloc_new _ _)) ?e1 ?e2 ?_)))
  case e1 => unfold maxLen; omega
  case e2 => omega
  intro v3 w3 hW3 hG3 hO3
  have hD := HN.out.put ⟨0, false, 0, ⟨#[]⟩, 0⟩ (up_alloc (Below.refl _ _) _) hW3.out hG3.out (by simpa using hO3.out)
  have hH := HN.out.held (up_alloc (Below.refl _ _) _) hG3.out
  have y1 := hH.cell 0
  have y2 := hH.froz 0
  obtain ⟨a3, c3, rfl, _, _⟩ := hD.made.2.1.slice_form
  have hD := Lib.hid hD
  clear hW3 hG3 hO3 hH x1 x2 x0
  go_wp2
  refine bodyPost_end (results_none rfl _ _ _) rfl ?_
  exact ⟨_, rfl, hD.out⟩
set_option maxHeartbeats 2000000 in
theorem plain1 {D n cp at_ m bl bd bo ba bn bi : Nat} (d : Nat) {A : Option Addr} {L : Nat → Int} {W w : World} {v : Value} {out : List Ev} (h : DS W A n cp L D bl bd bo ba bn bi w v m out at_) (h1 : at_ ≤ 900000000) (h2 : n ≤ 900000000) (h3 : m ≤ 900000000) (hx : nxD n L at_ % 8 = 1) :
    Calls Try.prog 33 #[.int .i64 d, .pointer (some ⟨bn, 0, none⟩), .pointer (some ⟨bo, 0, none⟩), .pointer (some ⟨bd, 0, none⟩), .pointer (some ⟨bi, 0, none⟩)] w fun r w' => ∃ v', r = .returned (.tuple #[]) ∧ DS W A n cp L D bl bd bo ba bn bi w' v' (m + 1) (out ++ [plainD (nxD n L at_)]) (at_ + 1) := by
  have hX := nxD_lt n L at_
  have x0 : w.cell? ⟨bn, 0, none⟩ = some (.func (.func 32) #[] #[.pointer (some ⟨ba, 0, none⟩), .pointer (some ⟨bl, 0, none⟩)]) := h.x.cell 0
  have HC := Lib.hid (next_ds h h1 h2)
  clear h
  generalize nxD n L at_ = x at hx hX HC
  have h8 := and8 x hX
  by_cases hb : x / 8 % 2 = 1
  · have hpd : plainD x = ⟨1, true, 0, ⟨#[]⟩, 0⟩ := by unfold plainD; rw [if_neg (by omega), if_pos hx, decide_eq_true hb]
    rw [if_pos hb] at h8
    rw [hpd]
    clear hpd hb
    go_enter Try.func33, Try.ntmps33
    go_wp2_with (first
      | (go_at_call 32; refine HC.out.mono ?_; rintro e w1 ⟨rfl, HN⟩; have x1 := HN.o.cell 0; have x2 := HN.o.froz 0; have HN := Lib.hid HN)
      | (at_builtin; go_loud (refine wpList_append_win rfl _ _ _ rfl Try.underlying22 info_ev rfl rfl (HN.out.made.2.1.alloc _) _ rfl 1 _ (src_new _ Try.underlying22 5 1 (evsC [⟨1, true, 0, ⟨#[]⟩, 0⟩]) 35 _ rfl (evsC_one _) (heap_alloc_new _ _)) ?e1 ?e2 ?_)))
    case e1 => unfold maxLen; omega
    case e2 => omega
    intro v3 w3 hW3 hG3 hO3
    have hD := HN.out.put ⟨1, true, 0, ⟨#[]⟩, 0⟩ (up_alloc (Below.refl _ _) _) hW3.out hG3.out (by simpa using hO3.out)
    have hH := HN.out.held (up_alloc (Below.refl _ _) _) hG3.out
    have y1 := hH.cell 0
    have y2 := hH.froz 0
    obtain ⟨a3, c3, rfl, _, _⟩ := hD.made.2.1.slice_form
    have hD := Lib.hid hD
    clear hW3 hG3 hO3 hH x1 x2 x0
    go_wp2
    refine bodyPost_end (results_none rfl _ _ _) rfl ?_
    exact ⟨_, rfl, hD.out⟩
  · have hpd : plainD x = ⟨1, false, 0, ⟨#[]⟩, 0⟩ := by unfold plainD; rw [if_neg (by omega), if_pos hx, decide_eq_false hb]
    rw [if_neg hb] at h8
    rw [hpd]
    clear hpd hb
    go_enter Try.func33, Try.ntmps33
    go_wp2_with (first
      | (go_at_call 32; refine HC.out.mono ?_; rintro e w1 ⟨rfl, HN⟩; have x1 := HN.o.cell 0; have x2 := HN.o.froz 0; have HN := Lib.hid HN)
      | (at_builtin; go_loud (refine wpList_append_win rfl _ _ _ rfl Try.underlying22 info_ev rfl rfl (HN.out.made.2.1.alloc _) _ rfl 1 _ (src_new _ Try.underlying22 5 1 (evsC [⟨1, false, 0, ⟨#[]⟩, 0⟩]) 35 _ rfl (evsC_one _) (heap_alloc_new _ _)) ?e1 ?e2 ?_)))
    case e1 => unfold maxLen; omega
    case e2 => omega
    intro v3 w3 hW3 hG3 hO3
    have hD := HN.out.put ⟨1, false, 0, ⟨#[]⟩, 0⟩ (up_alloc (Below.refl _ _) _) hW3.out hG3.out (by simpa using hO3.out)
    have hH := HN.out.held (up_alloc (Below.refl _ _) _) hG3.out
    have y1 := hH.cell 0
    have y2 := hH.froz 0
    obtain ⟨a3, c3, rfl, _, _⟩ := hD.made.2.1.slice_form
    have hD := Lib.hid hD
    clear hW3 hG3 hO3 hH x1 x2 x0
    go_wp2
    refine bodyPost_end (results_none rfl _ _ _) rfl ?_
    exact ⟨_, rfl, hD.out⟩
end Go.Proofs.Ytockeedbceopiaa
/-
  THE BOOK'S DOCUMENTS OUT OF NUMBERS, AS LISTS: how many parts; that they are one document, with counts or without; what JSON has.
-/
namespace Go.Proofs.Ytockeedbceopiaa
open Go.RowKit
open Go.Lib
theorem nx_real {n : Nat} {L : Nat → Int} {a : Nat} (h : nxD n L a ≠ 0) : a < n := by
  unfold nxD at h
  split at h
  · assumption
  · exact absurd rfl h
/-- How many numbers are read of k items, how many parts they are: as many more as a document's own numbers ask. -/
def Fine (n a k : Nat) (r : List Ev × Nat) : Prop := a ≤ r.2 ∧ r.2 + 4 * min a n ≤ a + k + 4 * min r.2 n ∧ r.1.length ≤ 2 * (r.2 - a)
theorem list_fine (n : Nat) (it : Nat → List Ev × Nat) (hit : ∀ a, Fine n a 1 (it a)) : ∀ k a, Fine n a k (listD it k a) := by
  intro k
  induction k with
  | zero => intro a; exact ⟨Nat.le_refl _, by simp [listD], by simp [listD]⟩
  | succ k ih =>
    intro a
    obtain ⟨h1, h2, h3⟩ := hit a
    obtain ⟨g1, g2, g3⟩ := ih (it a).2
    simp only [listD]
    refine ⟨by simp only; omega, by simp only; omega, ?_⟩
    simp only [List.length_append]
    omega
theorem map_fine (n : Nat) (L : Nat → Int) (it : Nat → List Ev × Nat) (hit : ∀ a, Fine n a 1 (it a)) : ∀ k a, Fine n a (2 * k) (mapD n L it k a) := by
  intro k
  induction k with
  | zero => intro a; exact ⟨Nat.le_refl _, by simp [mapD], by simp [mapD]⟩
  | succ k ih =>
    intro a
    obtain ⟨h1, h2, h3⟩ := hit (a + 1)
    obtain ⟨g1, g2, g3⟩ := ih (it (a + 1)).2
    simp only [mapD]
    refine ⟨by simp only; omega, by simp only; omega, ?_⟩
    simp only [List.length_cons, List.length_append]
    omega
theorem item_fine (n : Nat) (L : Nat → Int) : ∀ f a, Fine n a 1 (itemD n L f a) := by
  intro f
  induction f with
  | zero =>
    intro a
    simp only [itemD]
    refine ⟨by simp only; omega, by simp only; omega, ?_⟩
    split <;> simp
  | succ f ih =>
    intro a
    simp only [itemD]
    by_cases h1 : nxD n L a % 8 ≤ 4
    · rw [if_pos h1]
      exact ⟨by simp only; omega, by simp only; omega, by simp⟩
    · have hr := nx_real (n := n) (L := L) (a := a) (by omega)
      rw [if_neg h1]
      by_cases h2 : nxD n L a % 8 = 5
      · rw [if_pos h2]
        obtain ⟨g1, g2, g3⟩ := list_fine n _ ih (nxD n L a / 8 % 4) (a + 1)
        refine ⟨by simp only; omega, by simp only; omega, ?_⟩
        simp only [List.length_append, List.length_cons, List.length_nil]
        omega
      · rw [if_neg h2]
        obtain ⟨g1, g2, g3⟩ := map_fine n L _ ih (nxD n L a / 8 % 3) (a + 1)
        refine ⟨by simp only; omega, by simp only; omega, ?_⟩
        simp only [List.length_append, List.length_cons, List.length_nil]
        omega
/-- Of n numbers a document has no more parts than this. -/
theorem item_length (n : Nat) (L : Nat → Int) (f : Nat) : (itemD n L f 0).1.length ≤ 2 + 8 * n ∧ 1 ≤ (itemD n L f 0).1.length := by
  obtain ⟨h1, h2, h3⟩ := item_fine n L f 0
  refine ⟨by omega, ?_⟩
  cases f with
  | zero => simp only [itemD]; split <;> simp
  | succ f =>
    simp only [itemD]
    repeat' split
    all_goals simp
/-! ### One document -/
/-- With the counts that they have, or without. -/
def gE (o : Bool) (e : Ev) : Ev := if o = true then openE e else e
theorem deep_append (D : Nat) : ∀ (l k : List Ev) (s s' : List Bx), runC (.live s) l = .live s' → DeepW D s l → DeepW D s' k → DeepW D s (l ++ k) := by
  intro l
  induction l with
  | nil => intro k s s' h _ hk; cases h; exact hk
  | cons e l ih =>
    intro k s s' h hd hk
    rw [runC_cons] at h
    obtain ⟨h1, h2⟩ := hd
    refine ⟨h1, ?_⟩
    cases hs : stepC (.live s) e with
    | bad f => rw [hs, runC_bad] at h; cases h
    | done => trivial
    | live s2 =>
      rw [hs] at h h2
      exact ih k s2 s' h h2 hk
/-- All of l goes from s on, to c. -/
def Goes (D : Nat) (s : List Bx) (l : List Ev) (c : Ck) : Prop := runC (.live s) l = c ∧ DeepW D s l
theorem Goes.append {D : Nat} {s s' : List Bx} {l k : List Ev} {c : Ck} (h : Goes D s l (.live s')) (g : Goes D s' k c) : Goes D s (l ++ k) c :=
  ⟨by rw [runC_append, h.1, g.1], deep_append D l k s s' h.1 h.2 g.2⟩
theorem goes_one {D : Nat} {s : List Bx} {e : Ev} {c : Ck} (h : stepC (.live s) e = c) (hd : e.k = 5 ∨ e.k = 6 → s.length < D) : Goes D s [e] c := by
  refine ⟨h, hd, ?_⟩
  cases stepC (.live s) e <;> trivial
def afterV (s : List Bx) : Ck := if s = [] then .done else .live (incB s)
/-- A part that holds no other, in a value's place. -/
theorem goes_low {D : Nat} {s : List Bx} {e : Ev} (hs : keyB s = false) (hk : e.k = 0 ∨ e.k = 1 ∨ e.k = 2 ∨ e.k = 3) : Goes D s [e] (afterV s) := by
  refine goes_one ?_ (by omega)
  simp only [stepC]
  rw [if_neg (fun h => h ⟨by omega, by omega, by omega⟩), if_neg (by omega), if_neg (by rw [hs]; simp), if_neg (by omega)]
  rfl
theorem plain_kind (x : Nat) : (plainD x).k = 0 ∨ (plainD x).k = 1 ∨ (plainD x).k = 2 ∨ (plainD x).k = 3 := by
  unfold plainD
  repeat' split
  all_goals simp
theorem lowD_kind (x : Nat) : (lowD x).k = 0 ∨ (lowD x).k = 1 ∨ (lowD x).k = 2 ∨ (lowD x).k = 3 := by
  unfold lowD
  split <;> simp
theorem gE_low (o : Bool) (e : Ev) (hk : e.k = 0 ∨ e.k = 1 ∨ e.k = 2 ∨ e.k = 3) : gE o e = e := by
  unfold gE openE
  split
  · rw [if_neg (by omega)]
  · rfl
theorem gE_end (o : Bool) : gE o ⟨7, false, 0, ⟨#[]⟩, 0⟩ = ⟨7, false, 0, ⟨#[]⟩, 0⟩ := by
  cases o <;> rfl
def cntG (o : Bool) (c : Nat) : Int := if o = true then -1 else (c : Int)
theorem gE_arr (o : Bool) (c : Nat) : gE o ⟨5, false, 0, ⟨#[]⟩, (c : Nat)⟩ = ⟨5, false, 0, ⟨#[]⟩, cntG o c⟩ := by
  cases o <;> rfl
theorem gE_map (o : Bool) (c : Nat) : gE o ⟨6, false, 0, ⟨#[]⟩, (c : Nat)⟩ = ⟨6, false, 0, ⟨#[]⟩, cntG o c⟩ := by
  cases o <;> rfl
theorem cntG_low (o : Bool) (c : Nat) : -1 ≤ cntG o c := by
  unfold cntG
  split <;> omega
theorem goes_begin {D : Nat} {s : List Bx} (hs : keyB s = false) (m : Bool) (c : Int) (hc : -1 ≤ c) (hD : s.length < D) (hD16 : D ≤ 16) : Goes D s [⟨if m then 6 else 5, false, 0, ⟨#[]⟩, c⟩] (.live (⟨m, c, 0⟩ :: incB s)) := by
  refine goes_one ?_ (fun _ => hD)
  simp only [stepC]
  cases m with
  | true =>
    rw [if_neg (fun h => h ⟨by simp, by simp, fun _ => hc⟩), if_neg (by simp), if_neg (by rw [hs]; simp), if_pos (by simp), if_neg (by omega)]
    rfl
  | false =>
    rw [if_neg (fun h => h ⟨by simp, by simp, fun _ => hc⟩), if_neg (by simp), if_neg (by rw [hs]; simp), if_pos (by simp), if_neg (by omega)]
    rfl
theorem goes_end {D : Nat} {s : List Bx} (b : Bx) (hb : ¬ shutB b) : Goes D (b :: incB s) [⟨7, false, 0, ⟨#[]⟩, 0⟩] (afterV s) := by
  refine goes_one ?_ (by simp)
  simp only [stepC]
  rw [if_neg (fun h => h ⟨by simp, by simp, by simp⟩), if_pos trivial, if_neg hb]
  cases s with
  | nil => rfl
  | cons x r => simp [afterV, incB]
theorem incB_length (s : List Bx) : (incB s).length = s.length := by cases s <;> rfl
theorem goes_list (o : Bool) (D f : Nat) (it : Nat → List Ev × Nat) (hit : ∀ a s, keyB s = false → s.length + f ≤ D → Goes D s ((it a).1.map (gE o)) (afterV s)) :
    ∀ k a (b : Bx) (s : List Bx), b.map = false → s.length + 1 + f ≤ D → Goes D (b :: s) ((listD it k a).1.map (gE o)) (.live (⟨b.map, b.c, b.have_ + k⟩ :: s)) := by
  intro k
  induction k with
  | zero => intro a b s _ _; exact ⟨rfl, trivial⟩
  | succ k ih =>
    intro a b s hb hD
    simp only [listD, List.map_append]
    have h1 := hit a (b :: s) (by simp [keyB, hb]) (by simp only [List.length_cons]; omega)
    have h2 := ih (it a).2 ⟨b.map, b.c, b.have_ + 1⟩ s hb hD
    simp only [Nat.add_assoc, Nat.add_comm 1 k] at h2
    exact h1.append h2
theorem goes_map (o : Bool) (D f n : Nat) (L : Nat → Int) (it : Nat → List Ev × Nat) (hit : ∀ a s, keyB s = false → s.length + f ≤ D → Goes D s ((it a).1.map (gE o)) (afterV s)) :
    ∀ k a (b : Bx) (s : List Bx), b.map = true → b.have_ % 2 = 0 → s.length + 1 + f ≤ D → Goes D (b :: s) ((mapD n L it k a).1.map (gE o)) (.live (⟨b.map, b.c, b.have_ + 2 * k⟩ :: s)) := by
  intro k
  induction k with
  | zero => intro a b s _ _ _; exact ⟨rfl, trivial⟩
  | succ k ih =>
    intro a b s hb h0 hD
    simp only [mapD, List.map_cons, List.map_append]
    have hkey : Goes D (b :: s) [gE o ⟨3, false, 0, ⟨(textL (nxD n L a)).toArray⟩, 0⟩] (.live (⟨b.map, b.c, b.have_ + 1⟩ :: s)) := by
      rw [gE_low o _ (by simp)]
      refine goes_one ?_ (by simp)
      simp only [stepC]
      rw [if_neg (fun h => h ⟨by simp, by simp, by simp⟩), if_neg (by simp), if_neg (by simp), if_neg (by simp), if_neg (by simp)]
      rfl
    have h1 := hit (a + 1) (⟨b.map, b.c, b.have_ + 1⟩ :: s) (by simp [keyB, hb]; omega) (by simp only [List.length_cons]; omega)
    have h2 := ih (it (a + 1)).2 ⟨b.map, b.c, b.have_ + 2⟩ s hb (by simp only; omega) hD
    have e2 : b.have_ + 2 + 2 * k = b.have_ + 2 * (k + 1) := by omega
    simp only [e2] at h2
    exact hkey.append (h1.append h2)
theorem goes_item (o : Bool) (D n : Nat) (L : Nat → Int) (hD16 : D ≤ 16) : ∀ f a s, keyB s = false → s.length + f ≤ D → Goes D s ((itemD n L f a).1.map (gE o)) (afterV s) := by
  intro f
  induction f with
  | zero =>
    intro a s hs _
    simp only [itemD]
    split
    · simp only [List.map_cons, List.map_nil, gE_low o _ (plain_kind _)]
      exact goes_low hs (plain_kind _)
    · simp only [List.map_cons, List.map_nil, gE_low o _ (lowD_kind _)]
      exact goes_low hs (lowD_kind _)
  | succ f ih =>
    intro a s hs hD
    simp only [itemD]
    by_cases h1 : nxD n L a % 8 ≤ 4
    · rw [if_pos h1]
      simp only [List.map_cons, List.map_nil, gE_low o _ (plain_kind _)]
      exact goes_low hs (plain_kind _)
    · rw [if_neg h1]
      by_cases h2 : nxD n L a % 8 = 5
      · rw [if_pos h2]
        generalize nxD n L a / 8 % 4 = k
        simp only [List.map_cons, List.map_append, List.map_nil, gE_arr, gE_end, List.cons_append]
        have g1 := goes_begin hs false (cntG o k) (cntG_low o k) (show s.length < D by omega) hD16
        have g2 := goes_list o D f _ ih k (a + 1) ⟨false, cntG o k, 0⟩ (incB s) rfl (by rw [incB_length]; omega)
        have g3 := goes_end (D := D) (s := s) ⟨false, cntG o k, 0 + k⟩ (by
          unfold shutB cntG
          cases o <;> simp)
        exact g1.append (g2.append g3)
      · rw [if_neg h2]
        generalize nxD n L a / 8 % 3 = k
        simp only [List.map_cons, List.map_append, List.map_nil, gE_map, gE_end, List.cons_append]
        have g1 := goes_begin hs true (cntG o k) (cntG_low o k) (show s.length < D by omega) hD16
        have g2 := goes_map o D f n L _ ih k (a + 1) ⟨true, cntG o k, 0⟩ (incB s) rfl rfl (by rw [incB_length]; omega)
        have g3 := goes_end (D := D) (s := s) ⟨true, cntG o k, 0 + 2 * k⟩ (by
          unfold shutB cntG
          cases o <;> simp)
        exact g1.append (g2.append g3)
/-- A DOCUMENT OUT OF NUMBERS IS ONE, with its counts or without. -/
theorem doc_one (o : Bool) (D n : Nat) (L : Nat → Int) (hD16 : D ≤ 16) : checkE ((itemD n L D 0).1.map (gE o)) = 0 ∧ DeepW D [] ((itemD n L D 0).1.map (gE o)) := by
  obtain ⟨h1, h2⟩ := goes_item o D n L hD16 D 0 [] rfl (by simp)
  refine ⟨?_, h2⟩
  unfold checkE
  rw [h1]
  rfl
end Go.Proofs.Ytockeedbceopiaa
/-
  THE BOOK'S DOCUMENTS OUT OF NUMBERS, AS LISTS: their numbers, their texts; what JSON has.
-/
namespace Go.Proofs.Ytockeedbceopiaa
open Go.RowKit
open Go.Lib
def pieceR (i : Nat) : Nat := if i = 0 then 97 else if i = 1 then 34 else if i = 2 then 92 else if i = 3 then 10 else if i = 4 then 233 else if i = 5 then 1 else if i = 6 then 119070 else 122
theorem piece_rune : ∀ i : Fin 8, pieceL i.val = encL (pieceR i.val) := by decide +kernel
theorem pieceR_ok (i : Nat) : IsRune (pieceR i) := by
  unfold pieceR IsRune
  repeat' split
  all_goals omega
theorem textGo_runes (x : Nat) : ∀ k acc, ∃ ns : List Nat, ns.length = k ∧ (∀ r ∈ ns, IsRune r) ∧ textGo x k acc = acc ++ ns.flatMap encL := by
  intro k
  induction k with
  | zero => intro acc; exact ⟨[], rfl, by simp, by simp [textGo]⟩
  | succ k ih =>
    intro acc
    have hp := piece_rune ⟨x / 2 ^ ((k + 1) % 8) % 8, by omega⟩
    obtain ⟨ns, h1, h2, h3⟩ := ih (acc ++ pieceL (x / 2 ^ ((k + 1) % 8) % 8))
    refine ⟨pieceR (x / 2 ^ ((k + 1) % 8) % 8) :: ns, by simp [h1], ?_, ?_⟩
    · intro r hr
      rcases List.mem_cons.1 hr with rfl | hr
      · exact pieceR_ok _
      · exact h2 r hr
    · simp only [textGo]
      rw [h3, List.flatMap_cons, List.append_assoc]
      simp only at hp
      rw [hp]
theorem textL_fine (x : Nat) : validD (textL x) = true ∧ (textL x).length ≤ 28 := by
  obtain ⟨ns, h1, h2, h3⟩ := textGo_runes x (x % 8) []
  unfold textL
  rw [h3, List.nil_append]
  refine ⟨valid_encs ns h2, ?_⟩
  have : ∀ l : List Nat, (∀ n ∈ l, IsRune n) → (l.flatMap encL).length ≤ 4 * l.length := by
    intro l hl
    induction l with
    | nil => simp
    | cons a r ih =>
      have h4 := (enc_len (hl a (by simp))).2
      have := ih (fun n hn => hl n (by simp [hn]))
      rw [List.flatMap_cons, List.length_append, List.length_cons]
      generalize encL a = y at *
      omega
  have := this ns h2
  omega
/-- What a part of these documents is. -/
structure DocE (e : Ev) : Prop where
  kind : e.k = 0 ∨ e.k = 1 ∨ e.k = 2 ∨ e.k = 3 ∨ e.k = 5 ∨ e.k = 6 ∨ e.k = 7
  tidy : tidyE e = e
  cnt : -1 ≤ e.c ∧ e.c ≤ 3
  mag : e.m < 4294967296
  text : validD e.t.data.toList = true ∧ e.t.data.toList.length ≤ 28
theorem validD_nil : validD [] = true := rfl
theorem docE_plain (x : Nat) (hx : x < 65536) : DocE (plainD x) := by
  unfold plainD
  by_cases h0 : x % 8 = 0
  · rw [if_pos h0]
    exact ⟨by simp, rfl, by simp, by simp, validD_nil, by simp⟩
  rw [if_neg h0]
  by_cases h1 : x % 8 = 1
  · rw [if_pos h1]
    exact ⟨by simp, rfl, by simp, by simp, validD_nil, by simp⟩
  rw [if_neg h1]
  by_cases h2 : x % 8 ≤ 3
  · rw [if_pos h2]
    refine ⟨by simp, rfl, by simp, ?_, validD_nil, by simp⟩
    have h3 : x * x ≤ 65535 * 65535 := Nat.mul_le_mul (by omega) (by omega)
    have h4 : x * x / 2 ^ (x % 8) ≤ x * x := Nat.div_le_self _ _
    simp only
    omega
  · rw [if_neg h2]
    exact ⟨by simp, rfl, by simp, by simp, (textL_fine x).1, (textL_fine x).2⟩
theorem docE_low (x : Nat) (hx : x < 65536) : DocE (lowD x) := by
  unfold lowD
  split
  · exact ⟨by simp, rfl, by simp, by simp, validD_nil, by simp⟩
  · exact ⟨by simp, rfl, by simp, by simp only; omega, validD_nil, by simp⟩
theorem docE_list (it : Nat → List Ev × Nat) (hit : ∀ a, ∀ e ∈ (it a).1, DocE e) : ∀ k a, ∀ e ∈ (listD it k a).1, DocE e := by
  intro k
  induction k with
  | zero => intro a e he; simp [listD] at he
  | succ k ih =>
    intro a e he
    simp only [listD, List.mem_append] at he
    rcases he with he | he
    · exact hit a e he
    · exact ih _ e he
theorem docE_key (n : Nat) (L : Nat → Int) (a : Nat) : DocE ⟨3, false, 0, ⟨(textL (nxD n L a)).toArray⟩, 0⟩ := ⟨by simp, rfl, by simp, by simp, (textL_fine _).1, (textL_fine _).2⟩
theorem docE_map (n : Nat) (L : Nat → Int) (it : Nat → List Ev × Nat) (hit : ∀ a, ∀ e ∈ (it a).1, DocE e) : ∀ k a, ∀ e ∈ (mapD n L it k a).1, DocE e := by
  intro k
  induction k with
  | zero => intro a e he; simp [mapD] at he
  | succ k ih =>
    intro a e he
    simp only [mapD, List.mem_cons, List.mem_append] at he
    rcases he with rfl | he | he
    · exact docE_key n L a
    · exact hit (a + 1) e he
    · exact ih _ e he
theorem docE_item (n : Nat) (L : Nat → Int) : ∀ f a, ∀ e ∈ (itemD n L f a).1, DocE e := by
  have hend : DocE ⟨7, false, 0, ⟨#[]⟩, 0⟩ := ⟨by simp, rfl, by simp, by simp, validD_nil, by simp⟩
  intro f
  induction f with
  | zero =>
    intro a e he
    simp only [itemD] at he
    split at he
    · obtain rfl : e = _ := by simpa using he
      exact docE_plain _ (nxD_lt n L a)
    · obtain rfl : e = _ := by simpa using he
      exact docE_low _ (nxD_lt n L a)
  | succ f ih =>
    intro a e he
    simp only [itemD] at he
    by_cases h1 : nxD n L a % 8 ≤ 4
    · rw [if_pos h1] at he
      obtain rfl : e = _ := by simpa using he
      exact docE_plain _ (nxD_lt n L a)
    · rw [if_neg h1] at he
      by_cases h2 : nxD n L a % 8 = 5
      · rw [if_pos h2] at he
        have hk : nxD n L a / 8 % 4 ≤ 3 := by omega
        generalize nxD n L a / 8 % 4 = k at he hk
        simp only [List.cons_append, List.mem_cons, List.mem_append, List.not_mem_nil, or_false] at he
        rcases he with rfl | he | rfl
        · exact ⟨by simp, rfl, by simp only; omega, by simp, validD_nil, by simp⟩
        · exact docE_list _ ih _ _ e he
        · exact hend
      · rw [if_neg h2] at he
        have hk : nxD n L a / 8 % 3 ≤ 2 := by omega
        generalize nxD n L a / 8 % 3 = k at he hk
        simp only [List.cons_append, List.mem_cons, List.mem_append, List.not_mem_nil, or_false] at he
        rcases he with rfl | he | rfl
        · exact ⟨by simp, rfl, by simp only; omega, by simp, validD_nil, by simp⟩
        · exact docE_map n L _ ih _ _ e he
        · exact hend
theorem docE_open {e : Ev} (h : DocE e) : DocE (openE e) ∧ (((openE e).k = 5 ∨ (openE e).k = 6) → (openE e).c = -1) := by
  obtain ⟨k, y, m, t, c⟩ := e
  unfold openE
  by_cases hk : k = 5 ∨ k = 6
  · rw [if_pos hk]
    obtain ⟨h1, h2, h3, h4, h5⟩ := h
    refine ⟨⟨h1, ?_, by simp, h4, h5⟩, fun _ => rfl⟩
    simp only [tidyE] at h2 ⊢
    rcases hk with rfl | rfl
    · simp at h2 ⊢; exact ⟨h2.1, h2.2.1, h2.2.2⟩
    · simp at h2 ⊢; exact ⟨h2.1, h2.2.1, h2.2.2⟩
  · rw [if_neg hk]
    exact ⟨h, fun h' => absurd h' hk⟩
theorem DocE.good {e : Ev} (h : DocE e) (ho : e.k = 5 ∨ e.k = 6 → e.c = -1) : GoodW e := ⟨h.kind, h.tidy, ho, by have := h.mag; omega, fun _ => ⟨h.text.1, by have := h.text.2; omega⟩⟩
theorem DocE.ok {e : Ev} (h : DocE e) : EvOk e := by
  have h1 := h.kind
  have h2 := h.cnt
  have h3 := h.mag
  have h4 := h.text.2
  rw [size_list] at h4
  exact ⟨⟨by omega, by omega⟩, by omega, ⟨by omega, by omega⟩, by omega⟩
/-- What JSON has of them. -/
theorem doc_good (n : Nat) (L : Nat → Int) (f a : Nat) : ∀ e ∈ (itemD n L f a).1.map openE, GoodW e ∧ EvOk e ∧ e.t.size ≤ 28 := by
  intro e he
  obtain ⟨x, hx, rfl⟩ := List.mem_map.1 he
  obtain ⟨h1, h2⟩ := docE_open (docE_item n L f a x hx)
  refine ⟨h1.good h2, h1.ok, ?_⟩
  have := h1.text.2
  rwa [size_list] at this
theorem gE_true : gE true = openE := by funext e; rfl
theorem gE_false : gE false = id := by funext e; rfl
end Go.Proofs.Ytockeedbceopiaa
/-
  NO PROGRAM NEEDED: documents written part by part, as far as they are written; blanks ahead of all.
-/
namespace Go.Proofs.Ytockeedbceopiaa
open Go.Lib
theorem writeAll_snoc (p q : List UInt8) : ∀ (l : List Ev) (s s' : List Bx) (e : Ev), runC (.live s) l = .live s' → writeAll p q s (l ++ [e]) = writeAll p q s l ++ (p ++ (writeW s' e ++ q))
  | [], s, s', e, h => by
    have : Ck.live s = Ck.live s' := h
    obtain rfl : s = s' := by cases this; rfl
    simp only [List.nil_append, writeAll]
    cases stepC (.live s) e <;> simp
  | x :: l, s, s', e, h => by
    rw [runC_cons] at h
    simp only [List.cons_append, writeAll]
    cases hx : stepC (.live s) x with
    | bad f => rw [hx, runC_bad] at h; cases h
    | done =>
      rw [hx] at h
      cases l with
      | nil => cases h
      | cons y l => rw [runC_cons] at h; simp only [stepC] at h; rw [runC_bad] at h; cases h
    | live s1 =>
      rw [hx] at h
      simp only [writeAll_snoc p q l s1 s' e h, List.append_assoc]
/-- Ahead of its end a document goes on. -/
theorem live_at {l : List Ev} (h : runC (.live []) l = .done) {j : Nat} (hj : j < l.length) : ∃ s, runC (.live []) (l.take j) = .live s ∧ ∀ f, stepC (.live s) l[j] ≠ .bad f := by
  have h1 : runC (runC (.live []) (l.take j)) (l.drop j) = .done := by rw [← runC_append, List.take_append_drop]; exact h
  have hd : l.drop j = l[j] :: l.drop (j + 1) := List.drop_eq_getElem_cons hj
  rw [hd, runC_cons] at h1
  cases hc : runC (.live []) (l.take j) with
  | bad f => rw [hc] at h1; simp only [stepC] at h1; rw [runC_bad] at h1; cases h1
  | done => rw [hc] at h1; simp only [stepC] at h1; rw [runC_bad] at h1; cases h1
  | live s =>
    rw [hc] at h1
    exact ⟨s, rfl, fun f hf => by rw [hf, runC_bad] at h1; cases h1⟩
theorem runC_take {l : List Ev} {j : Nat} (hj : j < l.length) (c : Ck) : runC c (l.take (j + 1)) = stepC (runC c (l.take j)) l[j] := by
  rw [List.take_add_one, List.getElem?_eq_getElem hj, runC_append]
  rfl
theorem write_take (p q : List UInt8) {l : List Ev} {j : Nat} (hj : j < l.length) {s : List Bx} (h : runC (.live []) (l.take j) = .live s) :
    writeAll p q [] (l.take (j + 1)) = writeAll p q [] (l.take j) ++ (p ++ (writeW s l[j] ++ q)) := by
  rw [List.take_add_one, List.getElem?_eq_getElem hj]
  exact writeAll_snoc p q _ _ _ _ h
/-- A document behind a blank. -/
theorem back_blank (D : Nat) (b : UInt8) (hb : isBlank b.toNat = true) (l : List UInt8) : allJ D (b :: l) = allJ D l := by
  have h : stepJ D ⟨.idle, .at_ [] false⟩ b = (⟨.idle, .at_ [] false⟩, []) := by
    rw [step_tells D [] false .idle b [] (blank_none b hb)]
    rfl
  unfold allJ
  simp only [runJ, h, List.nil_append]
end Go.Proofs.Ytockeedbceopiaa
/-
  NO PROGRAM NEEDED: the book's documents as Check lets them by.
-/
namespace Go.Proofs.Ytockeedbceopiaa
open Go.RowKit
open Go.Lib
theorem doc_run (n : Nat) (L : Nat → Int) (D : Nat) (hD : D ≤ 16) : runC (.live []) (itemD n L D 0).1 = .done := by
  have h := (doc_one false D n L hD).1
  rw [gE_false, List.map_id] at h
  exact check_zero h
theorem doc_e (n : Nat) (L : Nat → Int) (D : Nat) : ∀ e ∈ (itemD n L D 0).1, DocE e := docE_item n L D 0
theorem docE_may {e : Ev} (h : DocE e) : mayE e := by
  have h1 := h.kind
  have h2 := h.cnt
  exact ⟨by omega, by omega, fun _ => h2.1⟩
theorem docE_small {e : Ev} (h : DocE e) : EvOk e ∧ e.t.size ≤ 1000 := by
  refine ⟨h.ok, ?_⟩
  have := h.text.2
  rw [size_list] at this
  omega
theorem run_ended {l : List Ev} (h : runC .done l = .done) : l = [] := by
  cases l with
  | nil => rfl
  | cons e l =>
    have : runC .done (e :: l) = runC (.bad 2) l := rfl
    rw [this, runC_bad] at h
    cases h
theorem stepC_may {s : List Bx} {e : Ev} (h : ∀ f, stepC (.live s) e ≠ .bad f) : mayE e := by
  by_cases hm : mayE e
  · exact hm
  · exact absurd (by simp only [stepC]; rw [if_pos hm]) (h 2)
/-- All counts are known. -/
theorem doc_pos (n : Nat) (L : Nat → Int) : ∀ f a, ∀ e ∈ (itemD n L f a).1, 0 ≤ e.c := by
  have hpl : ∀ x, 0 ≤ (plainD x).c := by
    intro x
    unfold plainD
    repeat' split
    all_goals simp
  have hlw : ∀ x, 0 ≤ (lowD x).c := by
    intro x
    unfold lowD
    split <;> simp
  have hls : ∀ (it : Nat → List Ev × Nat), (∀ a, ∀ e ∈ (it a).1, 0 ≤ e.c) → ∀ k a, ∀ e ∈ (listD it k a).1, 0 ≤ e.c := by
    intro it hit k
    induction k with
    | zero => intro a e he; simp [listD] at he
    | succ k ih =>
      intro a e he
      simp only [listD, List.mem_append] at he
      rcases he with he | he
      · exact hit a e he
      · exact ih _ e he
  have hmp : ∀ (it : Nat → List Ev × Nat), (∀ a, ∀ e ∈ (it a).1, 0 ≤ e.c) → ∀ k a, ∀ e ∈ (mapD n L it k a).1, 0 ≤ e.c := by
    intro it hit k
    induction k with
    | zero => intro a e he; simp [mapD] at he
    | succ k ih =>
      intro a e he
      simp only [mapD, List.mem_cons, List.mem_append] at he
      rcases he with rfl | he | he
      · simp
      · exact hit (a + 1) e he
      · exact ih _ e he
  intro f
  induction f with
  | zero =>
    intro a e he
    simp only [itemD] at he
    split at he
    · obtain rfl : e = _ := by simpa using he
      exact hpl _
    · obtain rfl : e = _ := by simpa using he
      exact hlw _
  | succ f ih =>
    intro a e he
    simp only [itemD] at he
    by_cases h1 : nxD n L a % 8 ≤ 4
    · rw [if_pos h1] at he
      obtain rfl : e = _ := by simpa using he
      exact hpl _
    · rw [if_neg h1] at he
      by_cases h2 : nxD n L a % 8 = 5
      · rw [if_pos h2] at he
        generalize nxD n L a / 8 % 4 = k at he
        simp only [List.cons_append, List.mem_cons, List.mem_append, List.not_mem_nil, or_false] at he
        rcases he with rfl | he | rfl
        · simp
        · exact hls _ ih _ _ e he
        · simp
      · rw [if_neg h2] at he
        generalize nxD n L a / 8 % 3 = k at he
        simp only [List.cons_append, List.mem_cons, List.mem_append, List.not_mem_nil, or_false] at he
        rcases he with rfl | he | rfl
        · simp
        · exact hmp _ ih _ _ e he
        · simp
end Go.Proofs.Ytockeedbceopiaa
/-
  The document's own Tidy: of whatever part.
-/
namespace Go.Proofs.Ytockeedbceopiaa
open Go.RowKit
open Go.Lib
theorem rtidy_k (e : Ev) : (tidyE e).k = e.k := by
  unfold tidyE
  by_cases h1 : e.k = 1
  · rw [if_pos h1]; exact h1.symm
  · by_cases h2 : e.k = 2
    · rw [if_neg h1, if_pos h2]; exact h2.symm
    · rw [if_neg h1, if_neg h2]
      split
      · rfl
      · split <;> rfl
theorem tidy_c {e : Ev} (h : e.k = 5 ∨ e.k = 6) : (tidyE e).c = e.c := by
  unfold tidyE
  rw [if_neg (by omega), if_neg (by omega), if_neg (by omega), if_pos h]
theorem tidy_may (e : Ev) : mayE (tidyE e) ↔ mayE e := by
  unfold mayE
  rw [rtidy_k]
  constructor
  · rintro ⟨a, b, c⟩
    exact ⟨a, b, fun h => by have := c h; rwa [tidy_c h] at this⟩
  · rintro ⟨a, b, c⟩
    exact ⟨a, b, fun h => by rw [tidy_c h]; exact c h⟩
theorem tidy_ok {e : Ev} (h : EvOk e) (ht : e.t.size ≤ 1000) : EvOk (tidyE e) ∧ (tidyE e).t.size ≤ 1000 := by
  obtain ⟨h1, h2, h3, h4⟩ := h
  unfold tidyE
  by_cases c1 : e.k = 1
  · rw [if_pos c1]
    exact ⟨⟨by constructor <;> simp, by simp, by constructor <;> simp, Nat.zero_le _⟩, Nat.zero_le _⟩
  rw [if_neg c1]
  by_cases c2 : e.k = 2
  · rw [if_pos c2]
    exact ⟨⟨by constructor <;> simp, h2, by constructor <;> simp, Nat.zero_le _⟩, Nat.zero_le _⟩
  rw [if_neg c2]
  by_cases c3 : e.k = 3 ∨ e.k = 4
  · rw [if_pos c3]
    exact ⟨⟨h1, by simp, by constructor <;> simp, h4⟩, ht⟩
  rw [if_neg c3]
  by_cases c5 : e.k = 5 ∨ e.k = 6
  · rw [if_pos c5]
    exact ⟨⟨h1, by simp, h3, Nat.zero_le _⟩, Nat.zero_le _⟩
  · rw [if_neg c5]
    exact ⟨⟨h1, by simp, by constructor <;> simp, Nat.zero_le _⟩, Nat.zero_le _⟩
set_option maxRecDepth 100000 in
set_option maxHeartbeats 1000000 in
/-- TIDY, of whatever part. -/
theorem tidy_ref (e : Ev) (w : World) : Calls Try.prog 14 #[evV e] w fun r w' => r = .returned (evV (tidyE e)) ∧ Below w.heap.size w w' := by
  obtain ⟨k, y, m, t, c⟩ := e
  by_cases hk : k = 0 ∨ k = 1 ∨ k = 2 ∨ k = 3 ∨ k = 4 ∨ k = 5 ∨ k = 6 ∨ k = 7
  · rcases hk with rfl | rfl | rfl | rfl | rfl | rfl | rfl | rfl
    all_goals simp only [evV]
    all_goals
      go_enter Try.func14, Try.ntmps14
      go_wp2
    all_goals simp [bodyPost, results, Try.results14, go_sem, tidyE]
    all_goals repeat (first | exact Below.refl _ _ | refine up_alloc ?_ _)
  · have n1 : (k == 1) = false := by rw [beq_eq_false_iff_ne]; omega
    have n2 : (k == 2) = false := by rw [beq_eq_false_iff_ne]; omega
    have n3 : (k == 3) = false := by rw [beq_eq_false_iff_ne]; omega
    have n4 : (k == 4) = false := by rw [beq_eq_false_iff_ne]; omega
    have n5 : (k == 5) = false := by rw [beq_eq_false_iff_ne]; omega
    have n6 : (k == 6) = false := by rw [beq_eq_false_iff_ne]; omega
    have ht : tidyE ⟨k, y, m, t, c⟩ = ⟨k, false, 0, ⟨#[]⟩, 0⟩ := by
      unfold tidyE
      simp only
      rw [if_neg (by omega), if_neg (by omega), if_neg (by omega), if_neg (by omega)]
    rw [ht]
    simp only [evV]
    clear hk ht
    go_enter Try.func14, Try.ntmps14
    go_wp2
    all_goals simp [bodyPost, results, Try.results14, go_sem]
    all_goals repeat (first | exact Below.refl _ _ | refine up_alloc ?_ _)

end Go.Proofs.Ytockeedbceopiaa
/-
  NO PROGRAM NEEDED: '(at%n + n) % n' is a place; wraps that do nothing.
-/
namespace Go.Proofs.Ytockeedbceopiaa
open Go.RowKit
open Go.Lib
theorem wrap64_of {x : Int} (h : -9223372036854775808 ≤ x ∧ x ≤ 9223372036854775807) : wrap64 x = x := by
  first | (rw [wrap64]; omega) | (unfold wrap64; omega) | (simp only [wrap64, IntKind.wrap_i64]; omega)
/-- '(at%n + n) % n' -/
theorem rem_place (a : Int) (n : Nat) (hn : 0 < n) (hm : n ≤ 1000000) : ∃ k : Nat, k < n ∧ ((wrap64 (a.tmod n + n)).tmod n) = (k : Int) := by
  have h1 := Int.tmod_lt_of_pos a (show (0 : Int) < n by omega)
  have h2 : -(n : Int) < a.tmod n := by
    have := Int.lt_tmod_of_pos a (show (0 : Int) < n by omega)
    exact this
  have hw : wrap64 (a.tmod n + n) = a.tmod n + n := wrap64_of (by omega)
  rw [hw]
  have h3 : 0 ≤ a.tmod n + n := by omega
  have h4 := Int.tmod_nonneg (n : Int) h3
  have h5 := Int.tmod_lt_of_pos (a.tmod n + n) (show (0 : Int) < n by omega)
  exact ⟨((a.tmod n + n).tmod n).toNat, by omega, by omega⟩
end Go.Proofs.Ytockeedbceopiaa
