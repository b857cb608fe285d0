/-
  CONTRACTS of packout.Writer, part F: count, of a Writer; write. CONTRACTS of packout.Writer, part G: a value; Step; a Writer that a law made. CONTRACT of packout.All: as the machine of PoutPure over all parts. LAWS of chapter 16: the first call (alive); All of one part. CONTRACT of the document's own plain, for MessagePack: whatever part. CONTRACT of the document's own Writer, for MessagePack: a part of a document. CONTRACT of the document's own Writer, for MessagePack: any part, whether it may be or not, as the machine of PoutPure. CONTRACTS of the book's documents out of numbers: every item, to the depth asked. CONTRACT of the book's documents out of numbers: truchmanbook.Doc. The book's documents: how many blocks one may take; what came in as ints. Documents written part by part as MessagePack: the machine of PoutPure over documents that Check lets by; the document's own Writer as that machine. LAWS of chapter 16: PackoutOpen. LAWS of chapter 16: PackoutEnds. TwoR Writers beside each other; the document's own Writer beside them. A Writer and the document's own beside each other, part by part; the document's own over all parts. LAWS of chapter 16: PackoutCounts.
-/
import Derived.Test.YtonjdnahplphhaaG1a
import Derived.Test.YtonjdnahplphhaaHPoE
import Derived.Test.YtonjdnahplphhaaG0c
import Derived.Test.YtonjdnahplphhaaHRefPout
import Derived.Test.YtonjdnahplphhaaHRefPu
import Derived.Test.YtonjdnahplphhaaHRefPv
import Derived.Test.YtonjdnahplphhaaHRefPw
import Derived.Test.YtonjdnahplphhaaHRefPh
import Derived.Test.YtonjdnahplphhaaHRefPi
import Derived.Test.YtonjdnahplphhaaHRefPj
import Derived.Test.YtonjdnahplphhaaHRefPe
import Derived.Test.YtonjdnahplphhaaHRefPx
import Derived.Test.YtonjdnahplphhaaHRefPxa
import Derived.Test.YtonjdnahplphhaaHRefPxm
import Derived.Test.YtonjdnahplphhaaHRefPya
import Derived.Test.YtonjdnahplphhaaG0b
import Derived.Test.YtonjdnahplphhaaHDocG
import Derived.Laws.EntriesVeiled
/-
  CONTRACTS of packout.Writer, part F: count, of a Writer; write.
-/
namespace Go.Proofs.Ytonjdnahplphhaa
open Go.RowKit
open Go.Lib
theorem PoAt.whole {w : World} {b o : Nat} {F : List Nat} {s : List Bx} {d : Bool} (h : PoAt w b o F ⟨s, d⟩) (D : Bool) (hD : D = true → s = []) : PoAt (w.setCell ⟨b, o + 1, none⟩ (.bool D)) b o F ⟨s, D⟩ ∧ Jf b o F F w (w.setCell ⟨b, o + 1, none⟩ (.bool D)) := by
  obtain ⟨a, cp, hA, hW, hF⟩ := h.cells
  obtain ⟨cs, t, fr, hc, ht⟩ := h.blk
  have hap : b ∉ Value.owner (.slice a s.length cp) := hW.apart hc (fun e => ht e.symm)
  have hset := hA.set 1 (by simp) (.bool D)
  exact ⟨⟨⟨a, cp, by simpa using hset, hW.setCell_far hap _, hF⟩, ⟨_, t, fr, heap_setCell_at w ⟨b, o + 1, none⟩ _ _ _ _ rfl hc, ht⟩, hD, h.wf⟩, (Jf.refl b o F w).set (o + 1) _ (by omega)⟩
theorem PoAt.pair {w : World} {b o : Nat} {F : List Nat} {q : Kq} (h : PoAt w b o F q) : ∃ a cp, (w.cell? ⟨b, o, none⟩ = some (.slice a q.s.length cp) ∧ w.frozen? ⟨b, o, none⟩ = false) ∧ (∃ u, w.cell? ⟨b, o + 1, none⟩ = some u) ∧ w.frozen? ⟨b, o + 1, none⟩ = false := by
  obtain ⟨a, cp, hA, _, _⟩ := h.cells
  obtain ⟨⟨c0, f0⟩, ⟨c1, f1⟩⟩ := oat_two hA
  exact ⟨a, cp, ⟨c0, f0⟩, ⟨_, c1⟩, f1⟩
theorem rlen_emp (s : List Bx) : ((s.length : Int) == 0) = s.isEmpty := by
  cases s with
  | nil => rfl
  | cons x r =>
    rw [Bool.eq_iff_iff]
    simp
    omega
/-- COUNT, of a Writer. -/
theorem PoAt.count {w : World} {b o : Nat} {F : List Nat} {s : List Bx} (h : PoAt w b o F ⟨s, false⟩) (hs : s.length ≤ 1000) (hf : fulT s = false) : ∃ a cp, (∀ w', Below w.heap.size w w' → w'.cell? ⟨b, o, none⟩ = some (.slice a s.length cp)) ∧
    (∀ w', Below w.heap.size w w' → Calls Try.prog 45 #[.slice a s.length cp] w' fun r w2 => r = .returned (.tuple #[]) ∧ PoAt w2 b o F ⟨incB s, false⟩ ∧ Jf b o F F w w2) := by
  obtain ⟨a, cp, hA, hW, hF⟩ := h.cells
  obtain ⟨cs, t, fr, hc, ht⟩ := h.blk
  have hlt := h.lt
  refine ⟨a, cp, fun w' k => (hA.keep (k.block b hlt) 0 _ rfl).1, fun w' k => ?_⟩
  have hWk : Win w' 115 2 (.slice a s.length cp) s.length (rcL s) := hW.keep fun i hi => k.block i (hW.lt i hi)
  refine (rcount_any hWk hs h.wf hf).mono ?_
  rintro r w2 ⟨h1, h2, h3⟩
  have hbF : b ∉ F := fun hk => (h.row b hk).2.1 rfl
  rw [hF] at h3
  have hlt' : b < w'.heap.size := Nat.lt_of_lt_of_le hlt k.size
  have hblk : w2.heap[b]? = w.heap[b]? := (h3.block b hlt' hbF).trans (k.block b hlt)
  have hl : (incB s).length = s.length := by cases s <;> rfl
  refine ⟨h1, ⟨⟨a, cp, ?_, ?_, ?_⟩, ⟨cs, t, fr, hblk.trans hc, ht⟩, fun e => (by cases e), h.wf.inc hf⟩, ?_⟩
  · simp only [hl]
    exact hA.keep hblk
  · simp only [hl]
    exact h2
  · simp only [hl]
    exact hF
  · have hj : Jf b o F F w' w2 := ⟨⟨h3.os, h3.tape, h3.output, h3.size, fun i hi hn => h3.block i hi (fun e => hn (List.mem_cons_of_mem _ e)), fun i hi => .inl hi⟩, fun c1 t1 fr1 h1 => ⟨c1, (h3.block b hlt' hbF).trans h1, rfl⟩, fun i _ => World.cell?_of_block (w := w') (h3.block b hlt' hbF)⟩
    exact (Jf.of k hlt).trans hj
set_option maxRecDepth 100000 in
set_option maxHeartbeats 4000000 in
theorem rwrite_end {w : World} {b o : Nat} {F : List Nat} {x : Bx} {r : List Bx} (h : PoAt w b o F ⟨x :: r, false⟩) (hs : r.length ≤ 999) (v : Value)
    (hC : ∀ W, (Instr.typeAssert v 20 69 true).run Try.prog W = .ok (.tuple #[.agg #[], .bool true]) W) :
    Calls Try.prog 25 #[.pointer (some ⟨b, o, none⟩), v] w fun q w' => q = .returned (.string ⟨#[]⟩) ∧ PoAt w' b o F ⟨r, r.isEmpty⟩ ∧ Jf b o F F w w' := by
  have HL : Hid (∀ X, Calls Try.prog 44 #[.pointer (some ⟨b, o, none⟩)] (w.alloc X) fun q w' => q = .returned (.tuple #[]) ∧ PoAt w' b o F ⟨r, false⟩ ∧ Jf b o F F w w') := Lib.hid (fun X => by
    refine (leaveR (h.alloc X) hs).mono ?_
    rintro q w' ⟨h1, h2, h3⟩
    exact ⟨h1, h2, (Jf.of (up_alloc (Below.refl _ _) X) h.lt).trans h3⟩)
  have he := rlen_emp r
  have hE0 : r.isEmpty = true → r = [] := fun e => by simpa using e
  generalize r.isEmpty = E at *
  have HE0 := Lib.hid hE0
  clear h hE0
  go_enter Try.func25, Try.ntmps25
  go_wp2_with fail
  refine (HL.out _).mono ?_
  rintro q w1 ⟨rfl, hj, hf⟩
  obtain ⟨a, cp, ⟨c0, f0⟩, ⟨u, c1⟩, f1⟩ := hj.pair
  have hw := hj.whole E HE0.out
  have HW := Lib.hid (And.intro hw.1 (hf.trans hw.2))
  simp only at c0
  generalize r.length = n' at *
  clear hj hf hw
  go_wp2
  go_ret
  exact ⟨rfl, HW.out⟩
set_option maxRecDepth 100000 in
set_option maxHeartbeats 4000000 in
theorem rwrite_open {w : World} {b o : Nat} {F : List Nat} {s : List Bx} (h : PoAt w b o F ⟨s, false⟩) (hs : s.length ≤ 900) (hf : fulT s = false) (v : Value) (m : Bool) (c : Int) (hc : 0 ≤ c ∧ c ≤ 4294967295)
    (hC : ∀ W, (Instr.typeAssert v 20 69 true).run Try.prog W = .ok (.tuple #[.agg #[], .bool false]) W)
    (hB : ∀ W, (Instr.typeAssert v 20 63 true).run Try.prog W = .ok (.tuple #[.agg #[.bool m, .int .i64 c], .bool true]) W) :
    Calls Try.prog 25 #[.pointer (some ⟨b, o, none⟩), v] w fun r w' => r = .returned (.string ⟨(cntPk m c.toNat).toArray⟩) ∧ ∃ F', PoAt w' b o F' ⟨⟨m, c, 0⟩ :: incB s, false⟩ ∧ Jf b o F F' w w' := by
  obtain ⟨a, cp, hc0, hN⟩ := h.count (by omega) hf
  have hb := h.lt
  have HC0 := Lib.hid hc0
  have HN := Lib.hid hN
  have HB0 := Lib.hid hb
  have hlen : (incB s).length ≤ 1000 := by
    have : (incB s).length = s.length := by cases s <;> rfl
    omega
  have hE : ∀ w2, PoAt w2 b o F ⟨incB s, false⟩ → Jf b o F F w w2 → Calls Try.prog 46 #[.pointer (some ⟨b, o, none⟩), .agg #[.bool m, .int .i64 c]] (w2.alloc (.cells #[.bool m, .int .i64 c] 63)).drew fun e w' => e = .returned (.tuple #[]) ∧ (w'.cell? ⟨w2.heap.size, 0, none⟩ = some (.bool m) ∧ w'.cell? ⟨w2.heap.size, 1, none⟩ = some (.int .i64 c)) ∧
      Hid (∀ w3, Below w'.heap.size w' w3 → ∃ F', PoAt w3 b o F' ⟨⟨m, c, 0⟩ :: incB s, false⟩ ∧ Jf b o F F' w w3) := by
    intro w2 q2 j2
    have q3 := (q2.alloc (.cells #[.bool m, .int .i64 c] 63)).drewN 1
    refine (enterR q3 hlen m c hc).mono ?_
    rintro e w' ⟨h1, F', h2, h3⟩
    have hblk : w'.heap[w2.heap.size]? = (w2.alloc (.cells #[.bool m, .int .i64 c] 63)).heap[w2.heap.size]? := by
      refine h3.step.block w2.heap.size (by show w2.heap.size < (w2.alloc _).heap.size; simp) ?_
      intro hm
      rcases List.mem_cons.1 hm with e | hm
      · have := q2.lt
        omega
      · have := (q2.row _ hm).1
        omega
    have hB := blk_new w2 #[.bool m, .int .i64 c] 63
    refine ⟨h1, ⟨(World.cell?_of_block (w := (w2.alloc (.cells #[.bool m, .int .i64 c] 63))) hblk).trans (hB.cell 0), (World.cell?_of_block (w := (w2.alloc (.cells #[.bool m, .int .i64 c] 63))) hblk).trans (hB.cell 1)⟩, Lib.hid fun w3 k => ⟨F', h2.go k, ?_⟩⟩
    have j3 : Jf b o F F w (w2.alloc (.cells #[.bool m, .int .i64 c] 63)).drew := (j2.up HB0.out (up_alloc (Below.refl _ _) _)).drewN 1
    exact (j3.trans h3).up HB0.out k
  have HE := Lib.hid hE
  have HG := Lib.hid (fun W => rbegin_of m c hc W)
  generalize (⟨(cntPk m c.toNat).toArray⟩ : ByteArray) = Z at *
  clear h hs hf hc hc0 hN hb hlen hE
  go_enter Try.func25, Try.ntmps25
  have B0 := Lib.hid (up_alloc (Below.refl w.heap.size w) (.cells #[] 69))
  have d0 := HC0.out _ B0.out
  go_wp2_with fail
  refine (HN.out _ B0.out).mono ?_
  rintro r w2 ⟨rfl, q2, j2⟩
  have H2 := Lib.hid (HE.out w2 q2 j2)
  have EB : Hid (Blk (w2.alloc (.cells #[.bool m, .int .i64 c] 63)) w2.heap.size #[.bool m, .int .i64 c] 63) := Lib.hid (blk_new w2 #[.bool m, .int .i64 c] 63)
  have x0 : (w2.alloc (.cells #[.bool m, .int .i64 c] 63)).cell? ⟨w2.heap.size, 0, none⟩ = some (.bool m) := EB.out.cell 0
  have x1 : (w2.alloc (.cells #[.bool m, .int .i64 c] 63)).cell? ⟨w2.heap.size, 1, none⟩ = some (.int .i64 c) := EB.out.cell 1
  clear q2 j2 EB
  go_wp2_with fail
  go_region_with (go_at_call 46; refine (H2.out).mono ?_; rintro r w3 ⟨rfl, ⟨y0, y1⟩, HF⟩)
  all_goals
    clear x0 x1
    go_wp2_with fail
    refine (HG.out _).mono ?_
    rintro r w4 ⟨rfl, b4⟩
    have HF2 := Lib.hid (HF.out _ b4)
    clear b4
    go_wp2
    go_ret
    exact ⟨rfl, HF2.out⟩
end Go.Proofs.Ytonjdnahplphhaa
/-
  CONTRACTS of packout.Writer, part G: a value; Step; a Writer that a law made.
-/
namespace Go.Proofs.Ytonjdnahplphhaa
open Go.RowKit
open Go.Lib
set_option maxRecDepth 100000 in
set_option maxHeartbeats 4000000 in
theorem rwrite_val {w : World} {b o : Nat} {F : List Nat} {s : List Bx} (h : PoAt w b o F ⟨s, false⟩) (hs : s.length ≤ 900) (hf : fulT s = false) (v : Value) (T : ByteArray)
    (hC : ∀ W, (Instr.typeAssert v 20 69 true).run Try.prog W = .ok (.tuple #[.agg #[], .bool false]) W)
    (hB : ∀ W, (Instr.typeAssert v 20 63 true).run Try.prog W = .ok (.tuple #[.agg #[.bool false, .int .i64 0], .bool false]) W)
    (hX : ∀ W, Calls Try.prog 48 #[v] W fun r w' => r = .returned (.string T) ∧ Below W.heap.size W w') :
    Calls Try.prog 25 #[.pointer (some ⟨b, o, none⟩), v] w fun r w' => r = .returned (.string T) ∧ PoAt w' b o F ⟨incB s, s.isEmpty⟩ ∧ Jf b o F F w w' := by
  obtain ⟨a, cp, hc0, hN⟩ := h.count (by omega) hf
  have hb := h.lt
  have HC0 := Lib.hid hc0
  have HN := Lib.hid hN
  have HB0 := Lib.hid hb
  have he := rlen_emp s
  have hl : (incB s).length = s.length := by cases s <;> rfl
  have hE0 : s.isEmpty = true → incB s = [] := fun e => by
    have : s = [] := by simpa using e
    rw [this]; rfl
  have HE0 := Lib.hid hE0
  have HX := Lib.hid hX
  generalize s.isEmpty = E at *
  have HL := Lib.hid hl
  clear h hs hf hc0 hN hb hE0 hX hl
  go_enter Try.func25, Try.ntmps25
  have B0 := Lib.hid (up_alloc (Below.refl w.heap.size w) (.cells #[] 69))
  have d0 := HC0.out _ B0.out
  go_wp2_with fail
  refine (HN.out _ B0.out).mono ?_
  rintro r w2 ⟨rfl, q2, j2⟩
  have q3 := q2.alloc (.cells #[.bool false, .int .i64 0] 63)
  have j3 := j2.up HB0.out (up_alloc (Below.refl _ _) (.cells #[.bool false, .int .i64 0] 63))
  obtain ⟨a2, cp2, ⟨c0, f0⟩, ⟨u, c1⟩, f1⟩ := q3.pair
  simp only [HL.out] at c0
  have hw := q3.whole E HE0.out
  have HW : Hid (∀ w', Below ((w2.alloc (.cells #[.bool false, .int .i64 0] 63)).setCell ⟨b, o + 1, none⟩ (.bool E)).heap.size ((w2.alloc (.cells #[.bool false, .int .i64 0] 63)).setCell ⟨b, o + 1, none⟩ (.bool E)) w' → PoAt w' b o F ⟨incB s, E⟩ ∧ Jf b o F F w w') := Lib.hid (fun w' k => ⟨hw.1.go k, (j3.trans hw.2).up HB0.out k⟩)
  generalize s.length = n' at *
  clear hw q2 q3 j2 j3
  go_wp2_with fail
  refine (HX.out _).mono ?_
  rintro r w4 ⟨rfl, b4⟩
  have H4 := Lib.hid (HW.out _ b4)
  clear b4
  go_wp2
  go_ret
  exact ⟨rfl, H4.out⟩
/-- STEP: of what is no part. -/
theorem ro_other {w : World} {b o : Nat} {F : List Nat} {q : Kq} (h : PoAt w b o F q) (v : Value) (X : Ev) (hP : ∀ W, Calls Try.prog 39 #[v] W fun r w' => r = .returned (.tuple #[evV X, .bool false]) ∧ Below W.heap.size W w') :
    Calls Try.prog 12 #[.pointer (some ⟨b, o, none⟩), v] w fun r w' => r = .returned (.tuple #[.string ⟨#[]⟩, .int .i64 14]) ∧ PoAt w' b o F q ∧ Jf b o F F w w' := by
  have HR := Lib.hid (rrefuses_other (w := w) (b := b) (o := o) v X hP)
  have HF : Hid (∀ w', Below w.heap.size w w' → PoAt w' b o F q ∧ Jf b o F F w w') := Lib.hid (fun w' k => ⟨h.go k, Jf.of k h.lt⟩)
  clear h hP
  go_enter Try.func12, Try.ntmps12
  go_wp2_with fail
  refine HR.out.mono ?_
  rintro r w1 ⟨rfl, b1⟩
  have H1 := Lib.hid (HF.out _ b1)
  clear b1
  go_wp2
  go_ret2
  exact ⟨rfl, H1.out⟩
set_option maxRecDepth 100000 in
set_option maxHeartbeats 2000000 in
theorem ro_err {w : World} {b o : Nat} {F : List Nat} {q : Kq} (h : PoAt w b o F q) (v : Value) (n : Nat) (hn : n = 14 ∨ n = 8 ∨ n = 7)
    (hR : Calls Try.prog 24 #[.pointer (some ⟨b, o, none⟩), v] w fun r w' => r = .returned (.int .i64 n) ∧ Below w.heap.size w w') :
    Calls Try.prog 12 #[.pointer (some ⟨b, o, none⟩), v] w fun r w' => r = .returned (.tuple #[.string ⟨#[]⟩, .int .i64 n]) ∧ PoAt w' b o F q ∧ Jf b o F F w w' := by
  have HR := Lib.hid hR
  have HF : Hid (∀ w', Below w.heap.size w w' → PoAt w' b o F q ∧ Jf b o F F w w') := Lib.hid (fun w' k => ⟨h.go k, Jf.of k h.lt⟩)
  clear h hR
  rcases hn with rfl | rfl | rfl
  all_goals
    go_enter Try.func12, Try.ntmps12
    go_wp2_with fail
    refine HR.out.mono ?_
    rintro r w1 ⟨rfl, b1⟩
    have H1 := Lib.hid (HF.out _ b1)
    clear b1
    go_wp2
    go_ret2
    exact ⟨rfl, H1.out⟩
set_option maxRecDepth 100000 in
set_option maxHeartbeats 2000000 in
theorem ro_ok {w : World} {b o : Nat} {F : List Nat} {q : Kq} (h : PoAt w b o F q) (v : Value) (T : ByteArray) (q' : Kq)
    (hR : Calls Try.prog 24 #[.pointer (some ⟨b, o, none⟩), v] w fun r w' => r = .returned (.int .i64 0) ∧ Below w.heap.size w w')
    (hW : ∀ W, Below w.heap.size w W → Calls Try.prog 25 #[.pointer (some ⟨b, o, none⟩), v] W fun r w' => r = .returned (.string T) ∧ ∃ F', PoAt w' b o F' q' ∧ Jf b o F F' W w') :
    Calls Try.prog 12 #[.pointer (some ⟨b, o, none⟩), v] w fun r w' => r = .returned (.tuple #[.string T, .int .i64 0]) ∧ ∃ F', PoAt w' b o F' q' ∧ Jf b o F F' w w' := by
  have HR := Lib.hid hR
  have HW := Lib.hid hW
  have hb := h.lt
  clear h hR hW
  have HB := Lib.hid hb
  clear hb
  go_enter Try.func12, Try.ntmps12
  go_wp2_with fail
  refine HR.out.mono ?_
  rintro r w1 ⟨rfl, b1⟩
  have H1 := Lib.hid b1
  clear b1
  go_wp2_with fail
  refine (HW.out _ H1.out).mono ?_
  rintro r w2 ⟨rfl, F', hj, hf⟩
  have H2 : Hid (∃ F', PoAt w2 b o F' q' ∧ Jf b o F F' w w2) := Lib.hid ⟨F', hj, (Jf.of H1.out HB.out).trans hf⟩
  clear hj hf
  go_wp2
  go_ret2
  exact ⟨rfl, H2.out⟩
theorem writeP_beg {e : Ev} (h56 : e.k = 5 ∨ e.k = 6) : writeP e = cntPk (decide (e.k = 6)) e.c.toNat := by
  unfold writeP
  rw [if_neg (by omega), if_neg (by omega), if_neg (by omega), if_neg (by omega), if_neg (by omega)]
/-- STEP: of a part, whether it may come now or not. -/
theorem ro_step {w : World} {b o : Nat} {F : List Nat} {q : Kq} (h : PoAt w b o F q) (hs : q.s.length ≤ 900) (e : Ev) (hm : mayE e) (hok : EvOk e) (ht : e.t.size ≤ 100000) :
    Calls Try.prog 12 #[.pointer (some ⟨b, o, none⟩), valE e] w fun r w' => r = .returned (.tuple #[.string ⟨(stepR q e).1.1.toArray⟩, .int .i64 ((stepR q e).1.2 : Nat)]) ∧ ∃ F', PoAt w' b o F' (stepR q e).2 ∧ Jf b o F F' w w' := by
  have hR := refusesR h (by omega) e hm hok
  have bad : ∀ n : Nat, (n = 14 ∨ n = 8 ∨ n = 7) → stepR q e = (([], n), q) → Calls Try.prog 12 #[.pointer (some ⟨b, o, none⟩), valE e] w fun r w' => r = .returned (.tuple #[.string ⟨(stepR q e).1.1.toArray⟩, .int .i64 ((stepR q e).1.2 : Nat)]) ∧ ∃ F', PoAt w' b o F' (stepR q e).2 ∧ Jf b o F F' w w' := by
    intro n hn hq
    rw [hq] at hR ⊢
    refine (ro_err h (valE e) n hn hR).mono ?_
    rintro r w' ⟨h1, h2, h3⟩
    exact ⟨h1, F, h2, h3⟩
  have hC := as_close e hm
  have hB := as_begin e hm
  obtain ⟨s, dn⟩ := q
  simp only at hs
  cases dn with
  | true => exact bad 14 (.inl rfl) (stepR_bad ⟨s, true⟩ e (.inr rfl))
  | false =>
    by_cases h7 : e.k = 7
    · cases s with
      | nil => exact bad 14 (.inl rfl) (stepR_none hm h7)
      | cons x r =>
        by_cases ho : shutB x
        · exact bad 14 (.inl rfl) (stepR_shut hm h7 ho)
        · rw [stepR_end hm h7 ho] at hR ⊢
          rw [decide_eq_true h7] at hC
          refine ro_ok h (valE e) _ _ hR (fun W k => ?_)
          refine (rwrite_end (h.go k) (by simp only [List.length_cons] at hs; omega) (valE e) hC).mono ?_
          rintro q w' ⟨h1, h2, h3⟩
          exact ⟨h1, F, h2, h3⟩
    · rw [decide_eq_false h7] at hC
      by_cases hf : fulT s = true
      · exact bad 14 (.inl rfl) (stepR_full hm h7 hf)
      · have hf : fulT s = false := by simpa using hf
        by_cases hk : keyB s = true ∧ e.k ≠ 3
        · exact bad 8 (.inr (.inl rfl)) (stepR_key hm h7 hf hk.1 hk.2)
        · by_cases hr : rangeP e
          · exact bad 7 (.inr (.inr rfl)) (stepR_range hm h7 hf hk hr)
          by_cases h56 : e.k = 5 ∨ e.k = 6
          · have hkf : keyB s = false := by
              cases hq : keyB s with
              | false => rfl
              | true => exact absurd ⟨hq, by omega⟩ hk
            rw [decide_eq_true h56, if_pos h56] at hB
            rw [stepR_open hm h56 hf hkf hr] at hR ⊢
            refine ro_ok h (valE e) _ _ hR (fun W k => ?_)
            refine (rwrite_open (h.go k) hs hf (valE e) (decide (e.k = 6)) e.c (by
              unfold rangeP at hr
              omega) hC hB).mono ?_
            rintro q w' ⟨h1, F', h2, h3⟩
            exact ⟨by rw [h1, writeP_beg h56], F', h2, h3⟩
          · rw [decide_eq_false h56, if_neg h56, decide_eq_false (by omega : ¬ e.k = 6)] at hB
            have hk5 : e.k = 0 ∨ e.k = 1 ∨ e.k = 2 ∨ e.k = 3 ∨ e.k = 4 := by
              have := kind8 hm
              omega
            rw [stepR_val hm h7 h56 hf hk hr] at hR ⊢
            refine ro_ok h (valE e) _ _ hR (fun W k => ?_)
            refine (rwrite_val (h.go k) hs hf (valE e) _ hC hB (fun W' => rvalue_of e hk5 hok.2.1 hr ht W')).mono ?_
            rintro q w' ⟨h1, h2, h3⟩
            exact ⟨h1, F, h2, h3⟩
/-- A Writer that a law made: all its blocks are new since w0. -/
structure PoW (w0 w : World) (b : Nat) (F : List Nat) (q : Kq) : Prop where
  at_ : PoAt w b 0 F q
  lo : w0.heap.size ≤ b
  row : ∀ k ∈ F, w0.heap.size ≤ k
  bel : Below w0.heap.size w0 w
  typ : ∃ cs fr, w.heap[b]? = some (.cells cs 28 fr)
theorem PoW.go {w0 w w' : World} {b : Nat} {F : List Nat} {q : Kq} (h : PoW w0 w b F q) (k : Below w.heap.size w w') : PoW w0 w' b F q := by
  obtain ⟨cs, fr, hc⟩ := h.typ
  exact ⟨h.at_.go k, h.lo, h.row, h.bel.trans (k.mono h.bel.size), cs, fr, (k.block b h.at_.lt).trans hc⟩
theorem PoW.next {w0 w w' : World} {b : Nat} {F F' : List Nat} {q q' : Kq} (h : PoW w0 w b F q) (hj : PoAt w' b 0 F' q') (k : Jf b 0 F F' w w') : PoW w0 w' b F' q' := by
  have h1 := k.step.low (B := w0.heap.size) (fun i hi => (List.mem_cons.1 hi).elim (fun e => e ▸ h.lo) (fun hi => h.row i hi)) h.bel.size
  obtain ⟨cs, fr, hc⟩ := h.typ
  obtain ⟨c', hc', _⟩ := k.shape _ _ _ hc
  exact ⟨hj, h.lo, fun i hi => h1 i (List.mem_cons_of_mem _ hi), h.bel.trans (k.below h.lo h.row h.bel.size), c', fr, hc'⟩
/-- STEP, within a law. -/
theorem pow_step {w0 w : World} {b : Nat} {F : List Nat} {q : Kq} (h : PoW w0 w b F q) (hs : q.s.length ≤ 900) (e : Ev) (hm : mayE e) (hok : EvOk e) (ht : e.t.size ≤ 100000) :
    Calls Try.prog 12 #[.pointer (some ⟨b, 0, none⟩), valE e] w fun r w' => r = .returned (.tuple #[.string ⟨(stepR q e).1.1.toArray⟩, .int .i64 ((stepR q e).1.2 : Nat)]) ∧ ∃ F', PoW w0 w' b F' (stepR q e).2 ∧ Jf b 0 F F' w w' := by
  refine (ro_step h.at_ hs e hm hok ht).mono ?_
  rintro r w' ⟨h1, F', h2, h3⟩
  exact ⟨h1, F', h.next h2 h3, h3⟩
theorem pow_new (w0 w : World) (hb : Below w0.heap.size w0 w) : PoW w0 (w.alloc (.cells #[.slice none 0 0, .bool false] 28)) w.heap.size [] ⟨[], false⟩ :=
  ⟨⟨⟨none, 0, jat_block (heap_alloc_new w _), Win.nil_ _ _ _, rfl⟩, ⟨_, _, _, heap_alloc_new w _, by decide⟩, fun e => (by cases e), fun x hx => (by simp at hx)⟩, hb.size, fun k hk => (by simp at hk), up_alloc hb _, _, _, heap_alloc_new w _⟩
/-- What lies in blocks of other types. -/
theorem PoW.off {w0 w w' : World} {b : Nat} {F F' : List Nat} {q : Kq} (h : PoW w0 w b F q) (k : Jf b 0 F F' w w') : Off [28, 115] w w' := by
  intro i c t fr hi ht
  have hlt := (Array.getElem?_eq_some_iff.1 hi).1
  rw [k.step.block i hlt ?_]
  · exact hi
  · intro hm
    rcases List.mem_cons.1 hm with e | hm
    · subst e
      obtain ⟨cs, fr', hc⟩ := h.typ
      rw [hi] at hc
      cases hc
      exact ht (by simp)
    · obtain ⟨_, _, cur, hc⟩ := h.at_.row i hm
      rw [hi] at hc
      cases hc
      exact ht (by simp)
/-- A step of others, in blocks of other types. -/
theorem PoW.kept {w0 w w' : World} {b : Nat} {F : List Nat} {q : Kq} {ts : List Nat} (h : PoW w0 w b F q) (k : Off ts w w') (h1 : 28 ∉ ts) (h2 : 115 ∉ ts) (hb : Below w0.heap.size w w') : PoW w0 w' b F q := by
  obtain ⟨cs, fr, hc⟩ := h.typ
  refine ⟨h.at_.keep fun i hi => ?_, h.lo, h.row, h.bel.trans hb, cs, fr, k _ _ _ _ hc h1⟩
  rcases hi with rfl | hi
  · rw [hc, k _ _ _ _ hc h1]
  · obtain ⟨_, _, cur, hr⟩ := h.at_.row i hi
    rw [hr, k _ _ _ _ hr h2]
end Go.Proofs.Ytonjdnahplphhaa
/-
  CONTRACT of packout.All: as the machine of PoutPure over all parts.
-/
namespace Go.Proofs.Ytonjdnahplphhaa
open Go.RowKit
open Go.Lib
theorem cntPk_len (m : Bool) (v : Nat) : (cntPk m v).length ≤ 5 := by
  unfold cntPk
  have h1 := poBs_len 0 222 223 v
  have h2 := poBs_len 0 220 221 v
  split <;> split
  · simp
  · exact h1
  · simp
  · exact h2
theorem intPk_len (y : Bool) (v : Nat) : (intPk y v).length ≤ 9 := by
  unfold intPk
  repeat' split
  all_goals simp [bigB_length]
theorem writeP_nine (e : Ev) : (writeP e).length ≤ e.t.size + 9 := by
  have h1 : e.t.data.toList.length = e.t.size := Array.length_toList
  have h2 := cntPk_len (decide (e.k = 6)) e.c.toNat
  have h3 := intPk_len e.y e.m
  have h4 := txPk_len (decide (e.k = 3)) e.t.data.toList.length
  unfold writeP
  split
  · simp
  split
  · simp
  split
  · simp
  split
  · omega
  split
  · rw [List.length_append]
    omega
  · omega
theorem rstep_nine (q : Kq) (e : Ev) : (stepR q e).1.1.length ≤ e.t.size + 9 := by
  have := writeP_nine e
  unfold stepR
  split
  · simp
  · split
    · split
      · simp
      · split <;> simp
    · split
      · simp
      · split
        · simp
        · split
          · simp
          · split <;> exact this
theorem rstep_size (q : Kq) (e : Ev) (ht : e.t.size ≤ 100000) : (stepR q e).1.1.length ≤ 200000 := Nat.le_trans (rstep_nine q e) (by omega)
theorem rstep_small (q : Kq) (e : Ev) (ht : e.t.size ≤ 1000) : (stepR q e).1.1.length ≤ 2000 := Nat.le_trans (rstep_nine q e) (by omega)
theorem rstep_len (q : Kq) (e : Ev) : (stepR q e).2.s.length ≤ q.s.length + 1 := by
  have hi : (incB q.s).length = q.s.length := by cases q.s <;> rfl
  unfold stepR
  split
  · simp
  · split
    · split
      · simp
      · rename_i b r hs
        split
        · simp
        · rw [hs]
          simp only [List.length_cons]
          omega
    · split
      · simp
      · split
        · simp
        · split
          · simp
          · split
            · simp only [List.length_cons, hi]
              omega
            · simp only [hi]
              omega
/-- In the midst of all parts. -/
structure RAllI (w0 wr : World) (L : List Ev) (j : Nat) (q : Kq) (F : List Nat) (acc : List UInt8) : Prop where
  jw : PoW w0 wr w0.heap.size F q
  bld : IsB w0.heap.size (w0.heap.size + 1) acc wr
  eq : allR ⟨[], false⟩ L = (acc ++ (allR q (L.drop j)).1, (allR q (L.drop j)).2)
  len : acc.length ≤ 200000 * j
  dep : q.s.length ≤ j
theorem rdrop_at {L : List Ev} {j : Nat} (h : j < L.length) : L.drop j = L[j] :: L.drop (j + 1) := List.drop_eq_getElem_cons h
theorem RAllI.next {w0 wr w3 : World} {L : List Ev} {j : Nat} {q : Kq} {F F' : List Nat} {acc : List UInt8} (h : RAllI w0 wr L j q F acc) (hj : j < L.length) (hm : mayE L[j]) (_ : EvOk L[j]) (ht : L[j].t.size ≤ 100000) (h0 : (stepR q L[j]).1.2 = 0)
    (hw : PoW w0 w3 w0.heap.size F' (stepR q L[j]).2) (hb : IsB w0.heap.size (w0.heap.size + 1) (acc ++ (stepR q L[j]).1.1) w3) : RAllI w0 w3 L (j + 1) (stepR q L[j]).2 F' (acc ++ (stepR q L[j]).1.1) := by
  have h1 := rstep_size q L[j] ht
  have h2 := rstep_len q L[j]
  refine ⟨hw, hb, ?_, ?_, ?_⟩
  · have := h.eq
    rw [rdrop_at hj, allR_cons_ok hm h0] at this
    rw [this]
    simp
  · have := h.len
    rw [List.length_append]
    omega
  · have := h.dep
    omega
set_option maxRecDepth 100000 in
set_option maxHeartbeats 8000000 in
/-- ALL. -/
theorem rall_any (A : Option Addr) (n cp : Nat) (E : Nat → Ev) (w : World) (hn : n ≤ 900) (hE : EvsAt w w.heap.size A n E) (hok : ∀ i, i < n → EvOk (E i) ∧ (E i).t.size ≤ 100000) :
    Calls Try.prog 18 #[.slice A n cp] w fun r w' => r = .returned (.tuple #[.string ⟨(allR ⟨[], false⟩ (pre E n)).1.toArray⟩, .int .i64 ((allR ⟨[], false⟩ (pre E n)).2 : Nat)]) ∧ Below w.heap.size w w' := by
  have hLn : (pre E n).length = n := pre_length E n
  have hget : ∀ j (h : j < n) (h' : j < (pre E n).length), (pre E n)[j]'h' = E j := by
    intro j h h'
    simp [pre]
  have HG := Lib.hid hget
  have HL := Lib.hid hLn
  have HE := Lib.hid hE
  have HOK := Lib.hid hok
  obtain ⟨R, hR⟩ : ∃ R, allR ⟨[], false⟩ (pre E n) = R := ⟨_, rfl⟩
  have HR := Lib.hid hR
  have H0 : Hid (RAllI w ((w.alloc (.cells #[.slice none 0 0, .bool false] 28)).alloc (.cells #[.pointer none, .slice none 0 0] 79)) (pre E n) 0 ⟨[], false⟩ [] []) := Lib.hid ⟨(pow_new w w (Below.refl _ _)).go (up_alloc (Below.refl _ _) _), isB_new _ _ _ (by omega) (by
    have := heap_alloc_new (w.alloc (.cells #[.slice none 0 0, .bool false] 28)) (.cells #[.pointer none, .slice none 0 0] 79)
    simpa using this), by simp, by simp, by simp⟩
  rw [hR]
  clear hget hLn hE hok hR
  generalize pre E n = L at *
  go_enter Try.func18, Try.ntmps18
  go_wp2
  go_loopw [8, 9, 10, 11, 14] (fun _ _ _ _ i wr => ∃ (j : Nat) (q : Kq) (F : List Nat) (acc : List UInt8), i = .int .i64 j ∧ j ≤ n ∧ Hid (RAllI w wr L j q F acc)) (fun _ _ _ _ i _ => n - (RowKit.intOf i).toNat)
  case atStart => exact ⟨0, _, _, _, rfl, by omega, H0⟩
  case round =>
    obtain ⟨j, q, F, acc, rfl, hj, HA⟩ := hrel
    clear H0
    by_cases hlt : j < n
    · have hjL : j < L.length := by rw [HL.out]; exact hlt
      have hLe : L[j] = E j := HG.out j hlt hjL
      have hOKe := HOK.out j hlt
      have HO := Lib.hid (fun W => of_any (E j) W)
      obtain ⟨g, off, rfl, hgb, x0, x1, x2, x3, x4⟩ := (HE.out.below HA.out.jw.bel).cells hlt
      have hgb2 : g < wr.heap.size := Nat.lt_of_lt_of_le hgb HA.out.jw.bel.size
      have hdep : q.s.length ≤ 900 := by have := HA.out.dep; omega
      by_cases hm : mayE (E j)
      · rw [if_pos hm, decide_eq_true hm] at HO
        have HS : Hid (∀ W', Below wr.heap.size wr W' → Calls Try.prog 12 #[.pointer (some ⟨w.heap.size, 0, none⟩), valE (E j)] W' fun r w' => r = .returned (.tuple #[.string ⟨(stepR q (E j)).1.1.toArray⟩, .int .i64 ((stepR q (E j)).1.2 : Nat)]) ∧ ∃ F', PoW w w' w.heap.size F' (stepR q (E j)).2 ∧ IsB w.heap.size (w.heap.size + 1) acc w') := Lib.hid (fun W' k => by
          refine (pow_step (HA.out.jw.go k) hdep (E j) hm hOKe.1 hOKe.2).mono ?_
          rintro r w' ⟨h1, F', h2, h3⟩
          have hB1 : IsB w.heap.size (w.heap.size + 1) acc W' := isB_off (ts := []) HA.out.bld (fun i c t fr hi _ => by rw [k.block i (Array.getElem?_eq_some_iff.1 hi).1]; exact hi) (by simp) (by simp)
          exact ⟨h1, F', h2, isB_off hB1 ((HA.out.jw.go k).off h3) (by decide) (by decide)⟩)
        have hsz := rstep_size q (E j) hOKe.2
        by_cases h0 : (stepR q (E j)).1.2 = 0
        · have HN : Hid (∀ w3 F', PoW w w3 w.heap.size F' (stepR q (E j)).2 → IsB w.heap.size (w.heap.size + 1) (acc ++ (stepR q (E j)).1.1) w3 → RAllI w w3 L (j + 1) (stepR q (E j)).2 F' (acc ++ (stepR q (E j)).1.1)) := Lib.hid (fun w3 F' a b => by
            have := HA.out.next (w3 := w3) (F' := F') hjL (by rw [hLe]; exact hm) (by rw [hLe]; exact hOKe.1) (by rw [hLe]; exact hOKe.2) (by rw [hLe]; exact h0) (by rw [hLe]; exact a) (by rw [hLe]; exact b)
            rwa [hLe] at this)
          have hal := HA.out.len
          rw [h0] at HS
          generalize valE (E j) = V at HS HO
          generalize stepR q (E j) = Q at HS HN hsz h0
          obtain ⟨⟨T, e0⟩, q'⟩ := Q
          simp only at HS HN hsz h0
          obtain ⟨Z, hZ⟩ : ∃ Z : ByteArray, (⟨T.toArray⟩ : ByteArray) = Z := ⟨_, rfl⟩
          have hZl : Z.data.toList = T := by rw [← hZ]
          have hZs : Z.size ≤ 200000 := by rw [← hZ, size_of]; exact hsz
          rw [hZ] at HS
          generalize E j = e at *
          obtain ⟨k, y, m, t, c⟩ := e
          simp only [evV] at x0 x1 x2 x3 x4 HO
          have HZ := Lib.hid hZl
          have HAL := Lib.hid (And.intro hal (And.intro hZs hj))
          clear hLe hOKe hgb hdep hm hsz h0 hZ hZl hZs hal hjL
          go_wp2_with fail
          refine (HO.out _).mono ?_
          rintro r w1 ⟨rfl, b1⟩
          have B1 := Lib.hid (up_trans (up_alloc (Below.refl _ _) _) b1)
          clear b1
          go_wp2_with fail
          refine (HS.out _ B1.out).mono ?_
          rintro r w2 ⟨rfl, F', hj2, hb2⟩
          have H2 := Lib.hid (And.intro hj2 hb2)
          clear hj2 hb2
          go_wp2_with fail
          refine (sb_write w.heap.size (w.heap.size + 1) acc Z w2 H2.out.2 (by have := HAL.out; omega) H2.out.1.bel.size).mono ?_
          rintro r w3 ⟨rfl, i3, b3, k3⟩
          rw [HZ.out] at i3
          have H3 := Lib.hid (HN.out w3 F' (H2.out.1.kept (off_kept H2.out.2 k3) (by decide) (by decide) b3) i3)
          clear i3 b3 k3
          go_wp2
          go_roundw
          case rel => exact ⟨j + 1, _, _, _, rfl, hlt, H3⟩
          case measure => simp [RowKit.intOf]; omega
        · have hR : R = (acc, (stepR q (E j)).1.2) := by
            have := HA.out.eq
            rw [rdrop_at hjL, hLe, allR_cons_err hm h0, HR.out] at this
            simpa using this
          have hn' : (((stepR q (E j)).1.2 : Int) != 0) = true := by simp; omega
          generalize valE (E j) = V at HS HO
          generalize stepR q (E j) = Q at *
          obtain ⟨⟨T, n0⟩, q'⟩ := Q
          simp only at HS hsz h0 hR hn'
          generalize E j = e at *
          obtain ⟨k, y, m, t, c⟩ := e
          simp only [evV] at x0 x1 x2 x3 x4 HO
          subst hR
          have HAc := Lib.hid HA.out.jw.bel
          generalize (⟨T.toArray⟩ : ByteArray) = Z at HS
          clear hLe hOKe hgb hdep hm hsz h0 hjL
          go_wp2_with fail
          refine (HO.out _).mono ?_
          rintro r w1 ⟨rfl, b1⟩
          have B1 := Lib.hid (up_trans (up_alloc (Below.refl _ _) _) b1)
          clear b1
          go_wp2_with fail
          refine (HS.out _ B1.out).mono ?_
          rintro r w2 ⟨rfl, F', hj2, hb2⟩
          have H2 := Lib.hid (And.intro hj2 hb2)
          clear hj2 hb2
          go_wp2_with fail
          refine (sb_string w.heap.size (w.heap.size + 1) acc w2 H2.out.2 H2.out.1.bel.size).mono ?_
          rintro r w3 ⟨rfl, i3, b3, k3⟩
          have B3 := Lib.hid (H2.out.1.bel.trans b3)
          clear i3 b3 k3
          go_wp2
          go_ret2
          exact ⟨rfl, B3.out⟩
      · have hR : R = (acc, 1) := by
          have := HA.out.eq
          rw [rdrop_at hjL, hLe, allR_cons_bad hm, HR.out] at this
          simpa using this
        rw [if_neg hm, decide_eq_false hm] at HO
        generalize E j = e at *
        obtain ⟨k, y, m, t, c⟩ := e
        simp only [evV] at x0 x1 x2 x3 x4 HO
        subst hR
        have HBB : Hid (∀ W', Below wr.heap.size wr W' → IsB w.heap.size (w.heap.size + 1) acc W' ∧ Below w.heap.size w W') := Lib.hid (fun W' k => ⟨isB_off (ts := []) HA.out.bld (fun i c t fr hi _ => by rw [k.block i (Array.getElem?_eq_some_iff.1 hi).1]; exact hi) (by simp) (by simp), HA.out.jw.bel.trans (k.mono HA.out.jw.bel.size)⟩)
        clear hLe hOKe hgb hdep hm hjL
        go_wp2_with fail
        refine (HO.out _).mono ?_
        rintro r w1 ⟨rfl, b1⟩
        have B1 := Lib.hid (HBB.out _ (up_trans (up_alloc (Below.refl _ _) _) b1))
        clear b1
        go_wp2_with fail
        refine (sb_string w.heap.size (w.heap.size + 1) acc w1 B1.out.1 B1.out.2.size).mono ?_
        rintro r w3 ⟨rfl, i3, b3, k3⟩
        have B3 := Lib.hid (B1.out.2.trans b3)
        clear i3 b3 k3
        go_wp2
        go_ret2
        exact ⟨rfl, B3.out⟩
    · obtain rfl : j = n := by omega
      have hR : R = (acc, if q.dn = true then 0 else 3) := by
        have := HA.out.eq
        rw [List.drop_of_length_le (by rw [HL.out]; omega), HR.out] at this
        rw [this]
        simp [allR]
      have HD := Lib.hid (doneR HA.out.jw.at_)
      have HS := Lib.hid (sb_string w.heap.size (w.heap.size + 1) acc wr HA.out.bld HA.out.jw.bel.size)
      have HB := Lib.hid HA.out.jw.bel
      obtain ⟨D, hD⟩ : ∃ D, q.dn = D := ⟨_, rfl⟩
      rw [hD] at hR HD
      clear hD
      cases D with
      | true =>
        obtain rfl : R = (acc, 0) := hR
        go_wp2_with fail
        refine HD.out.mono ?_
        rintro r w1 ⟨rfl, rfl⟩
        go_wp2_with fail
        refine HS.out.mono ?_
        rintro r w3 ⟨rfl, i3, b3, k3⟩
        have B3 := Lib.hid (HB.out.trans b3)
        clear i3 b3 k3
        go_wp2
        go_ret2
        exact ⟨rfl, B3.out⟩
      | false =>
        obtain rfl : R = (acc, 3) := hR
        go_wp2_with fail
        refine HD.out.mono ?_
        rintro r w1 ⟨rfl, rfl⟩
        go_wp2_with fail
        refine HS.out.mono ?_
        rintro r w3 ⟨rfl, i3, b3, k3⟩
        have B3 := Lib.hid (HB.out.trans b3)
        clear i3 b3 k3
        go_wp2
        go_ret2
        exact ⟨rfl, B3.out⟩
end Go.Proofs.Ytonjdnahplphhaa
/-
  LAWS of chapter 16: the first call (alive); All of one part.
-/
namespace Go.Proofs.Ytonjdnahplphhaa
open Go.RowKit
open Go.Lib
theorem rall_win {w : World} {a : Option Addr} {m cap : Nat} {T : TypeId} {L : List Ev} (h : Win w T 5 (.slice a m cap) m (evsC L)) (hm : L.length = m) (hn : m ≤ 900) (hok : ∀ e ∈ L, EvOk e ∧ e.t.size ≤ 100000) :
    Calls Try.prog 18 #[.slice a m cap] w fun r w' => r = .returned (.tuple #[.string ⟨(allR ⟨[], false⟩ L).1.toArray⟩, .int .i64 ((allR ⟨[], false⟩ L).2 : Nat)]) ∧ Below w.heap.size w w' := by
  subst hm
  have := rall_any a L.length cap (getE L) w hn (evs_win h (Nat.le_refl _)) (fun i hi => by
    have : getE L i = L[i] := by simp [getE, hi]
    rw [this]
    exact hok _ (List.getElem_mem hi))
  rwa [pre_getE] at this
def rList : List Ev := [⟨5, false, 0, ⟨#[]⟩, 1⟩, ⟨1, true, 0, ⟨#[]⟩, 0⟩, ⟨7, false, 0, ⟨#[]⟩, 0⟩]
theorem r_list : evsC rList = [.int .i64 5, .bool false, .int .u64 0, .string ⟨#[]⟩, .int .i64 1, .int .i64 1, .bool true, .int .u64 0, .string ⟨#[]⟩, .int .i64 0, .int .i64 7, .bool false, .int .u64 0, .string ⟨#[]⟩, .int .i64 0] := rfl
theorem r_ok : ∀ e ∈ rList, EvOk e ∧ e.t.size ≤ 100000 := by
  intro e he
  simp only [rList, List.mem_cons, List.not_mem_nil, or_false] at he
  rcases he with rfl | rfl | rfl
  all_goals exact ⟨⟨by constructor <;> simp, by simp, by constructor <;> simp, by decide⟩, by decide⟩
theorem r_all : allR ⟨[], false⟩ rList = ([145, 195], 0) := by decide +kernel
set_option maxRecDepth 100000 in
set_option maxHeartbeats 2000000 in
theorem ralive_any (w : World) : Calls Try.prog 10 #[] w fun e w' => e = .returned (.bool true) ∧ Below w.heap.size w w' := by
  have hC : Calls Try.prog 18 #[.slice (some ⟨w.heap.size, 0, none⟩) 3 3] (w.alloc (.cells (evsC rList).toArray 35)) fun r w' => r = .returned (.tuple #[.string ⟨#[145, 195]⟩, .int .i64 0]) ∧ Below (w.alloc (.cells (evsC rList).toArray 35)).heap.size (w.alloc (.cells (evsC rList).toArray 35)) w' := by
    have := rall_win (win_list w rList 35 3 rfl (by omega)) rfl (by omega) r_ok
    rwa [r_all] at this
  rw [r_list] at hC
  have HC := Lib.hid hC
  clear hC
  go_enter Try.func10, Try.ntmps10
  go_wp2_with fail
  refine HC.out.mono ?_
  rintro e w1 ⟨rfl, b1⟩
  have B1 := Lib.hid (up_trans (up_alloc (Below.refl _ _) _) b1)
  clear b1
  go_wp2
  go_ret
  exact ⟨rfl, B1.out⟩
/-- One part. -/
theorem rall_one (e : Ev) (hok : EvOk e) (ht : e.t.size ≤ 100000) (bs : List UInt8) (n : Nat) (h : allR ⟨[], false⟩ [e] = (bs, n)) (W : World) :
    Calls Try.prog 18 #[.slice (some ⟨W.heap.size, 0, none⟩) 1 1] (W.alloc (.cells (evsC [e]).toArray 35)) fun r w' => r = .returned (.tuple #[.string ⟨bs.toArray⟩, .int .i64 (n : Nat)]) ∧ Below (W.alloc (.cells (evsC [e]).toArray 35)).heap.size (W.alloc (.cells (evsC [e]).toArray 35)) w' := by
  have := rall_win (win_list W [e] 35 1 rfl (by omega)) rfl (by omega) (fun x hx => by
    simp only [List.mem_singleton] at hx
    subst hx
    exact ⟨hok, ht⟩)
  rwa [h] at this
/-- The same, at a world whose size is spelled otherwise. -/
theorem rall_one_at (e : Ev) (hok : EvOk e) (ht : e.t.size ≤ 100000) (bs : List UInt8) (n : Nat) (h : allR ⟨[], false⟩ [e] = (bs, n)) (W : World) (m : Nat) (hm : W.heap.size = m) :
    Calls Try.prog 18 #[.slice (some ⟨m, 0, none⟩) 1 1] (W.alloc (.cells (evsC [e]).toArray 35)) fun r w' => r = .returned (.tuple #[.string ⟨bs.toArray⟩, .int .i64 (n : Nat)]) ∧ Below W.heap.size W w' := by
  subst hm
  refine (rall_one e hok ht bs n h W).mono ?_
  rintro r w' ⟨h1, h2⟩
  exact ⟨h1, up_trans (up_alloc (Below.refl _ _) _) h2⟩
end Go.Proofs.Ytonjdnahplphhaa
/-
  CONTRACT of the document's own plain, for MessagePack: whatever part.
-/
namespace Go.Proofs.Ytonjdnahplphhaa
open Go.RowKit
open Go.Lib
set_option maxRecDepth 100000 in
set_option maxHeartbeats 2000000 in
theorem rplp_3s (y : Bool) (m : Nat) (t : ByteArray) (c : Int) (h0 : t.size < 32) (w : World) :
    Calls Try.prog 28 #[.int .i64 3, evV ⟨3, y, m, t, c⟩] w fun e w' => e = .returned (.tuple #[.string ⟨(txPk true t.size ++ t.data.toList).toArray⟩, .int .i64 0]) ∧ Below w.heap.size w w' := by
  simp only [evV]
  have HW := Lib.hid (fun x y => ((Below.refl w.heap.size w).alloc (Nat.le_refl _) x).alloc (by show w.heap.size ≤ (w.heap.push _).size; simp) y)
  have HWd := Lib.hid (fun x y => (below_drewN ((Below.refl w.heap.size w).alloc (Nat.le_refl _) x) 1).alloc (by show w.heap.size ≤ (w.heap.push _).size; simp) y)
  have e : txPk true t.size = [UInt8.ofNat (160 + t.size)] := by
    unfold txPk
    rw [if_pos rfl, if_pos h0]
  have hX : (⟨([UInt8.ofNat (160 + t.size)] ++ t.data.toList).toArray⟩ : ByteArray) = ⟨#[UInt8.ofNat (160 + t.size)]⟩ ++ t := by
    apply ByteArray.ext
    simp
  rw [e, hX]
  have hc : ((160 : Int) + (t.size : Int)) = (((UInt8.ofNat (160 + t.size)).toNat : Nat) : Int) := by simp; omega
  have hsz : (w.alloc (.cells #[.int .i64 3, .bool y, .int .u64 m, .string t, .int .i64 c] 35)).heap.size = w.heap.size + 1 := by
    show (w.heap.push _).size = _
    simp
  have hcv := ho_new (w.alloc (.cells #[.int .i64 3, .bool y, .int .u64 m, .string t, .int .i64 c] 35)) (UInt8.ofNat (160 + t.size)) ((160 : Int) + (t.size : Int)) hc
  rw [hsz] at hcv
  have hw : IntKind.u8.wrap (wrap64 (160 + (t.size : Int))) = ((160 + t.size : Nat) : Int) := by unfold wrap64; simp [IntKind.wrap, IntKind.bits, IntKind.signed]; omega
  have hw1 : wrap64 (160 + (t.size : Int)) = ((160 + t.size : Nat) : Int) := by unfold wrap64; omega
  have hw2 : IntKind.u8.wrap ((160 + t.size : Nat) : Int) = ((160 + t.size : Nat) : Int) := by simp [IntKind.wrap, IntKind.bits, IntKind.signed]; omega
  have z0 : ((t.size : Int) < 32) = True := by simp only [eq_iff_iff, iff_true]; omega
  have s1 : (⟨#[UInt8.ofNat (160 + t.size)]⟩ : ByteArray).size = 1 := rfl
  generalize (⟨#[UInt8.ofNat (160 + t.size)]⟩ : ByteArray) = X at *
  have z1 : (9223372036854775807 < X.size + t.size) = False := by simp only [eq_iff_iff, iff_false]; omega
  have hb0 := blk_new w #[.int .i64 3, .bool y, .int .u64 m, .string t, .int .i64 c] 35
  have k3 := hb0.cell 3
  clear e hc hX hsz hb0 s1
  go_enter Try.func28, Try.ntmps28
  go_wp2
  go_ret2
  exact ⟨rfl, HW.out _ _⟩
/-- A part that MessagePack can hold. -/
theorem rplain_p (e : Ev) (hk : 0 ≤ e.k) (h5 : e.k < 5) (hm : e.m < 18446744073709551616) (htx : e.t.size ≤ 1000) (hr : ¬ (e.k = 2 ∧ e.y = true ∧ 9223372036854775808 ≤ e.m)) (w : World) :
    Calls Try.prog 28 #[.int .i64 3, evV e] w fun r w' => r = .returned (.tuple #[.string ⟨(writeP e).toArray⟩, .int .i64 0]) ∧ Below w.heap.size w w' := by
  obtain ⟨k, y, m, t, c⟩ := e
  simp only at hk h5 hm htx hr
  have hcs : k = 0 ∨ k = 1 ∨ k = 2 ∨ k = 3 ∨ k = 4 := by omega
  have hs : t.data.toList.length = t.size := by rw [size_list]
  rcases hcs with rfl | rfl | rfl | rfl | rfl
  · exact rplp_0 y m t c w
  · cases y
    · exact rplp_1f false m t c w
    · exact rplp_1t true m t c w
  · have := rplp_2 y m t c hm w
    rw [if_neg (fun h => hr ⟨rfl, h⟩)] at this
    exact this
  · have hw : writeP ⟨3, y, m, t, c⟩ = txPk true t.size ++ t.data.toList := by rw [← hs]; rfl
    rw [hw]
    by_cases h0 : t.size < 32
    · exact rplp_3s y m t c h0 w
    · exact rplp_3 y m t c htx (by omega) w
  · have hw : writeP ⟨4, y, m, t, c⟩ = txPk false t.size ++ t.data.toList := by rw [← hs]; rfl
    rw [hw]
    exact rplp_4 y m t c htx w
/-- One that it cannot. -/
theorem rplain_pbad (e : Ev) (hm : e.m < 18446744073709551616) (hr : e.k = 2 ∧ e.y = true ∧ 9223372036854775808 ≤ e.m) (w : World) :
    Calls Try.prog 28 #[.int .i64 3, evV e] w fun r w' => r = .returned (.tuple #[.string ⟨#[]⟩, .int .i64 7]) ∧ Below w.heap.size w w' := by
  obtain ⟨k, y, m, t, c⟩ := e
  obtain ⟨rfl, h⟩ := hr
  have := rplp_2 y m t c hm w
  rw [if_pos h] at this
  exact this
end Go.Proofs.Ytonjdnahplphhaa
/-
  CONTRACT of the document's own Writer, for MessagePack: a part of a document.
-/
namespace Go.Proofs.Ytonjdnahplphhaa
open Go.RowKit
open Go.Lib
theorem WmAt.up {M M' B : Nat} {w : World} {b : Nat} {s : List Bx} {dn : Bool} (h : WmAt M B w b s dn) (h1 : M ≤ M') (h2 : M' ≤ 1000) : WmAt M' B w b s dn := by
  obtain ⟨a, cp, h3, h4⟩ := h.cells
  exact ⟨⟨a, cp, h3, ⟨h4.win, h4.vB, fun x hx => ⟨(h4.ok x hx).1, Nat.le_trans (h4.ok x hx).2 h1⟩, h4.deep, h2⟩⟩, h.blk, h.low⟩
/-- A count that MessagePack can hold, as bytes. -/
theorem writeP_cnt {k : Int} (hk : k = 5 ∨ k = 6) (y : Bool) (m : Nat) (t : ByteArray) (c : Int) : writeP ⟨k, y, m, t, c⟩ = cntPk (decide (k = 6)) c.toNat := by
  unfold writeP
  simp only
  rw [if_neg (by omega), if_neg (by omega), if_neg (by omega), if_neg (by omega), if_neg (by omega)]
theorem writeP_size {e : Ev} (ht : e.t.size ≤ 1000) : (⟨(writeP e).toArray⟩ : ByteArray).size ≤ 100000 := by
  have h1 : e.t.data.toList.length = e.t.size := Array.length_toList
  have hl : ∀ a b c v, (lenBs a b c v).length ≤ 5 := by
    intro a b c v
    unfold lenBs
    repeat' split
    all_goals simp [bigB_length]
  rw [size_of]
  unfold writeP
  split
  · simp
  split
  · simp
  split
  · simp
  split
  · unfold intPk
    repeat' split
    all_goals simp [bigB_length]
  split
  · rw [List.length_append]
    have h2 : (txPk (decide (e.k = 3)) e.t.data.toList.length).length ≤ 5 := by
      unfold txPk
      repeat' split
      all_goals first | exact hl _ _ _ _ | simp
    omega
  · unfold cntPk
    repeat' split
    all_goals first | exact Nat.le_trans (hl _ _ _ _) (by decide) | simp
theorem cnt_s6 {c : Int} (h : 0 ≤ c ∧ c < 16) : (⟨(cntPk true c.toNat).toArray⟩ : ByteArray) = ⟨#[UInt8.ofNat (128 + c.toNat)]⟩ := by
  unfold cntPk
  rw [if_pos rfl, if_pos (by omega)]
theorem cnt_s5 {c : Int} (h : 0 ≤ c ∧ c < 16) : (⟨(cntPk false c.toNat).toArray⟩ : ByteArray) = ⟨#[UInt8.ofNat (144 + c.toNat)]⟩ := by
  unfold cntPk
  rw [if_neg (by simp), if_pos (by omega)]
theorem cnt_l6 {c : Int} (h : 16 ≤ c) : cntPk true c.toNat = lenBs 0 222 223 c.toNat := by
  unfold cntPk
  rw [if_pos rfl, if_neg (by omega)]
theorem cnt_l5 {c : Int} (h : 16 ≤ c) : cntPk false c.toNat = lenBs 0 220 221 c.toNat := by
  unfold cntPk
  rw [if_neg (by simp), if_neg (by omega)]
theorem rlen_c (two four : Nat) (h2 : two < 256) (h4 : four < 256) (c : Int) (hc : 0 ≤ c ∧ c ≤ 4294967295) : ∀ W, Calls Try.prog 27 #[.int .u64 c, .int .u8 0, .int .u8 two, .int .u8 four] W fun r w' => r = .returned (.string ⟨(lenBs 0 two four c.toNat).toArray⟩) ∧ Below W.heap.size W w' := by
  intro W
  have := rlen_any 0 two four c.toNat (by omega) h2 h4 (by omega) W
  rwa [Int.toNat_of_nonneg hc.1] at this
/-- A container begins. -/
theorem wm_begin {M B b : Nat} {w : World} {s : List Bx} (h : WmAt M B w b s false) (hM : M + 1 ≤ 1000) (k : Int) (hk : k = 5 ∨ k = 6) (y : Bool) (m : Nat) (t : ByteArray) (c : Int) (hc : 0 ≤ c ∧ c ≤ 4294967295) (hcs : ∀ x ∈ s, 0 ≤ x.c ∧ x.c ≤ 4294967295) (hf : ∀ x r, s = x :: r → (x.have_ : Int) < if x.map = true then 2 * x.c else x.c) (hkey : keyB s = false) (hd : s.length < 800) :
    Calls Try.prog 13 #[.pointer (some ⟨b, 0, none⟩), evV ⟨k, y, m, t, c⟩] w fun q w' => q = .returned (.tuple #[.string ⟨(writeP ⟨k, y, m, t, c⟩).toArray⟩, .int .i64 0]) ∧ WmAt (M + 1) B w' b (⟨decide (k = 6), c, 0⟩ :: incB s) false ∧ Bew B b w w' := by
  have hc2 : -1 ≤ c ∧ c ≤ 9223372036854775807 := by omega
  have hodd : ∀ bc bh r, s = (⟨true, bc, bh⟩ : Bx) :: r → bh % 2 = 1 := by
    rintro bc bh r rfl
    simp [keyB] at hkey
    omega
  have hX := writeP_size (e := ⟨k, y, m, t, c⟩) 
  rw [writeP_cnt hk]
  by_cases h16 : c < 16
  · match s, h, hf, hd, hcs, hodd with
    | [], h, _, _, _, _ =>
      rcases hk with rfl | rfl
      · rw [show decide ((5 : Int) = 6) = false from rfl, cnt_s5 ⟨hc.1, h16⟩]
        refine (wm_open0_5s h y m t c hc2 ⟨hc.1, h16⟩).mono ?_
        rintro q w' ⟨rfl, h1, h2⟩
        exact ⟨rfl, h1.up (by omega) hM, h2⟩
      · rw [show decide ((6 : Int) = 6) = true from rfl, cnt_s6 ⟨hc.1, h16⟩]
        refine (wm_open0_6s h y m t c hc2 ⟨hc.1, h16⟩).mono ?_
        rintro q w' ⟨rfl, h1, h2⟩
        exact ⟨rfl, h1.up (by omega) hM, h2⟩
    | ⟨false, bc, bh⟩ :: r, h, hf, hd, hcs, _ =>
      have hbc := hcs _ List.mem_cons_self
      have hr := hf _ r rfl
      simp only [Bool.false_eq_true, if_false] at hbc hr
      simp only [List.length_cons] at hd
      rcases hk with rfl | rfl
      · rw [show decide ((5 : Int) = 6) = false from rfl, cnt_s5 ⟨hc.1, h16⟩]
        exact (wm_oac_5s h hM hd y m t c hc2 ⟨hc.1, h16⟩ hbc.1 (by omega) hr).mono (fun q w' h => h)
      · rw [show decide ((6 : Int) = 6) = true from rfl, cnt_s6 ⟨hc.1, h16⟩]
        exact (wm_oac_6s h hM hd y m t c hc2 ⟨hc.1, h16⟩ hbc.1 (by omega) hr).mono (fun q w' h => h)
    | ⟨true, bc, bh⟩ :: r, h, hf, hd, hcs, hodd =>
      have hbc := hcs _ List.mem_cons_self
      have hr := hf _ r rfl
      have ho := hodd bc bh r rfl
      simp only [if_true] at hbc hr
      simp only [List.length_cons] at hd
      rcases hk with rfl | rfl
      · rw [show decide ((5 : Int) = 6) = false from rfl, cnt_s5 ⟨hc.1, h16⟩]
        exact (wm_omc_5s h hM hd y m t c hc2 ⟨hc.1, h16⟩ hbc.1 (by omega) hr ho).mono (fun q w' h => h)
      · rw [show decide ((6 : Int) = 6) = true from rfl, cnt_s6 ⟨hc.1, h16⟩]
        exact (wm_omc_6s h hM hd y m t c hc2 ⟨hc.1, h16⟩ hbc.1 (by omega) hr ho).mono (fun q w' h => h)
  · have hXl : ∀ a d v, (⟨(lenBs 0 a d v).toArray⟩ : ByteArray).size ≤ 100000 := by
      intro a d v
      rw [size_of]
      have hl : (lenBs 0 a d v).length ≤ 5 := by
        unfold lenBs
        repeat' split
        all_goals simp [bigB_length]
      omega
    have h5 := rlen_c 220 221 (by omega) (by omega) c hc
    have h6 := rlen_c 222 223 (by omega) (by omega) c hc
    match s, h, hf, hd, hcs, hodd with
    | [], h, _, _, _, _ =>
      rcases hk with rfl | rfl
      · rw [show decide ((5 : Int) = 6) = false from rfl, cnt_l5 (by omega)]
        refine (wm_open0_5l h y m t c hc2 (by omega) hc.2 _ (hXl _ _ _) h5).mono ?_
        rintro q w' ⟨rfl, h1, h2⟩
        exact ⟨rfl, h1.up (by omega) hM, h2⟩
      · rw [show decide ((6 : Int) = 6) = true from rfl, cnt_l6 (by omega)]
        refine (wm_open0_6l h y m t c hc2 (by omega) hc.2 _ (hXl _ _ _) h6).mono ?_
        rintro q w' ⟨rfl, h1, h2⟩
        exact ⟨rfl, h1.up (by omega) hM, h2⟩
    | ⟨false, bc, bh⟩ :: r, h, hf, hd, hcs, _ =>
      have hbc := hcs _ List.mem_cons_self
      have hr := hf _ r rfl
      simp only [Bool.false_eq_true, if_false] at hbc hr
      simp only [List.length_cons] at hd
      rcases hk with rfl | rfl
      · rw [show decide ((5 : Int) = 6) = false from rfl, cnt_l5 (by omega)]
        exact (wm_oac_5l h hM hd y m t c hc2 (by omega) hc.2 _ (hXl _ _ _) h5 hbc.1 (by omega) hr).mono (fun q w' h => h)
      · rw [show decide ((6 : Int) = 6) = true from rfl, cnt_l6 (by omega)]
        exact (wm_oac_6l h hM hd y m t c hc2 (by omega) hc.2 _ (hXl _ _ _) h6 hbc.1 (by omega) hr).mono (fun q w' h => h)
    | ⟨true, bc, bh⟩ :: r, h, hf, hd, hcs, hodd =>
      have hbc := hcs _ List.mem_cons_self
      have hr := hf _ r rfl
      have ho := hodd bc bh r rfl
      simp only [if_true] at hbc hr
      simp only [List.length_cons] at hd
      rcases hk with rfl | rfl
      · rw [show decide ((5 : Int) = 6) = false from rfl, cnt_l5 (by omega)]
        exact (wm_omc_5l h hM hd y m t c hc2 (by omega) hc.2 _ (hXl _ _ _) h5 hbc.1 (by omega) hr ho).mono (fun q w' h => h)
      · rw [show decide ((6 : Int) = 6) = true from rfl, cnt_l6 (by omega)]
        exact (wm_omc_6l h hM hd y m t c hc2 (by omega) hc.2 _ (hXl _ _ _) h6 hbc.1 (by omega) hr ho).mono (fun q w' h => h)
/-- A value that is no container. -/
theorem wm_plain {M B b : Nat} {w : World} {s : List Bx} (h : WmAt M B w b s false) (hM : M + 1 ≤ 1000) (e : Ev) (hk : e.k = 0 ∨ e.k = 1 ∨ e.k = 2 ∨ e.k = 3 ∨ e.k = 4) (hm : e.m < 18446744073709551616) (ht : e.t.size ≤ 1000) (hfit : ¬ (e.k = 2 ∧ e.y = true ∧ 9223372036854775808 ≤ e.m)) (hcs : ∀ x ∈ s, 0 ≤ x.c ∧ x.c ≤ 4294967295) (hf : ∀ x r, s = x :: r → (x.have_ : Int) < if x.map = true then 2 * x.c else x.c) (hkey : ¬ (keyB s = true ∧ e.k ≠ 3)) :
    Calls Try.prog 13 #[.pointer (some ⟨b, 0, none⟩), evV e] w fun q w' => q = .returned (.tuple #[.string ⟨(writeP e).toArray⟩, .int .i64 0]) ∧ WmAt (M + 1) B w' b (incB s) s.isEmpty ∧ Bew B b w w' := by
  have hP := fun W => rplain_p e (by omega) (by omega) hm ht hfit W
  have hX := writeP_size ht
  generalize (⟨(writeP e).toArray⟩ : ByteArray) = X at hP hX ⊢
  match s, h, hf, hcs, hkey with
  | [], h, _, _, _ =>
    refine (wm_val0 h e hk X hX hP).mono ?_
    rintro q w' ⟨rfl, h1, h2⟩
    exact ⟨rfl, h1.up (by omega) hM, h2⟩
  | ⟨false, bc, bh⟩ :: r, h, hf, hcs, hkey =>
    have hbc := hcs _ List.mem_cons_self
    have hr := hf _ r rfl
    simp only [Bool.false_eq_true, if_false] at hbc hr
    exact (wm_v2 h hM e hk hkey X hX hbc.1 (by omega) hr hP).mono (fun q w' h => h)
  | ⟨true, bc, bh⟩ :: r, h, hf, hcs, hkey =>
    have hbc := hcs _ List.mem_cons_self
    have hr := hf _ r rfl
    simp only [if_true] at hbc hr
    by_cases ho : bh % 2 = 1
    · exact (wm_v4 h hM e hk hkey X hX hbc.1 (by omega) hr ho hP).mono (fun q w' h => h)
    · have he0 : bh % 2 = 0 := by omega
      have hk3 : e.k = 3 := by
        by_cases h3 : e.k = 3
        · exact h3
        · exact absurd ⟨by simp [keyB, he0], h3⟩ hkey
      exact (wm_v6 h hM e hk hkey X hX hbc.1 (by omega) hr he0 hk3 hP).mono (fun q w' h => h)
/-- A PART OF A DOCUMENT. -/
theorem wm_step {M B b : Nat} {w : World} {s s' : List Bx} (h : WmAt M B w b s false) (hM : M + 1 ≤ 1000) (hd : s.length < 800) (hcs : ∀ x ∈ s, 0 ≤ x.c ∧ x.c ≤ 1000000) (e : Ev) (hg : GoodP e) (hst : stepC (.live s) e = ckS s')
    (hroom : e.k ≠ 7 → ∀ x r, s = x :: r → 0 ≤ x.c → (x.have_ : Int) < if x.map = true then 2 * x.c else x.c) :
    Calls Try.prog 13 #[.pointer (some ⟨b, 0, none⟩), evV e] w fun q w' => q = .returned (.tuple #[.string ⟨(writeP e).toArray⟩, .int .i64 0]) ∧ WmAt (M + 1) B w' b s' (decide (s' = [])) ∧ Bew B b w w' := by
  have hnb : ∀ f, stepC (.live s) e ≠ .bad f := fun f hf => by
    rw [hst] at hf
    unfold ckS at hf
    split at hf <;> cases hf
  have hm : mayE e := by
    by_cases hm : mayE e
    · exact hm
    · exact absurd (by simp only [stepC]; rw [if_pos hm]) (hnb 2)
  have hinj : ∀ x y : List Bx, ckS x = ckS y → x = y := by
    intro x y hxy
    unfold ckS at hxy
    by_cases hx : x = [] <;> by_cases hy : y = []
    · rw [hx, hy]
    · rw [if_pos hx, if_neg hy] at hxy; cases hxy
    · rw [if_neg hx, if_pos hy] at hxy; cases hxy
    · rw [if_neg hx, if_neg hy] at hxy; cases hxy; rfl
  by_cases h7 : e.k = 7
  · cases s with
    | nil => exact absurd (by simp only [stepC]; rw [if_neg (by simpa using hm), if_pos h7]) (hnb 2)
    | cons bx r =>
      have hns : ¬ shutB bx := fun hsb => hnb 2 (by simp only [stepC]; rw [if_neg (by simpa using hm), if_pos h7, if_pos hsb])
      have he := good_end hg.good h7
      obtain rfl : r = s' := hinj _ _ (by rw [← hst, he]; exact (end_step hns).symm)
      have hw : writeP e = [] := by
        unfold writeP
        rw [if_pos h7]
      rw [hw]
      obtain ⟨k, y, m, t, c⟩ := e
      obtain rfl : k = 7 := h7
      refine (wm_end h y m t c hns (hcs bx (by simp)).2).mono ?_
      rintro q w' ⟨rfl, h1, h2⟩
      exact ⟨rfl, h1.up (by omega) hM, h2⟩
  · have hkey : keyB s = true → e.k = 3 := by
      intro hk
      by_cases h3 : e.k = 3
      · exact h3
      · exact absurd (by simp only [stepC]; rw [if_neg (by simpa using hm), if_neg h7, if_pos ⟨hk, h3⟩]) (hnb 8)
    have hkey' : ¬ (keyB s = true ∧ e.k ≠ 3) := fun h => h.2 (hkey h.1)
    have hrm := fun x r hx => hroom h7 x r hx (hcs x (by rw [hx]; exact List.mem_cons_self)).1
    have hcs2 : ∀ x ∈ s, 0 ≤ x.c ∧ x.c ≤ 4294967295 := fun x hx => ⟨(hcs x hx).1, by have := (hcs x hx).2; omega⟩
    have hts : e.t.size ≤ 1000 := by
      have := hg.good.text.1
      rw [size_list] at this
      omega
    by_cases h56 : e.k = 5 ∨ e.k = 6
    · have hs' : s' = ⟨decide (e.k = 6), e.c, 0⟩ :: incB s := by
        refine hinj _ _ ?_
        rw [← hst]
        have h4 := hnb 4
        simp only [stepC] at h4 ⊢
        rw [if_neg (by simpa using hm), if_neg h7, if_neg hkey', if_pos h56] at h4 ⊢
        by_cases hl : 16 ≤ s.length
        · rw [if_pos hl] at h4
          exact absurd rfl h4
        · rw [if_neg hl]
          unfold ckS
          rw [if_neg (by simp)]
      subst hs'
      have hkf : keyB s = false := by
        cases hq : keyB s with
        | false => rfl
        | true => have := hkey hq; omega
      have hfit := hg.fits
      obtain ⟨k, y, m, t, c⟩ := e
      have hcc : 0 ≤ c ∧ c ≤ 4294967295 := by
        have h1 : ¬ ((k = 5 ∨ k = 6) ∧ (c < 0 ∨ 4294967295 < c)) := fun h => hfit (.inr h)
        simp only at h56
        omega
      exact wm_begin h hM k h56 y m t c hcc hcs2 hrm hkf hd
    · have hk5 : e.k = 0 ∨ e.k = 1 ∨ e.k = 2 ∨ e.k = 3 ∨ e.k = 4 := by
        have := hm.1
        have := hm.2.1
        omega
      have hs' : s' = incB s := by
        refine hinj _ _ ?_
        rw [← hst]
        simp only [stepC]
        rw [if_neg (by simpa using hm), if_neg h7, if_neg hkey', if_neg h56]
        unfold ckS
        cases s <;> rfl
      subst hs'
      have he : s.isEmpty = decide (incB s = []) := by cases s <;> rfl
      rw [← he]
      exact wm_plain h hM e hk5 hg.good.mag hts (fun hh => hg.fits (.inl hh)) hcs2 hrm hkey'
end Go.Proofs.Ytonjdnahplphhaa
/-
  CONTRACT of the document's own Writer, for MessagePack: any part, whether it may be or not, as the machine of PoutPure.
-/
namespace Go.Proofs.Ytonjdnahplphhaa
open Go.RowKit
open Go.Lib
/-- What the open containers' counts may be. -/
def CntW (s : List Bx) : Prop := ∀ x ∈ s, 0 ≤ x.c ∧ x.c ≤ 4294967295
theorem cntW_inc {s : List Bx} (h : CntW s) : CntW (incB s) := by
  cases s with
  | nil => intro x hx; simp [incB] at hx
  | cons y r =>
    intro x hx
    rcases List.mem_cons.1 hx with rfl | hx
    · exact h y (by simp)
    · exact h x (by simp [hx])
theorem cntW_step {o : Kq} {e : Ev} (h : CntW o.s) (hm : e.k = 5 ∨ e.k = 6 → ¬ rangeP e → 0 ≤ e.c ∧ e.c ≤ 4294967295) : CntW (stepR o e).2.s := by
  unfold stepR
  split
  · exact h
  split
  · split
    · exact h
    · rename_i b r hs
      split
      · exact h
      · intro x hx
        exact h x (by rw [hs]; simp [hx])
  split
  · exact h
  split
  · exact h
  split
  · exact h
  · rename_i hr
    split
    · rename_i h56
      intro x hx
      rcases List.mem_cons.1 hx with rfl | hx
      · exact hm h56 hr
      · exact cntW_inc h x hx
    · exact cntW_inc h
theorem range_cnt {e : Ev} (h56 : e.k = 5 ∨ e.k = 6) (hr : ¬ rangeP e) : 0 ≤ e.c ∧ e.c ≤ 4294967295 := by
  have : ¬ (e.c < 0 ∨ 4294967295 < e.c) := fun h => hr (.inr ⟨h56, h⟩)
  omega
/-- Room for one part more. -/
theorem full_room {s : List Bx} (hc : CntW s) (hf : fulT s = false) : ∀ x r, s = x :: r → (x.have_ : Int) < if x.map = true then 2 * x.c else x.c := by
  rintro x r rfl
  have := hc x (by simp)
  unfold fulT at hf
  rw [decide_eq_false_iff_not] at hf
  split
  · rename_i hm
    rw [if_pos hm] at hf
    omega
  · rename_i hm
    rw [if_neg hm] at hf
    omega
/-- What it cannot hold: a count, or a number. -/
theorem wm_range {M B b : Nat} {w : World} {s : List Bx} (h : WmAt M B w b s false) (e : Ev) (hm : mayE e) (hok : EvOk e) (hcs : CntW s) (hf : fulT s = false) (hk : ¬ (keyB s = true ∧ e.k ≠ 3)) (hr : rangeP e) :
    Calls Try.prog 13 #[.pointer (some ⟨b, 0, none⟩), evV e] w fun q w' => q = .returned (.tuple #[.string ⟨#[]⟩, .int .i64 7]) ∧ WmAt M B w' b s false ∧ Bew B b w w' := by
  have hroom := full_room hcs hf
  have hkey : keyB s = false := by
    cases hq : keyB s with
    | false => rfl
    | true =>
      refine absurd ⟨hq, ?_⟩ hk
      rcases hr with ⟨h, _⟩ | ⟨h | h, _⟩ <;> omega
  rcases hr with ⟨h2, hy, h9⟩ | ⟨h56, hbad⟩
  · have hP := fun W => rplain_pbad e hok.2.1 ⟨h2, hy, h9⟩ W
    match s, h, hroom, hcs, hkey with
    | [], h, _, _, _ => exact wm_valbad0 h e (by omega) hP
    | ⟨false, bc, bh⟩ :: r, h, hroom, hcs, _ =>
      have h1 := hcs _ List.mem_cons_self
      have h3 := hroom _ r rfl
      simp only [Bool.false_eq_true, if_false] at h1 h3
      exact wm_valbadA h e (by omega) h1.1 (by omega) h3 hP
    | ⟨true, bc, bh⟩ :: r, h, hroom, hcs, hkey =>
      have h1 := hcs _ List.mem_cons_self
      have h3 := hroom _ r rfl
      simp only [if_true] at h1 h3
      have ho : bh % 2 = 1 := by simp [keyB] at hkey; omega
      exact wm_valbadM h e (by omega) h1.1 (by omega) h3 ho hP
  · have h1 := hm.2.2 h56
    have h9 := hok.2.2.1.2
    obtain ⟨k, y, m, t, c⟩ := e
    simp only at h56 hbad h1 h9
    match s, h, hroom, hcs, hkey with
    | [], h, _, _, _ =>
      rcases h56 with rfl | rfl
      · rcases hbad with hb | hb
        · exact wm_range0_5n h y m t c hb h1
        · exact wm_range0_5g h y m t c hb h9
      · rcases hbad with hb | hb
        · exact wm_range0_6n h y m t c hb h1
        · exact wm_range0_6g h y m t c hb h9
    | ⟨false, bc, bh⟩ :: r, h, hroom, hcs, _ =>
      have g1 := hcs _ List.mem_cons_self
      have g3 := hroom _ r rfl
      simp only [Bool.false_eq_true, if_false] at g1 g3
      rcases h56 with rfl | rfl
      · rcases hbad with hb | hb
        · exact wm_rangeA_5n h y m t c hb h1 g1.1 (by omega) g3
        · exact wm_rangeA_5g h y m t c hb h9 g1.1 (by omega) g3
      · rcases hbad with hb | hb
        · exact wm_rangeA_6n h y m t c hb h1 g1.1 (by omega) g3
        · exact wm_rangeA_6g h y m t c hb h9 g1.1 (by omega) g3
    | ⟨true, bc, bh⟩ :: r, h, hroom, hcs, hkey =>
      have g1 := hcs _ List.mem_cons_self
      have g3 := hroom _ r rfl
      simp only [if_true] at g1 g3
      have ho : bh % 2 = 1 := by simp [keyB] at hkey; omega
      rcases h56 with rfl | rfl
      · rcases hbad with hb | hb
        · exact wm_rangeM_5n h y m t c hb h1 g1.1 (by omega) g3 ho
        · exact wm_rangeM_5g h y m t c hb h9 g1.1 (by omega) g3 ho
      · rcases hbad with hb | hb
        · exact wm_rangeM_6n h y m t c hb h1 g1.1 (by omega) g3 ho
        · exact wm_rangeM_6g h y m t c hb h9 g1.1 (by omega) g3 ho
/-- ANY PART. -/
theorem wm_any {M B b : Nat} {w : World} {s : List Bx} {dn : Bool} (h : WmAt M B w b s dn) (hM : M + 1 ≤ 1000) (hd : s.length < 800) (hcs : CntW s) (e : Ev) (hok : EvOk e) (ht : e.t.size ≤ 1000) :
    Calls Try.prog 13 #[.pointer (some ⟨b, 0, none⟩), evV e] w fun q w' => q = .returned (.tuple #[.string ⟨(stepR ⟨s, dn⟩ e).1.1.toArray⟩, .int .i64 (stepR ⟨s, dn⟩ e).1.2]) ∧ WmAt (M + 1) B w' b (stepR ⟨s, dn⟩ e).2.s (stepR ⟨s, dn⟩ e).2.dn ∧ Bew B b w w' := by
  have up : ∀ {s' : List Bx} {dn' : Bool} {w' : World}, WmAt M B w' b s' dn' → WmAt (M + 1) B w' b s' dn' := fun h => h.up (by omega) hM
  by_cases hm : mayE e
  · cases dn with
    | true =>
      rw [stepR_bad ⟨s, true⟩ e (.inr rfl)]
      refine (wm_over h e hm).mono ?_
      rintro q w' ⟨rfl, h1, h2⟩
      exact ⟨rfl, up h1, h2⟩
    | false =>
      by_cases h7 : e.k = 7
      · cases s with
        | nil =>
          rw [stepR_none hm h7]
          obtain ⟨k, y, m, t, c⟩ := e
          obtain rfl : k = 7 := h7
          refine (wm_end0 h y m t c).mono ?_
          rintro q w' ⟨rfl, h1, h2⟩
          exact ⟨rfl, up h1, h2⟩
        | cons bx r =>
          obtain ⟨_, _, _, hS⟩ := h.cells
          have hbok := hS.ok bx (by simp)
          have hb1 : bx.have_ ≤ 1000 := Nat.le_trans hbok.2 hS.most
          by_cases hsh : shutB bx
          · rw [stepR_shut hm h7 hsh]
            obtain ⟨k, y, m, t, c⟩ := e
            obtain rfl : k = 7 := h7
            obtain ⟨bm, bc, bh⟩ := bx
            have fin : ∀ (q : Ending) w', (q = .returned (.tuple #[.string ⟨#[]⟩, .int .i64 14]) ∧ WmAt M B w' b ((⟨bm, bc, bh⟩ : Bx) :: r) false ∧ Bew B b w w') → (q = .returned (.tuple #[.string ⟨([] : List UInt8).toArray⟩, .int .i64 ((14 : Nat) : Int)]) ∧ WmAt (M + 1) B w' b ((⟨bm, bc, bh⟩ : Bx) :: r) false ∧ Bew B b w w') := by
              rintro q w' ⟨rfl, h1, h2⟩
              exact ⟨rfl, up h1, h2⟩
            cases bm with
            | true =>
              by_cases ho : bh % 2 = 1
              · exact (wm_odd h y m t c ho).mono fin
              · rcases hsh with ⟨h1, h2⟩ | ⟨_, h2⟩
                · exact (wm_shutM h y m t c (by omega) ⟨h1, hbok.1.2⟩ (by simpa using h2)).mono fin
                · exact absurd h2 ho
            | false =>
              rcases hsh with ⟨h1, h2⟩ | ⟨h1, _⟩
              · exact (wm_shutA h y m t c h1 (by simpa using h2)).mono fin
              · cases h1
          · rw [stepR_end hm h7 hsh]
            have hcc : bx.c ≤ 1000000 := by
              by_cases h0 : 0 ≤ bx.c
              · by_cases h2 : (bx.have_ : Int) = if bx.map = true then 2 * bx.c else bx.c
                · split at h2 <;> omega
                · exact absurd (.inl ⟨h0, h2⟩) hsh
              · omega
            obtain ⟨k, y, m, t, c⟩ := e
            obtain rfl : k = 7 := h7
            refine (wm_end h y m t c hsh hcc).mono ?_
            rintro q w' ⟨rfl, h1, h2⟩
            have hr : decide (r = []) = r.isEmpty := by cases r <;> rfl
            rw [hr] at h1
            exact ⟨rfl, up h1, h2⟩
      · by_cases hf : fulT s = true
        · rw [stepR_full hm h7 hf]
          match s, h, hf with
          | ⟨bm, bc, bh⟩ :: r, h, hf =>
            simp only [fulT, decide_eq_true_eq] at hf
            cases bm with
            | false =>
              refine (wm_fullA h e hm h7 hf.1 (by simpa using hf.2)).mono ?_
              rintro q w' ⟨rfl, h1, h2⟩
              exact ⟨rfl, up h1, h2⟩
            | true =>
              refine (wm_fullM h e hm h7 hf.1 (by simpa using hf.2)).mono ?_
              rintro q w' ⟨rfl, h1, h2⟩
              exact ⟨rfl, up h1, h2⟩
        · have hf : fulT s = false := by simpa using hf
          by_cases hk : keyB s = true ∧ e.k ≠ 3
          · rw [stepR_key hm h7 hf hk.1 hk.2]
            obtain ⟨hk1, h3⟩ := hk
            match s, h, hk1, hf, hcs with
            | ⟨false, _, _⟩ :: _, _, hk1, _, _ => simp [keyB] at hk1
            | ⟨true, bc, bh⟩ :: r, h, hk1, hf, hcs =>
              have he0 : bh % 2 = 0 := by simpa [keyB] using hk1
              have hb := hcs _ List.mem_cons_self
              simp only at hb
              simp only [fulT, decide_eq_false_iff_not, if_true] at hf
              refine (wm_nokeyC h e hm h7 h3 he0 hb.1 (by omega) (by omega)).mono ?_
              rintro q w' ⟨rfl, h1, h2⟩
              exact ⟨rfl, up h1, h2⟩
          · by_cases hr : rangeP e
            · rw [stepR_range hm h7 hf hk hr]
              refine (wm_range h e hm hok hcs hf hk hr).mono ?_
              rintro q w' ⟨rfl, h1, h2⟩
              exact ⟨rfl, up h1, h2⟩
            · by_cases h56 : e.k = 5 ∨ e.k = 6
              · have hkf : keyB s = false := by
                  cases hq : keyB s with
                  | false => rfl
                  | true => exact absurd ⟨hq, by omega⟩ hk
                rw [stepR_open hm h56 hf hkf hr]
                have hc := range_cnt h56 hr
                obtain ⟨k, y, m, t, c⟩ := e
                exact wm_begin h hM k h56 y m t c hc hcs (full_room hcs hf) hkf hd
              · rw [stepR_val hm h7 h56 hf hk hr]
                have h8 := hm.1
                have h9 := hm.2.1
                exact wm_plain h hM e (by omega) hok.2.1 ht (fun hh => hr (.inl hh)) hcs (full_room hcs hf) hk
  · rw [stepR_bad ⟨s, dn⟩ e (.inl hm)]
    refine (wm_none h e hm).mono ?_
    rintro q w' ⟨rfl, h1, h2⟩
    exact ⟨rfl, up h1, h2⟩
end Go.Proofs.Ytonjdnahplphhaa
/-
  CONTRACTS of the book's documents out of numbers: every item, to the depth asked.
-/
namespace Go.Proofs.Ytonjdnahplphhaa
open Go.RowKit
open Go.Lib
theorem plain_ok {D n cp at_ m bl bd bo ba bn bi : Nat} (d : Nat) {A : Option Addr} {L : Nat → Int} {W w : World} {v : Value} {out : List Ev} (h : DS W A n cp L D bl bd bo ba bn bi w v m out at_) (h1 : at_ ≤ 900000000) (h2 : n ≤ 900000000) (h3 : m ≤ 900000000) (hx : nxD n L at_ % 8 ≤ 4) :
    Calls Try.prog 34 #[.int .i64 ((d : Nat) : Int), .pointer (some ⟨bn, 0, none⟩), .pointer (some ⟨bo, 0, none⟩), .pointer (some ⟨bd, 0, none⟩), .pointer (some ⟨bi, 0, none⟩)] w fun r w' => ∃ v', r = .returned (.tuple #[]) ∧ DS W A n cp L D bl bd bo ba bn bi w' v' (m + 1) (out ++ [plainD (nxD n L at_)]) (at_ + 1) := by
  by_cases k0 : nxD n L at_ % 8 = 0
  · exact plain0 d h h1 h2 h3 k0
  by_cases k1 : nxD n L at_ % 8 = 1
  · exact plain1 d h h1 h2 h3 k1
  by_cases k2 : nxD n L at_ % 8 = 2
  · exact plain2 d h h1 h2 h3 k2
  by_cases k3 : nxD n L at_ % 8 = 3
  · exact plain3 d h h1 h2 h3 k3
  exact plain4 d h h1 h2 h3 (by omega)
theorem cap_pos (f : Nat) : 1 ≤ capD f := by
  cases f
  · exact Nat.le_refl _
  · simp only [capD]; omega
/-- Every item tells its parts. -/
theorem item_any {D n cp bl bd bo ba bn bi : Nat} {A : Option Addr} {L : Nat → Int} {W : World} (h2 : n ≤ 900000000) (hD : D ≤ 1000) : ∀ f d, d + f = D → ItemOk W A n cp L D bl bd bo ba bn bi d f
  | 0, d, hd => by
    intro m a w v out h ha hm
    simp only [capD] at ha hm
    simp only [itemD]
    by_cases k : nxD n L a % 8 ≤ 4
    · rw [if_pos k]
      exact plain_ok d h (by omega) h2 (by omega) k
    · rw [if_neg k]
      by_cases k5 : nxD n L a % 8 = 5
      · exact low5 d h (by omega) h2 (by omega) k5 (by omega)
      by_cases k6 : nxD n L a % 8 = 6
      · exact low6 d h (by omega) h2 (by omega) k6 (by omega)
      exact low7 d h (by omega) h2 (by omega) (by omega) (by omega)
  | f + 1, d, hd => by
    intro m a w v out h ha hm
    have hp := cap_pos (f + 1)
    by_cases k : nxD n L a % 8 ≤ 4
    · simp only [itemD]
      rw [if_pos k]
      exact plain_ok d h (by omega) h2 (by omega) k
    · have ih := item_any (W := W) (A := A) (cp := cp) (L := L) (bl := bl) (bd := bd) (bo := bo) (ba := ba) (bn := bn) (bi := bi) h2 hD f (d + 1) (by omega)
      by_cases k5 : nxD n L a % 8 = 5
      · exact item_arr h ha h2 hm k5 hd hD ih
      · exact item_map h ha h2 hm (by omega) hd hD ih
end Go.Proofs.Ytonjdnahplphhaa
/-
  CONTRACT of the book's documents out of numbers: truchmanbook.Doc.
-/
namespace Go.Proofs.Ytonjdnahplphhaa
open Go.RowKit
open Go.Lib
theorem blk_new1 (w : World) (X : Obj) (cs : Array Value) (t : TypeId) : Blk ((w.alloc X).alloc (.cells cs t)) (w.heap.size + 1) cs t := by
  have := blk_new (w.alloc X) cs t
  rwa [World.size_alloc] at this
theorem blk_new2 (w : World) (X Y : Obj) (cs : Array Value) (t : TypeId) : Blk (((w.alloc X).alloc Y).alloc (.cells cs t)) (w.heap.size + 1 + 1) cs t := by
  have := blk_new1 (w.alloc X) Y cs t
  rwa [World.size_alloc] at this
theorem blk_new3 (w : World) (X Y Z : Obj) (cs : Array Value) (t : TypeId) : Blk ((((w.alloc X).alloc Y).alloc Z).alloc (.cells cs t)) (w.heap.size + 1 + 1 + 1) cs t := by
  have := blk_new2 (w.alloc X) Y Z cs t
  rwa [World.size_alloc] at this
theorem blk_new4 (w : World) (X Y Z U : Obj) (cs : Array Value) (t : TypeId) : Blk (((((w.alloc X).alloc Y).alloc Z).alloc U).alloc (.cells cs t)) (w.heap.size + 1 + 1 + 1 + 1) cs t := by
  have := blk_new3 (w.alloc X) Y Z U cs t
  rwa [World.size_alloc] at this
theorem blk_new5 (w : World) (X Y Z U V : Obj) (cs : Array Value) (t : TypeId) : Blk ((((((w.alloc X).alloc Y).alloc Z).alloc U).alloc V).alloc (.cells cs t)) (w.heap.size + 1 + 1 + 1 + 1 + 1) cs t := by
  have := blk_new4 (w.alloc X) Y Z U V cs t
  rwa [World.size_alloc] at this
/-- What Doc lays ahead of its one item. -/
theorem ds_new (A : Option Addr) (n cp : Nat) (L : Nat → Int) (D : Nat) (w : World) (hL : DLAt w w.heap.size A n L) :
    DS w A n cp L D w.heap.size (w.heap.size + 1) (w.heap.size + 1 + 1) (w.heap.size + 1 + 1 + 1) (w.heap.size + 1 + 1 + 1 + 1) (w.heap.size + 1 + 1 + 1 + 1 + 1)
      ((((((w.alloc (.cells #[.slice A n cp] 48)).alloc (.cells #[.int .i64 D] 3)).alloc (.cells #[.slice none 0 0] 22)).alloc (.cells #[.int .i64 0] 3)).alloc (.cells #[clNext (w.heap.size + 1 + 1 + 1) w.heap.size] 85)).alloc
        (.cells #[clItem (w.heap.size + 1 + 1 + 1 + 1) (w.heap.size + 1 + 1) (w.heap.size + 1) (w.heap.size + 1 + 1 + 1 + 1 + 1)] 86)) (.slice none 0 0) 0 [] 0 := by
  have hB : Below w.heap.size w ((((((w.alloc (.cells #[.slice A n cp] 48)).alloc (.cells #[.int .i64 D] 3)).alloc (.cells #[.slice none 0 0] 22)).alloc (.cells #[.int .i64 0] 3)).alloc (.cells #[clNext (w.heap.size + 1 + 1 + 1) w.heap.size] 85)).alloc
        (.cells #[clItem (w.heap.size + 1 + 1 + 1 + 1) (w.heap.size + 1 + 1) (w.heap.size + 1) (w.heap.size + 1 + 1 + 1 + 1 + 1)] 86)) := up_alloc (up_alloc (up_alloc (up_alloc (up_alloc (up_alloc (Below.refl _ _) _) _) _) _) _) _
  exact ⟨((((((blk_new _ _ _).alloc _).alloc _).alloc _).alloc _).alloc _), (((((blk_new1 _ _ _ _).alloc _).alloc _).alloc _).alloc _), (((blk_new2 _ _ _ _ _).alloc _).alloc _).alloc _, ((blk_new3 _ _ _ _ _ _).alloc _).alloc _, (blk_new4 _ _ _ _ _ _ _).alloc _, blk_new5 _ _ _ _ _ _ _ _,
    ⟨hB, Win.nil_ _ _ _, fun k hk => by simp [Value.owner] at hk⟩, rfl, hL.below hB, by omega, by omega, by omega⟩
set_option maxHeartbeats 2000000 in
/-- Doc tells the parts of one item. -/
theorem doc_any (A : Option Addr) (n cp : Nat) (L : Nat → Int) (D : Nat) (w : World) (hL : DLAt w w.heap.size A n L) (h2 : n ≤ 900000000) (hD : D ≤ 1000) (hC : capD D ≤ 900000000) :
    Calls Try.prog 20 #[.slice A n cp, .int .i64 ((D : Nat) : Int)] w fun r w' => ∃ v, r = .returned v ∧ Made w w' v (itemD n L D 0).1.length (itemD n L D 0).1 := by
  have hI := item_any (bl := w.heap.size) (bd := w.heap.size + 1) (bo := w.heap.size + 1 + 1) (ba := w.heap.size + 1 + 1 + 1) (bn := w.heap.size + 1 + 1 + 1 + 1) (bi := w.heap.size + 1 + 1 + 1 + 1 + 1) (cp := cp) (A := A) (L := L) (W := w) h2 hD D 0 (by omega) 0 0 _ _ _ (ds_new A n cp L D w hL) (by omega) (by omega)
  simp only [Nat.zero_add, List.nil_append] at hI
  have HI := Lib.hid hI
  clear hI hL hC
  go_enter Try.func20, Try.ntmps20
  go_wp2_with fail
  refine HI.out.mono ?_
  rintro r w1 ⟨v, rfl, hS⟩
  have o0 := hS.o.cell 0
  simp only [List.getElem?_toArray, List.getElem?_cons_zero] at o0
  have HM := Lib.hid hS.made
  clear hS
  go_wp2
  go_ret
  exact ⟨v, rfl, HM.out⟩
end Go.Proofs.Ytonjdnahplphhaa
/-
  The book's documents: how many blocks one may take; what came in as ints.
-/
namespace Go.Proofs.Ytonjdnahplphhaa
open Go.RowKit
open Go.Lib
theorem cap16 (D : Nat) (hD : D ≤ 16) : capD D ≤ 900000000 := by
  have hc : D = 0 ∨ D = 1 ∨ D = 2 ∨ D = 3 ∨ D = 4 ∨ D = 5 ∨ D = 6 ∨ D = 7 ∨ D = 8 ∨ D = 9 ∨ D = 10 ∨ D = 11 ∨ D = 12 ∨ D = 13 ∨ D = 14 ∨ D = 15 ∨ D = 16 := by omega
  rcases hc with rfl | rfl | rfl | rfl | rfl | rfl | rfl | rfl | rfl | rfl | rfl | rfl | rfl | rfl | rfl | rfl | rfl <;> decide +kernel
/-- What came in as ints, as the documents want it. -/
theorem dlat_reads {w : World} {A : Option Addr} {n : Nat} {zs : List Int} (hl : zs.length = n) (hR : Reads w w.heap.size 1 A n (zs.map (Value.int .i64))) : DLAt w w.heap.size A n (fun i => zs.getD i 0) := fun h0 => by
  obtain ⟨ad, rfl, hb, hc⟩ := hR.2 h0
  obtain ⟨b, off, spot⟩ := ad
  have h00 := hc 0 (.int .i64 (zs[0]'(by omega))) (by simp [show 0 < zs.length by omega])
  have hspot : spot = none := by simpa [Addr.add] using World.cell?_spot h00
  subst hspot
  refine ⟨b, off, rfl, hb, fun i hi => ?_⟩
  have hi' : i < zs.length := by omega
  have := hc i (.int .i64 zs[i]) (by simp [hi'])
  by_cases hi0 : i = 0
  · subst hi0
    simpa [List.getD, hi', Addr.add] using this
  · simpa [List.getD, hi', Addr.add, hi0] using this
end Go.Proofs.Ytonjdnahplphhaa
/-
  Documents written part by part as MessagePack: the machine of PoutPure over documents that Check lets by; the document's own Writer as that machine.
-/
namespace Go.Proofs.Ytonjdnahplphhaa
open Go.RowKit
open Go.Lib
/-- Nothing is asked of the library's tables (jsonout's laws ask it of one). -/
def NoTaR (_ : World) : Prop := True
theorem NoTaR.alloc {w : World} (_ : NoTaR w) (x : Obj) : NoTaR (w.alloc x) := trivial
theorem NoTaR.below {B : Nat} {w w' : World} (_ : NoTaR w) (_ : Below B w w') : NoTaR w' := trivial
theorem roalive_any (w : World) (_ : NoTaR w) : Calls Try.prog 10 #[] w fun e w' => e = .returned (.bool true) ∧ Below w.heap.size w w' := ralive_any w
theorem pov_step {w0 w : World} {b : Nat} {F : List Nat} {q : Kq} (h : PoW w0 w b F q) (_ : NoTaR w0) (hs : q.s.length ≤ 900) (e : Ev) (hm : mayE e) (hok : EvOk e) (ht : e.t.size ≤ 1000) :
    Calls Try.prog 12 #[.pointer (some ⟨b, 0, none⟩), valE e] w fun r w' => r = .returned (.tuple #[.string ⟨(stepR q e).1.1.toArray⟩, .int .i64 ((stepR q e).1.2 : Nat)]) ∧ ∃ F', PoW w0 w' b F' (stepR q e).2 ∧ Jf b 0 F F' w w' := pow_step h hs e hm hok (by omega)
/-- STEP, its answer as it is. -/
theorem pow_to {w0 w : World} {b : Nat} {F : List Nat} {q : Kq} (h : PoW w0 w b F q) (_ : NoTaR w0) (hs : q.s.length ≤ 900) (e : Ev) (hm : mayE e) (hok : EvOk e) (ht : e.t.size ≤ 1000) {bs : List UInt8} {n : Nat} {q' : Kq} (hq : stepR q e = ((bs, n), q')) {v : Value} (hv : valE e = v) :
    Calls Try.prog 12 #[.pointer (some ⟨b, 0, none⟩), v] w fun r w' => r = .returned (.tuple #[.string ⟨bs.toArray⟩, .int .i64 (n : Nat)]) ∧ ∃ F', PoW w0 w' b F' q' ∧ Jf b 0 F F' w w' := by
  have := pow_step h hs e hm hok (by omega)
  rw [hq, hv] at this
  exact this
theorem rall_small (A : Option Addr) (n cp : Nat) (E : Nat → Ev) (w : World) (hn : n ≤ 900) (hE : EvsAt w w.heap.size A n E) (hok : ∀ i, i < n → EvOk (E i) ∧ (E i).t.size ≤ 1000) :
    Calls Try.prog 18 #[.slice A n cp] w fun r w' => r = .returned (.tuple #[.string ⟨(allR ⟨[], false⟩ (pre E n)).1.toArray⟩, .int .i64 ((allR ⟨[], false⟩ (pre E n)).2 : Nat)]) ∧ Below w.heap.size w w' :=
  rall_any A n cp E w hn hE (fun i hi => ⟨(hok i hi).1, Nat.le_trans (hok i hi).2 (by decide)⟩)
/-- A document that MessagePack can hold. -/
def RunP (L : List Ev) : Prop := runC (.live []) L = .done ∧ ∀ e ∈ L, ¬ rangeP e
theorem doc_runP (n : Nat) (L : Nat → Int) (D : Nat) (hD : D ≤ 16) : RunP (itemD n L D 0).1 := ⟨doc_run n L D hD, fun e he => by
  have h1 := doc_e n L D e he
  have h2 := doc_pos n L D 0 e he
  rintro (⟨_, _, h⟩ | ⟨_, h⟩)
  · have := h1.mag; omega
  · have := h1.cnt.2; omega⟩
/-- A part of a document that is one: written, and what then. -/
theorem rlive_at {l : List Ev} (hr : RunP l) {j : Nat} (hj : j < l.length) : ∃ s, runC (.live []) (l.take j) = .live s ∧ (stepR ⟨s, false⟩ l[j]).1.2 = 0 ∧ (stepR ⟨s, false⟩ l[j]).2 = ckQ (stepC (.live s) l[j]) := by
  obtain ⟨h, hp⟩ := hr
  obtain ⟨s, hs, _⟩ := live_at h hj
  have h1 : runC (runC (.live []) (l.take j)) (l.drop j) = .done := by rw [← runC_append, List.take_append_drop]; exact h
  have hd : l.drop j = l[j] :: l.drop (j + 1) := List.drop_eq_getElem_cons hj
  rw [hd, hs] at h1
  have h2 := (step_ckR h1 (hp _ (List.getElem_mem hj))).2
  exact ⟨s, hs, by rw [h2], by rw [h2]⟩
/-- The document's own Writer, and that its open containers' counts are what they may be. -/
structure WpAt (M B : Nat) (w : World) (b : Nat) (s : List Bx) (dn : Bool) : Prop where
  wm : WmAt M B w b s dn
  cnt : CntW s
theorem WpAt.go {M B : Nat} {w w' : World} {b : Nat} {s : List Bx} {dn : Bool} (h : WpAt M B w b s dn) (k : Below w.heap.size w w') : WpAt M B w' b s dn := ⟨h.wm.go k, h.cnt⟩
theorem WpAt.at_ {M B C : Nat} {w : World} {b : Nat} {s : List Bx} {dn : Bool} (h : WpAt M B w b s dn) (hC : C ≤ w.heap.size) : WpAt M C w b s dn := ⟨h.wm.at_ hC, h.cnt⟩
theorem WpAt.blk {M B : Nat} {w : World} {b : Nat} {s : List Bx} {dn : Bool} (h : WpAt M B w b s dn) : ∃ cs, w.heap[b]? = some (.cells cs 32 (0, 0)) := h.wm.blk
theorem WpAt.cells {M B : Nat} {w : World} {b : Nat} {s : List Bx} {dn : Bool} (h : WpAt M B w b s dn) : ∃ a cp, At w b 0 [.int .i64 3, .slice a s.length cp, .bool dn] ∧ Stk M 0 w s (.slice a s.length cp) := h.wm.cells
/-- ANY PART, by the document's own Writer, at whatever world: only its block has turned. -/
theorem wp_part {M b : Nat} {w : World} {s : List Bx} {dn : Bool} (h : WpAt M 0 w b s dn) (hM : M + 1 ≤ 1000) (hd : s.length < 800) (e : Ev) (hok : EvOk e) (ht : e.t.size ≤ 1000) :
    Calls Try.prog 13 #[.pointer (some ⟨b, 0, none⟩), evV e] w fun q w' => q = .returned (.tuple #[.string ⟨(stepR ⟨s, dn⟩ e).1.1.toArray⟩, .int .i64 (stepR ⟨s, dn⟩ e).1.2]) ∧ WpAt (M + 1) 0 w' b (stepR ⟨s, dn⟩ e).2.s (stepR ⟨s, dn⟩ e).2.dn ∧ Bew w.heap.size b w w' := by
  refine (wm_any (h.wm.at_ (Nat.le_refl _)) hM hd h.cnt e hok ht).mono ?_
  rintro q w' ⟨h1, h2, h3⟩
  refine ⟨h1, ⟨h2.at_ (Nat.zero_le _), cntW_step (o := ⟨s, dn⟩) h.cnt (fun h56 hr => ?_)⟩, h3⟩
  unfold rangeP at hr
  omega
theorem tidy_writeP {e : Ev} (hm : mayE e) : writeP (tidyE e) = writeP e := by
  unfold writeP
  rw [rtidy_k]
  unfold tidyE
  by_cases h7 : e.k = 7
  · rw [if_pos h7, if_pos h7]
  rw [if_neg h7, if_neg h7]
  by_cases h0 : e.k = 0
  · rw [if_pos h0, if_pos h0]
  rw [if_neg h0, if_neg h0]
  by_cases h1 : e.k = 1
  · rw [if_pos h1, if_pos h1, if_pos h1]
  rw [if_neg h1, if_neg h1, if_neg h1]
  by_cases h2 : e.k = 2
  · rw [if_pos h2, if_pos h2, if_pos h2]
  rw [if_neg h2, if_neg h2, if_neg h2]
  by_cases h34 : e.k = 3 ∨ e.k = 4
  · rw [if_pos h34, if_pos h34, if_pos h34]
  rw [if_neg h34, if_neg h34, if_neg h34]
  by_cases h56 : e.k = 5 ∨ e.k = 6
  · rw [if_pos h56]
  · have := hm.1
    have := hm.2.1
    omega
theorem tidy_rangeP (e : Ev) : rangeP (tidyE e) ↔ rangeP e := by
  unfold rangeP
  rw [rtidy_k]
  unfold tidyE
  constructor
  · rintro (⟨h2, h3, h4⟩ | ⟨h56, h3⟩)
    · rw [if_neg (by omega), if_pos h2] at h3 h4
      exact .inl ⟨h2, h3, h4⟩
    · rw [if_neg (by omega), if_neg (by omega), if_neg (by omega), if_pos h56] at h3
      exact .inr ⟨h56, h3⟩
  · rintro (⟨h2, h3, h4⟩ | ⟨h56, h3⟩)
    · rw [if_neg (by omega), if_pos h2]
      exact .inl ⟨h2, h3, h4⟩
    · rw [if_neg (by omega), if_neg (by omega), if_neg (by omega), if_pos h56]
      exact .inr ⟨h56, h3⟩
theorem stepR_tidy (q : Kq) (e : Ev) : stepR q (tidyE e) = stepR q e := by
  by_cases hn : ¬ mayE e
  · rw [stepR_bad q e (.inl hn), stepR_bad q _ (.inl (fun h => hn ((tidy_may e).1 h)))]
  have hm : mayE e := Classical.not_not.1 hn
  unfold stepR
  simp only [tidy_may, rtidy_k, tidy_writeP hm, tidy_rangeP]
  by_cases h : e.k = 5 ∨ e.k = 6
  · rw [tidy_c h]
  · simp only [if_neg h]
theorem rstep_err_nil {q : Kq} {e : Ev} (h : (stepR q e).1.2 ≠ 0) : stepR q e = (([], (stepR q e).1.2), q) := by
  revert h
  unfold stepR
  split
  · intro _; rfl
  · split
    · split
      · intro _
        rfl
      · split
        · intro _; rfl
        · intro h; exact absurd rfl h
    · split
      · intro _; rfl
      · split
        · intro _; rfl
        · split
          · intro _; rfl
          · split
            · intro h; exact absurd rfl h
            · intro h; exact absurd rfl h
end Go.Proofs.Ytonjdnahplphhaa
/-
  LAWS of chapter 16: PackoutOpen.
-/
namespace Go.Proofs.Ytonjdnahplphhaa
open Go.RowKit
open Go.Lib
/-- A document that begins with a container cannot be written with its count unknown. -/
theorem open_bad {e : Ev} {l : List Ev} (hm : mayE e) (h56 : e.k = 5 ∨ e.k = 6) : allR ⟨[], false⟩ ((e :: l).map openE) = ([], 7) := by
  have ho : openE e = ⟨e.k, e.y, e.m, e.t, -1⟩ := by unfold openE; rw [if_pos h56]
  have hm2 : mayE (openE e) := by
    rw [ho]
    exact ⟨hm.1, hm.2.1, fun _ => by simp⟩
  have hs := stepR_range (s := []) (e := openE e) hm2 (by rw [ho]; show e.k ≠ 7; omega) rfl (by simp [keyB]) (.inr ⟨by rw [ho]; exact h56, by rw [ho]; simp⟩)
  rw [List.map_cons, allR_cons_err hm2 (by rw [hs]; simp), hs]
/-- One that does not is one part. -/
theorem open_one {e : Ev} {l : List Ev} (hr : RunP (e :: l)) (h56 : ¬ (e.k = 5 ∨ e.k = 6)) : (e :: l).map openE = e :: l ∧ (allR ⟨[], false⟩ (e :: l)).2 = 0 := by
  refine ⟨?_, by rw [all_ckR _ [] hr.1 hr.2]⟩
  have h := hr.1
  rw [runC_cons] at h
  have hl : l = [] := by
    simp only [stepC] at h
    split at h
    · rw [runC_bad] at h; cases h
    · split at h
      · rw [runC_bad] at h; cases h
      · split at h
        · rw [runC_bad] at h; cases h
        · simp only [if_true] at h
          exact run_ended h
  rw [hl, List.map_cons, List.map_nil]
  unfold openE
  rw [if_neg h56]
set_option maxRecDepth 100000 in
set_option maxHeartbeats 8000000 in
theorem ropen_in (A : Option Addr) (n cp : Nat) (Li : Nat → Int) (w : World) (hL : DLAt w w.heap.size A n Li) (hn : n ≤ 60) :
    Calls Try.prog 6 #[.slice A n cp] w fun r w' => r = .returned (.bool true) ∧ Below w.heap.size w w' := by
  have t1 : ((60 : Int) < (n : Int)) = False := by simp; omega
  have HAL := Lib.hid (ralive_any w)
  have hrun := doc_runP n Li 8 (by omega)
  have hde := doc_e n Li 8
  have hlen := item_length n Li 8
  have HDOC := Lib.hid (fun W (h : DLAt W W.heap.size A n Li) => doc_any A n cp Li 8 W h (by omega) (by omega) (cap16 8 (by omega)))
  have HLI := Lib.hid hL
  generalize (itemD n Li 8 0).1 = I at *
  have HALL1 := Lib.hid (fun W a c (h : Win W 35 5 (.slice a I.length c) I.length (evsC I)) => rall_win h rfl (by omega) (fun e he => ⟨(docE_small (hde e he)).1, Nat.le_trans (docE_small (hde e he)).2 (by decide)⟩))
  have HALL2 := Lib.hid (fun W a c (h : Win W 35 5 (.slice a I.length c) I.length (evsC (I.map openE))) => rall_win h (by simp) (by omega) (fun e he => by
    obtain ⟨x, hx, rfl⟩ := List.mem_map.1 he
    have := docE_small (docE_open (hde x hx)).1
    exact ⟨this.1, Nat.le_trans this.2 (by decide)⟩))
  have HOP : Hid (∀ W a c, Win W 35 5 (.slice a I.length c) I.length (evsC I) → Calls Try.prog 21 #[.slice a I.length c] W fun r w' => ∃ v, r = .returned v ∧ Made W w' v I.length (I.map openE)) := Lib.hid (fun W a c h => by
    have := dopen_any a I.length c (getE I) W (by omega) (evs_win h (Nat.le_refl _))
    rwa [pre_getE] at this)
  have hpos : 0 < I.length := by
    cases I with
    | nil => have := hrun.1; cases this
    | cons e l => simp
  obtain ⟨N, hN⟩ : ∃ N, I.length = N := ⟨_, rfl⟩
  have HN := Lib.hid hN
  obtain ⟨e0, l0, hI⟩ : ∃ e0 l0, I = e0 :: l0 := by
    cases I with
    | nil => simp at hpos
    | cons e l => exact ⟨e, l, rfl⟩
  have hge : getE I 0 = e0 := by rw [hI]; rfl
  have hm0 : mayE e0 := docE_may (hde e0 (by rw [hI]; simp))
  have HBAD := Lib.hid (fun h : e0.k = 5 ∨ e0.k = 6 => open_bad (l := l0) hm0 h)
  have HONE := Lib.hid (fun h : ¬ (e0.k = 5 ∨ e0.k = 6) => open_one (l := l0) (by rw [← hI]; exact hrun) h)
  rw [← hI] at HBAD HONE
  rw [hN] at HDOC HALL1 HALL2 HOP hlen hpos
  clear hL hrun hde hN hn hI hm0
  go_enter Try.func6, Try.ntmps6
  go_wp2_with fail
  refine HAL.out.mono ?_
  rintro e w1 ⟨rfl, b1⟩
  have B1 := Lib.hid b1
  have HL1 := Lib.hid (show DLAt w1 w1.heap.size A n Li from fun h0 => by
    obtain ⟨b, off, h1, h2, h3⟩ := HLI.out.below b1 h0
    exact ⟨b, off, h1, Nat.lt_of_lt_of_le h2 b1.size, h3⟩)
  clear b1
  go_wp2_with fail
  refine (HDOC.out _ HL1.out).mono ?_
  rintro r w2 ⟨v2, rfl, hM2⟩
  obtain ⟨a2, c2, rfl, _, _⟩ := hM2.2.1.slice_form
  have B2 := Lib.hid (up_trans B1.out hM2.1)
  have HM2 := Lib.hid hM2.2.1
  clear hM2
  go_wp2_with fail
  refine (HOP.out _ _ _ HM2.out).mono ?_
  rintro r w4 ⟨v4, rfl, hM4⟩
  obtain ⟨a4, c4, rfl, _, _⟩ := hM4.2.1.slice_form
  have B4 := Lib.hid (up_trans B2.out hM4.1)
  have HM24 := Lib.hid (HM2.out.keep fun k hk => hM4.1.block k (HM2.out.lt k hk))
  have HM4 := Lib.hid hM4.2.1
  clear hM4
  by_cases h56 : e0.k = 5 ∨ e0.k = 6
  · have HA2 := HALL2.out _ _ _ HM4.out
    rw [HBAD.out h56] at HA2
    have HA2 := Lib.hid HA2
    clear HALL1 HALL2 HBAD HONE
    go_wp2_with fail
    refine HA2.out.mono ?_
    rintro r w5 ⟨rfl, b5⟩
    have B5 := Lib.hid (up_trans B4.out b5)
    have HM5 := Lib.hid (evs_win (HM24.out.keep fun k hk => b5.block k (HM24.out.lt k hk)) (n := N) (by rw [HN.out]; exact Nat.le_refl _))
    clear b5
    obtain ⟨g, off, rfl, hgb, x0, x1, x2, x3, x4⟩ := HM5.out.cells hpos
    rw [hge] at x0
    simp only [Nat.zero_mul, Nat.add_zero] at x0
    clear x1 x2 x3 x4 hge
    obtain ⟨k', y', m', t', c'⟩ := e0
    simp only at x0 h56
    rcases h56 with rfl | rfl
    · go_wp2
      go_ret
      exact ⟨rfl, B5.out⟩
    · go_wp2
      go_ret
      exact ⟨rfl, B5.out⟩
  · obtain ⟨q1, q2⟩ := HONE.out h56
    rw [q1] at HALL2 HM4
    obtain ⟨S, hS⟩ : ∃ S : ByteArray, (⟨(allR ⟨[], false⟩ I).1.toArray⟩ : ByteArray) = S := ⟨_, rfl⟩
    rw [hS, q2] at HALL2 HALL1
    have HA2 := Lib.hid (HALL2.out _ _ _ HM4.out)
    have z5 : (e0.k == 5) = false := by rw [beq_eq_false_iff_ne]; omega
    have z6 : (e0.k == 6) = false := by rw [beq_eq_false_iff_ne]; omega
    have hz : (S.toList == S.toList) = true := by simp
    clear HALL2 HBAD HONE h56 q1 q2 hS
    go_wp2_with fail
    refine HA2.out.mono ?_
    rintro r w5 ⟨rfl, b5⟩
    have B5 := Lib.hid (up_trans B4.out b5)
    have HW5 := Lib.hid (HM24.out.keep fun k hk => b5.block k (HM24.out.lt k hk))
    have HM5 := Lib.hid (evs_win HW5.out (n := N) (by rw [HN.out]; exact Nat.le_refl _))
    have HA1 := Lib.hid (HALL1.out _ _ _ HW5.out)
    clear b5 HALL1
    obtain ⟨g, off, rfl, hgb, x0, x1, x2, x3, x4⟩ := HM5.out.cells hpos
    rw [hge] at x0
    simp only [Nat.zero_mul, Nat.add_zero] at x0
    clear x1 x2 x3 x4 hge
    obtain ⟨k', y', m', t', c'⟩ := e0
    simp only at x0 z5 z6
    go_wp2_with fail
    refine HA1.out.mono ?_
    rintro r w6 ⟨rfl, b6⟩
    have B6 := Lib.hid (up_trans B5.out b6)
    clear b6
    go_wp2
    go_ret
    exact ⟨by simp, B6.out⟩
set_option maxRecDepth 100000 in
set_option maxHeartbeats 2000000 in
theorem ropen_row (A : Option Addr) (n cp : Nat) (Li : Nat → Int) (w : World) (hL : DLAt w w.heap.size A n Li) :
    Calls Try.prog 6 #[.slice A n cp] w fun r w' => r = .returned (.bool true) ∧ Below w.heap.size w w' := by
  by_cases hn : n ≤ 60
  · exact ropen_in A n cp Li w hL hn
  · have t1 : ((60 : Int) < (n : Int)) = True := by simp; omega
    have HA := Lib.hid (ralive_any w)
    clear hL hn
    go_enter Try.func6, Try.ntmps6
    go_wp2_with fail
    refine HA.out.mono ?_
    rintro r w1 ⟨rfl, b1⟩
    have B1 := Lib.hid b1
    clear b1
    go_wp2
    go_ret
    exact ⟨rfl, B1.out⟩
end Go.Proofs.Ytonjdnahplphhaa
/-
  LAWS of chapter 16: PackoutEnds.
-/
namespace Go.Proofs.Ytonjdnahplphhaa
open Go.RowKit
open Go.Lib
/-- In the midst of a document, part by part: a Writer as Check's state. -/
structure REndI (w0 wr : World) (b : Nat) (L : List Ev) (j : Nat) (q : Kq) (F : List Nat) : Prop where
  jw : PoW w0 wr b F q
  st : q = ckQ (runC (.live []) (L.take j))
  dep : q.s.length ≤ j
theorem REndI.live {w0 wr : World} {b : Nat} {L : List Ev} {j : Nat} {q : Kq} {F : List Nat} (h : REndI w0 wr b L j q F) (hr : RunP L) (hj : j < L.length) :
    q.dn = false ∧ (stepR q L[j]).1.2 = 0 ∧ (stepR q L[j]).2 = ckQ (runC (.live []) (L.take (j + 1))) := by
  obtain ⟨s, hs, h1, h2⟩ := rlive_at hr hj
  have hq := h.st
  rw [hs] at hq
  subst hq
  exact ⟨rfl, h1, by rw [runC_take hj, hs]; exact h2⟩
theorem REndI.next {w0 wr w2 : World} {b : Nat} {L : List Ev} {j : Nat} {q : Kq} {F F2 : List Nat} (h : REndI w0 wr b L j q F) (hr : RunP L) (hj : j < L.length) (hw : PoW w0 w2 b F2 (stepR q L[j]).2) :
    REndI w0 w2 b L (j + 1) (stepR q L[j]).2 F2 := by
  refine ⟨hw, (h.live hr hj).2.2, ?_⟩
  have := rstep_len q L[j]
  have := h.dep
  omega
theorem REndI.over {w0 wr : World} {b : Nat} {L : List Ev} {j : Nat} {q : Kq} {F : List Nat} (h : REndI w0 wr b L j q F) (hr : RunP L) (hj : L.length ≤ j) : q = ⟨[], true⟩ := by
  have hq := h.st
  rw [List.take_of_length_le hj, hr.1] at hq
  exact hq
set_option maxRecDepth 100000 in
set_option maxHeartbeats 8000000 in
theorem rends_in (A : Option Addr) (n cp : Nat) (Li : Nat → Int) (e : Ev) (hok : EvOk e) (w : World) (hT : NoTaR w) (hL : DLAt w w.heap.size A n Li) (hn : n ≤ 50) (ht : e.t.size ≤ 100) :
    Calls Try.prog 5 #[.slice A n cp, evV e] w fun r w' => r = .returned (.bool true) ∧ Below w.heap.size w w' := by
  have t1 : ((50 : Int) < (n : Int)) = False := by simp; omega
  have t2 : ((100 : Int) < (e.t.size : Int)) = False := by simp; omega
  have HA : Hid (∀ X, Calls Try.prog 10 #[] (w.alloc X) fun r w' => r = .returned (.bool true) ∧ Below (w.alloc X).heap.size (w.alloc X) w') := Lib.hid (fun X => roalive_any _ (hT.alloc X))
  have HO := Lib.hid (fun W => of_any e W)
  have hrun := doc_runP n Li 6 (by omega)
  have hde := doc_e n Li 6
  have hlen := item_length n Li 6
  have HDOC := Lib.hid (fun W (h : DLAt W W.heap.size A n Li) => doc_any A n cp Li 6 W h (by omega) (by omega) (cap16 6 (by omega)))
  have HLI := Lib.hid hL
  generalize (itemD n Li 6 0).1 = I at *
  have HRUN := Lib.hid hrun
  have HDE := Lib.hid hde
  obtain ⟨N, hN⟩ : ∃ N, I.length = N := ⟨_, rfl⟩
  rw [hN] at HDOC hlen
  have HN := Lib.hid hN
  have hN482 : N ≤ 482 := by omega
  have HT : Hid (∀ X, NoTaR (w.alloc X)) := Lib.hid (fun X => hT.alloc X)
  have HFIN := Lib.hid (fun (X : Obj) W' (k : Below (w.alloc X).heap.size (w.alloc X) W') => up_trans (up_alloc (Below.refl w.heap.size w) X) k)
  have hq2 : mayE e → stepR ⟨[], true⟩ e = (([], 14), ⟨[], true⟩) := fun hm => stepR_bad ⟨[], true⟩ e (.inr rfl)
  have H2 : Hid (∀ (hm : mayE e) (U W : World) b F (hU : NoTaR U) (h : PoW U W b F ⟨[], true⟩), Calls Try.prog 12 #[.pointer (some ⟨b, 0, none⟩), valE e] W fun r w' => r = .returned (.tuple #[.string ⟨#[]⟩, .int .i64 14]) ∧ ∃ F', PoW U w' b F' ⟨[], true⟩ ∧ Jf b 0 F F' W w') :=
    Lib.hid (fun hm U W b F hU h => pow_to h hU (by simp) e hm hok (by omega) (hq2 hm) (v := valE e) rfl)
  have HEV : Hid (evV e = evV e) := Lib.hid rfl
  have hdec : (decide (mayE e) = true) ∨ (decide (mayE e) = false) := by cases decide (mayE e) <;> simp
  obtain ⟨V, hV⟩ : ∃ V, valE e = V := ⟨_, rfl⟩
  by_cases hm : mayE e
  · rw [if_pos hm, decide_eq_true hm, hV] at HO
    have H3 := Lib.hid (H2.out hm)
    rw [hV] at H3
    obtain ⟨k, y, m, t, c⟩ := e
    simp only [evV] at *
    have E0 := Lib.hid (blk_new w #[.int .i64 k, .bool y, .int .u64 m, .string t, .int .i64 c] 35)
    clear hT hrun hde hlen hN hL hn hok hq2 H2 hdec hV hm HEV ht
    go_enter Try.func5, Try.ntmps5
    go_wp2_with fail
    refine (HA.out _).mono ?_
    rintro r w1 ⟨rfl, b1⟩
    have B1 := Lib.hid b1
    have HL1 := Lib.hid (show DLAt w1 w1.heap.size A n Li from fun h0 => by
      obtain ⟨b, off, h1, h2, h3⟩ := HLI.out.below (up_trans (up_alloc (Below.refl _ _) _) b1) h0
      exact ⟨b, off, h1, Nat.lt_of_lt_of_le h2 (up_trans (up_alloc (Below.refl w.heap.size w) _) b1).size, h3⟩)
    clear b1
    go_wp2_with fail
    refine (HDOC.out _ HL1.out).mono ?_
    rintro r w2 ⟨v2, rfl, hM2⟩
    obtain ⟨a2, c2, rfl, _, _⟩ := hM2.2.1.slice_form
    have B2 := Lib.hid (up_trans B1.out hM2.1)
    have HE2 := Lib.hid (evs_win hM2.2.1 (n := N) (by rw [HN.out]; exact Nat.le_refl _))
    clear hM2
    have BW := Lib.hid (up_trans (up_alloc (Below.refl w.heap.size w) (.cells #[.int .i64 k, .bool y, .int .u64 m, .string t, .int .i64 c] 35)) B2.out)
    have TW := Lib.hid ((HT.out (.cells #[.int .i64 k, .bool y, .int .u64 m, .string t, .int .i64 c] 35)).below B2.out)
    have E2 := Lib.hid (E0.out.go B2.out)
    have H0 : Hid (REndI w2 (w2.alloc (.cells #[.slice none 0 0, .bool false] 28)) w2.heap.size I 0 ⟨[], false⟩ []) := Lib.hid ⟨pow_new _ w2 (Below.refl _ _), rfl, by simp⟩
    clear E0 B1 B2 HL1
    go_wp2
    go_loopw [7, 8, 9, 10, 11, 36] (fun _ _ _ _ _ i wr => ∃ (j : Nat) (q : Kq) (F : List Nat), i = .int .i64 j ∧ j ≤ N ∧ Hid (REndI w2 wr w2.heap.size I j q F)) (fun _ _ _ _ _ i _ => N - (RowKit.intOf i).toNat)
    case atStart => exact ⟨0, _, _, rfl, by omega, H0⟩
    case round =>
      obtain ⟨j, q, F, rfl, hj, HI⟩ := hrel
      clear H0
      by_cases hlt : j < N
      · have hjL : j < I.length := by rw [HN.out]; exact hlt
        obtain ⟨l1, l2, l3⟩ := HI.out.live HRUN.out hjL
        have hE := HDE.out _ (List.getElem_mem hjL)
        have HD := Lib.hid (doneR HI.out.jw.at_)
        rw [l1] at HD
        have HS : Hid (∀ W', Below wr.heap.size wr W' → Calls Try.prog 12 #[.pointer (some ⟨w2.heap.size, 0, none⟩), valE I[j]] W' fun r w' => r = .returned (.tuple #[.string ⟨(stepR q I[j]).1.1.toArray⟩, .int .i64 0]) ∧ ∃ F', REndI w2 w' w2.heap.size I (j + 1) (stepR q I[j]).2 F') := Lib.hid (fun W' kb => by
          have hs := pov_step (HI.out.jw.go kb) TW.out (by have := HI.out.dep; omega) I[j] (docE_may hE) (docE_small hE).1 (docE_small hE).2
          rw [l2] at hs
          refine hs.mono ?_
          rintro r w' ⟨h1, F', h2, h3⟩
          exact ⟨h1, F', HI.out.next HRUN.out hjL h2⟩)
        have HOj := Lib.hid (fun W => of_any I[j] W)
        rw [if_pos (docE_may hE), decide_eq_true (docE_may hE)] at HOj
        obtain ⟨g, off, rfl, hgb, x0, x1, x2, x3, x4⟩ := (HE2.out.below HI.out.jw.bel).cells hlt
        have hge : getE I j = I[j] := by simp [getE, hjL]
        rw [hge] at x0 x1 x2 x3 x4
        have hgb2 : g < wr.heap.size := Nat.lt_of_lt_of_le hgb HI.out.jw.bel.size
        generalize valE I[j] = Vj at *
        generalize (⟨(stepR q I[j]).1.1.toArray⟩ : ByteArray) = Zj at *
        generalize (stepR q I[j]).2 = qj at *
        generalize I[j] = ej at *
        obtain ⟨k', y', m', t', c'⟩ := ej
        simp only [evV] at x0 x1 x2 x3 x4 HOj
        clear l1 l2 l3 hE hge hgb hjL
        go_wp2_with fail
        refine HD.out.mono ?_
        rintro r w3 ⟨rfl, rfl⟩
        go_wp2_with fail
        refine (HOj.out _).mono ?_
        rintro r w4 ⟨rfl, b4⟩
        have B4 := Lib.hid b4
        clear b4
        go_wp2_with fail
        refine (HS.out _ B4.out).mono ?_
        rintro r w5 ⟨rfl, F5, h5⟩
        have H5 := Lib.hid h5
        clear h5
        go_wp2
        go_roundw
        case rel => exact ⟨j + 1, _, _, rfl, hlt, H5⟩
        case measure => simp [RowKit.intOf]; omega
      · obtain rfl : j = N := by omega
        have hq := HI.out.over HRUN.out (by rw [HN.out]; exact Nat.le_refl _)
        subst hq
        obtain ⟨⟨z0, z1, z2, z3, z4⟩, ⟨y0, y1, y2, y3, y4⟩⟩ := (E2.out.go HI.out.jw.bel).ev
        go_wp2_with fail
        refine (HO.out _).mono ?_
        rintro r w3 ⟨rfl, b3⟩
        have J3 := Lib.hid (HI.out.jw.go b3)
        clear b3 z0 z1 z2 z3 z4 y0 y1 y2 y3 y4
        go_wp2_with fail
        refine (H3.out _ _ _ _ TW.out J3.out).mono ?_
        rintro r w4 ⟨rfl, F4, j4, _⟩
        have J4 := Lib.hid j4
        clear j4
        go_wp2_with fail
        refine (doneR J4.out.at_).mono ?_
        rintro r w5 ⟨rfl, rfl⟩
        go_wp2
        go_ret
        exact ⟨rfl, up_trans BW.out J4.out.bel⟩
  · rw [if_neg hm, decide_eq_false hm] at HO
    obtain ⟨k, y, m, t, c⟩ := e
    simp only [evV] at *
    have E0 := Lib.hid (blk_new w #[.int .i64 k, .bool y, .int .u64 m, .string t, .int .i64 c] 35)
    clear hT hrun hde hlen hN hL hn hok hq2 H2 hdec hV hm HEV ht V
    go_enter Try.func5, Try.ntmps5
    go_wp2_with fail
    refine (HA.out _).mono ?_
    rintro r w1 ⟨rfl, b1⟩
    have B1 := Lib.hid b1
    have HL1 := Lib.hid (show DLAt w1 w1.heap.size A n Li from fun h0 => by
      obtain ⟨b, off, h1, h2, h3⟩ := HLI.out.below (up_trans (up_alloc (Below.refl _ _) _) b1) h0
      exact ⟨b, off, h1, Nat.lt_of_lt_of_le h2 (up_trans (up_alloc (Below.refl w.heap.size w) _) b1).size, h3⟩)
    clear b1
    go_wp2_with fail
    refine (HDOC.out _ HL1.out).mono ?_
    rintro r w2 ⟨v2, rfl, hM2⟩
    obtain ⟨a2, c2, rfl, _, _⟩ := hM2.2.1.slice_form
    have B2 := Lib.hid (up_trans B1.out hM2.1)
    have HE2 := Lib.hid (evs_win hM2.2.1 (n := N) (by rw [HN.out]; exact Nat.le_refl _))
    clear hM2
    have BW := Lib.hid (up_trans (up_alloc (Below.refl w.heap.size w) (.cells #[.int .i64 k, .bool y, .int .u64 m, .string t, .int .i64 c] 35)) B2.out)
    have TW := Lib.hid ((HT.out (.cells #[.int .i64 k, .bool y, .int .u64 m, .string t, .int .i64 c] 35)).below B2.out)
    have E2 := Lib.hid (E0.out.go B2.out)
    have H0 : Hid (REndI w2 (w2.alloc (.cells #[.slice none 0 0, .bool false] 28)) w2.heap.size I 0 ⟨[], false⟩ []) := Lib.hid ⟨pow_new _ w2 (Below.refl _ _), rfl, by simp⟩
    clear E0 B1 B2 HL1
    go_wp2
    go_loopw [7, 8, 9, 10, 11, 36] (fun _ _ _ _ _ i wr => ∃ (j : Nat) (q : Kq) (F : List Nat), i = .int .i64 j ∧ j ≤ N ∧ Hid (REndI w2 wr w2.heap.size I j q F)) (fun _ _ _ _ _ i _ => N - (RowKit.intOf i).toNat)
    case atStart => exact ⟨0, _, _, rfl, by omega, H0⟩
    case round =>
      obtain ⟨j, q, F, rfl, hj, HI⟩ := hrel
      clear H0
      by_cases hlt : j < N
      · have hjL : j < I.length := by rw [HN.out]; exact hlt
        obtain ⟨l1, l2, l3⟩ := HI.out.live HRUN.out hjL
        have hE := HDE.out _ (List.getElem_mem hjL)
        have HD := Lib.hid (doneR HI.out.jw.at_)
        rw [l1] at HD
        have HS : Hid (∀ W', Below wr.heap.size wr W' → Calls Try.prog 12 #[.pointer (some ⟨w2.heap.size, 0, none⟩), valE I[j]] W' fun r w' => r = .returned (.tuple #[.string ⟨(stepR q I[j]).1.1.toArray⟩, .int .i64 0]) ∧ ∃ F', REndI w2 w' w2.heap.size I (j + 1) (stepR q I[j]).2 F') := Lib.hid (fun W' kb => by
          have hs := pov_step (HI.out.jw.go kb) TW.out (by have := HI.out.dep; omega) I[j] (docE_may hE) (docE_small hE).1 (docE_small hE).2
          rw [l2] at hs
          refine hs.mono ?_
          rintro r w' ⟨h1, F', h2, h3⟩
          exact ⟨h1, F', HI.out.next HRUN.out hjL h2⟩)
        have HOj := Lib.hid (fun W => of_any I[j] W)
        rw [if_pos (docE_may hE), decide_eq_true (docE_may hE)] at HOj
        obtain ⟨g, off, rfl, hgb, x0, x1, x2, x3, x4⟩ := (HE2.out.below HI.out.jw.bel).cells hlt
        have hge : getE I j = I[j] := by simp [getE, hjL]
        rw [hge] at x0 x1 x2 x3 x4
        have hgb2 : g < wr.heap.size := Nat.lt_of_lt_of_le hgb HI.out.jw.bel.size
        generalize valE I[j] = Vj at *
        generalize (⟨(stepR q I[j]).1.1.toArray⟩ : ByteArray) = Zj at *
        generalize (stepR q I[j]).2 = qj at *
        generalize I[j] = ej at *
        obtain ⟨k', y', m', t', c'⟩ := ej
        simp only [evV] at x0 x1 x2 x3 x4 HOj
        clear l1 l2 l3 hE hge hgb hjL
        go_wp2_with fail
        refine HD.out.mono ?_
        rintro r w3 ⟨rfl, rfl⟩
        go_wp2_with fail
        refine (HOj.out _).mono ?_
        rintro r w4 ⟨rfl, b4⟩
        have B4 := Lib.hid b4
        clear b4
        go_wp2_with fail
        refine (HS.out _ B4.out).mono ?_
        rintro r w5 ⟨rfl, F5, h5⟩
        have H5 := Lib.hid h5
        clear h5
        go_wp2
        go_roundw
        case rel => exact ⟨j + 1, _, _, rfl, hlt, H5⟩
        case measure => simp [RowKit.intOf]; omega
      · obtain rfl : j = N := by omega
        have hq := HI.out.over HRUN.out (by rw [HN.out]; exact Nat.le_refl _)
        subst hq
        obtain ⟨⟨z0, z1, z2, z3, z4⟩, ⟨y0, y1, y2, y3, y4⟩⟩ := (E2.out.go HI.out.jw.bel).ev
        go_wp2_with fail
        refine (HO.out _).mono ?_
        rintro r w3 ⟨rfl, b3⟩
        have J3 := Lib.hid (HI.out.jw.go b3)
        clear b3 z0 z1 z2 z3 z4 y0 y1 y2 y3 y4
        go_wp2_with fail
        refine (doneR J3.out.at_).mono ?_
        rintro r w5 ⟨rfl, rfl⟩
        go_wp2
        go_ret
        exact ⟨rfl, up_trans BW.out J3.out.bel⟩
set_option maxRecDepth 100000 in
set_option maxHeartbeats 2000000 in
theorem rends_row (A : Option Addr) (n cp : Nat) (Li : Nat → Int) (e : Ev) (w : World) (hT : NoTaR w) (hL : DLAt w w.heap.size A n Li) (hok : EvOk e) :
    Calls Try.prog 5 #[.slice A n cp, evV e] w fun r w' => r = .returned (.bool true) ∧ Below w.heap.size w w' := by
  have HA : Hid (∀ X, Calls Try.prog 10 #[] (w.alloc X) fun r w' => r = .returned (.bool true) ∧ Below w.heap.size w w') := Lib.hid (fun X => (roalive_any _ (hT.alloc X)).mono (by
    rintro r w' ⟨h1, h2⟩
    exact ⟨h1, up_trans (up_alloc (Below.refl _ _) X) h2⟩))
  by_cases h1 : n ≤ 50
  · by_cases h2 : e.t.size ≤ 100
    · exact rends_in A n cp Li e hok w hT hL h1 h2
    · have c1 : ((50 : Int) < (n : Int)) = False := by simp; omega
      have c2 : ((100 : Int) < (e.t.size : Int)) = True := by simp; omega
      obtain ⟨k, y, m, t, c⟩ := e
      simp only [evV] at *
      clear hT hok h1 h2 hL
      go_enter Try.func5, Try.ntmps5
      go_wp2_with fail
      refine (HA.out _).mono ?_
      rintro r w1 ⟨rfl, b1⟩
      have B1 := Lib.hid b1
      clear b1
      go_wp2
      go_ret
      exact ⟨rfl, B1.out⟩
  · have c1 : ((50 : Int) < (n : Int)) = True := by simp; omega
    obtain ⟨k, y, m, t, c⟩ := e
    simp only [evV] at *
    clear hT hok h1 hL
    go_enter Try.func5, Try.ntmps5
    go_wp2_with fail
    refine (HA.out _).mono ?_
    rintro r w1 ⟨rfl, b1⟩
    have B1 := Lib.hid b1
    clear b1
    go_wp2
    go_ret
    exact ⟨rfl, B1.out⟩
end Go.Proofs.Ytonjdnahplphhaa
/-
  TwoR Writers beside each other; the document's own Writer beside them.
-/
namespace Go.Proofs.Ytonjdnahplphhaa
open Go.RowKit
open Go.Lib
/-- TwoR Writers of their own blocks. -/
structure TwoR (w0 w : World) (b1 b2 : Nat) (F1 F2 : List Nat) (q1 q2 : Kq) : Prop where
  one : PoW w0 w b1 F1 q1
  two : PoW w0 w b2 F2 q2
  ne : b1 ≠ b2
  dis : ∀ k ∈ F2, k ∉ F1
theorem PoW.not_row {w0 w : World} {b b' : Nat} {F F' : List Nat} {q q' : Kq} (h : PoW w0 w b F q) (h' : PoW w0 w b' F' q') : b ∉ F' := by
  intro hb
  obtain ⟨_, _, cur, hc⟩ := h'.at_.row b hb
  obtain ⟨cs, fr, hc'⟩ := h.typ
  rw [hc] at hc'
  have : (115 : Nat) = 28 := by injection hc' with hc'; injection hc'
  exact absurd this (by decide)
theorem TwoR.go {w0 w w' : World} {b1 b2 : Nat} {F1 F2 : List Nat} {q1 q2 : Kq} (h : TwoR w0 w b1 b2 F1 F2 q1 q2) (k : Below w.heap.size w w') : TwoR w0 w' b1 b2 F1 F2 q1 q2 := ⟨h.one.go k, h.two.go k, h.ne, h.dis⟩
theorem rstays_beside {w0 w w' : World} {b1 b2 : Nat} {F1 F1' F2 : List Nat} {q1 q2 : Kq} (h1 : PoW w0 w b1 F1 q1) (h2 : PoW w0 w b2 F2 q2) (ne : b1 ≠ b2) (dis : ∀ k ∈ F2, k ∉ F1) (k : Jf b1 0 F1 F1' w w') : PoW w0 w' b2 F2 q2 ∧ (∀ k ∈ F2, k ∉ F1') := by
  have keep : ∀ i, i = b2 ∨ i ∈ F2 → w'.heap[i]? = w.heap[i]? := by
    intro i hi
    refine k.step.block i ?_ ?_
    · rcases hi with rfl | hi
      · exact h2.at_.lt
      · exact (h2.at_.row i hi).1
    · intro hm
      rcases List.mem_cons.1 hm with e | hm
      · rcases hi with rfl | hi
        · exact ne e.symm
        · subst e
          exact h1.not_row h2 hi
      · rcases hi with rfl | hi
        · exact h2.not_row h1 hm
        · exact dis i hi hm
  obtain ⟨cs, fr, hc⟩ := h2.typ
  refine ⟨⟨h2.at_.keep keep, h2.lo, h2.row, h2.bel.trans (k.below h1.lo h1.row h1.bel.size), cs, fr, (keep b2 (.inl rfl)).trans hc⟩, fun i hi hF => ?_⟩
  rcases k.step.foot i (List.mem_cons_of_mem _ hF) with hm | hm
  · rcases List.mem_cons.1 hm with e | hm
    · subst e
      exact h1.not_row h2 hi
    · exact dis i hi hm
  · have := (h2.at_.row i hi).1
    omega
theorem TwoR.left {w0 w w' : World} {b1 b2 : Nat} {F1 F1' F2 : List Nat} {q1 q1' q2 : Kq} (h : TwoR w0 w b1 b2 F1 F2 q1 q2) (hj : PoW w0 w' b1 F1' q1') (k : Jf b1 0 F1 F1' w w') : TwoR w0 w' b1 b2 F1' F2 q1' q2 := by
  obtain ⟨h1, h2⟩ := rstays_beside h.one h.two h.ne h.dis k
  exact ⟨hj, h1, h.ne, h2⟩
theorem TwoR.right {w0 w w' : World} {b1 b2 : Nat} {F1 F2 F2' : List Nat} {q1 q2 q2' : Kq} (h : TwoR w0 w b1 b2 F1 F2 q1 q2) (hj : PoW w0 w' b2 F2' q2') (k : Jf b2 0 F2 F2' w w') : TwoR w0 w' b1 b2 F1 F2' q1 q2' := by
  obtain ⟨h1, h2⟩ := rstays_beside h.two h.one (fun e => h.ne e.symm) (fun k h1 h2 => h.dis k h2 h1) k
  exact ⟨h1, hj, h.ne, fun k hk hF => h2 k hF hk⟩
theorem twor_new (w : World) : TwoR w ((w.alloc (.cells #[.slice none 0 0, .bool false] 28)).alloc (.cells #[.slice none 0 0, .bool false] 28)) w.heap.size (w.heap.size + 1) [] [] ⟨[], false⟩ ⟨[], false⟩ := by
  have h2 := pow_new w (w.alloc (.cells #[.slice none 0 0, .bool false] 28)) (up_alloc (Below.refl _ _) _)
  have e : (w.alloc (.cells #[.slice none 0 0, .bool false] 28)).heap.size = w.heap.size + 1 := by simp
  rw [e] at h2
  exact ⟨(pow_new w w (Below.refl _ _)).go (up_alloc (Below.refl _ _) _), h2, by omega, fun k hk => by simp at hk⟩
/-- The document's own Writer in the midst of a document. -/
structure RPrI (w5 wq : World) (L : List Ev) (i : Nat) (q : Kq) : Prop where
  wr : WpAt i 0 wq w5.heap.size q.s q.dn
  st : q = ckQ (runC (.live []) (L.take i))
  dep : q.s.length ≤ i
  bel : Below w5.heap.size w5 wq
theorem rpr_new (w : World) (L : List Ev) : RPrI w (w.alloc (.cells #[.int .i64 3, .slice none 0 0, .bool false] 32)) L 0 ⟨[], false⟩ :=
  ⟨⟨⟨⟨none, 0, jat_block (heap_alloc_new w _), ⟨Win.nil_ _ _ _, fun k hk => by simp [Value.owner] at hk, fun b hb => by simp at hb, by simp, by omega⟩⟩, ⟨_, heap_alloc_new w _⟩, Nat.zero_le _⟩, fun x hx => by simp at hx⟩, rfl, by simp, up_alloc (Below.refl _ _) _⟩
theorem RPrI.go {w5 wq w' : World} {L : List Ev} {i : Nat} {q : Kq} (h : RPrI w5 wq L i q) (k : Below wq.heap.size wq w') : RPrI w5 w' L i q := ⟨h.wr.go k, h.st, h.dep, h.bel.trans (k.mono h.bel.size)⟩
theorem RPrI.step {w5 wq : World} {L : List Ev} {i : Nat} {q : Kq} (h : RPrI w5 wq L i q) (hr : RunP L) (hi : i < L.length) (hi9 : i ≤ 700) (hde : DocE L[i]) :
    Calls Try.prog 13 #[.pointer (some ⟨w5.heap.size, 0, none⟩), evV L[i]] wq fun r w' => ∃ v, r = .returned v ∧ RPrI w5 w' L (i + 1) (stepR q L[i]).2 := by
  obtain ⟨s, hs, h1, h2⟩ := rlive_at hr hi
  have hq := h.st
  rw [hs] at hq
  subst hq
  refine (wp_part h.wr (by omega) (by have := h.dep; omega) L[i] (docE_small hde).1 (docE_small hde).2).mono ?_
  rintro r w' ⟨e1, e2, e3⟩
  refine ⟨_, e1, e2, ?_, ?_, h.bel.trans (e3.below h.bel.size (Nat.le_refl _))⟩
  · rw [runC_take hi, hs]
    exact h2
  · have := rstep_len (ckQ (.live s)) L[i]
    have := h.dep
    omega
/-- What it tells of another part. -/
theorem RPrI.tells {w5 wq : World} {L : List Ev} {i : Nat} {q : Kq} (h : RPrI w5 wq L i q) (hi9 : i ≤ 700) (e : Ev) (hok : EvOk e) (ht : e.t.size ≤ 1000) :
    Calls Try.prog 13 #[.pointer (some ⟨w5.heap.size, 0, none⟩), evV (tidyE e)] wq fun r w' => ∃ Z : ByteArray, r = .returned (.tuple #[.string Z, .int .i64 ((stepR q e).1.2 : Nat)]) ∧ Below w5.heap.size w5 w' := by
  obtain ⟨h1, h2⟩ := tidy_ok hok ht
  have := wp_part h.wr (by omega) (by have := h.dep; omega) (tidyE e) h1 h2
  rw [stepR_tidy] at this
  refine this.mono ?_
  rintro r w' ⟨e1, e2, e3⟩
  exact ⟨_, e1, h.bel.trans (e3.below h.bel.size (Nat.le_refl _))⟩
/-- In the midst of the law. -/
structure RRefI (w0 wr : World) (L : List Ev) (j : Nat) (q : Kq) (F1 F2 : List Nat) : Prop where
  two : TwoR w0 wr w0.heap.size (w0.heap.size + 1) F1 F2 q q
  st : q = ckQ (runC (.live []) (L.take j))
  dep : q.s.length ≤ j
theorem RRefI.go {w0 wr w' : World} {L : List Ev} {j : Nat} {q : Kq} {F1 F2 : List Nat} (h : RRefI w0 wr L j q F1 F2) (k : Below wr.heap.size wr w') : RRefI w0 w' L j q F1 F2 := ⟨h.two.go k, h.st, h.dep⟩
theorem RRefI.live {w0 wr : World} {L : List Ev} {j : Nat} {q : Kq} {F1 F2 : List Nat} (h : RRefI w0 wr L j q F1 F2) (hr : RunP L) (hj : j < L.length) :
    q.dn = false ∧ (stepR q L[j]).1.2 = 0 ∧ (stepR q L[j]).2 = ckQ (runC (.live []) (L.take (j + 1))) := by
  obtain ⟨s, hs, h1, h2⟩ := rlive_at hr hj
  have hq := h.st
  rw [hs] at hq
  subst hq
  exact ⟨rfl, h1, by rw [runC_take hj, hs]; exact h2⟩
theorem RRefI.over {w0 wr : World} {L : List Ev} {j : Nat} {q : Kq} {F1 F2 : List Nat} (h : RRefI w0 wr L j q F1 F2) (hr : RunP L) (hj : L.length ≤ j) : q = ⟨[], true⟩ := by
  have hq := h.st
  rw [List.take_of_length_le hj, hr.1] at hq
  exact hq
end Go.Proofs.Ytonjdnahplphhaa
/-
  A Writer and the document's own beside each other, part by part; the document's own over all parts.
-/
namespace Go.Proofs.Ytonjdnahplphhaa
open Go.RowKit
open Go.Lib
theorem WpAt.off {M b : Nat} {w w' : World} {s : List Bx} {dn : Bool} {ts : List Nat} (h : WpAt M 0 w b s dn) (k : Off ts w w') (h1 : 32 ∉ ts) (h2 : 73 ∉ ts) : WpAt M 0 w' b s dn := by
  obtain ⟨a, cp, hA, hS⟩ := h.cells
  obtain ⟨cs, hc⟩ := h.blk
  have hb := k _ _ _ _ hc h1
  refine ⟨⟨⟨a, cp, hA.keep (hb.trans hc.symm), ⟨hS.win.keep fun i hi => ?_, hS.vB, hS.ok, hS.deep, hS.most⟩⟩, ⟨cs, hb⟩, Nat.zero_le _⟩, h.cnt⟩
  obtain ⟨cur, hr⟩ := hS.win.typed i hi
  rw [hr, k _ _ _ _ hr h2]
theorem PoW.beside {w0 w w' : World} {b br : Nat} {F : List Nat} {q : Kq} {cs : Array Value} (h : PoW w0 w b F q) (k : Bew w.heap.size br w w') (hr : w.heap[br]? = some (.cells cs 32 (0, 0))) (hlo : w0.heap.size ≤ br) : PoW w0 w' b F q := by
  obtain ⟨c1, fr, hc⟩ := h.typ
  have keep : ∀ i, i = b ∨ i ∈ F → w'.heap[i]? = w.heap[i]? := by
    intro i hi
    have hlt : i < w.heap.size := by
      rcases hi with rfl | hi
      · exact h.at_.lt
      · exact (h.at_.row i hi).1
    refine k.block i hlt ?_
    intro e
    subst e
    rcases hi with e | hi
    · subst e
      rw [hr] at hc
      have : (32 : Nat) = 28 := by injection hc with hc; injection hc
      exact absurd this (by decide)
    · obtain ⟨_, _, cur, hx⟩ := h.at_.row i hi
      rw [hr] at hx
      have : (32 : Nat) = 115 := by injection hx with hx; injection hx
      exact absurd this (by decide)
  exact ⟨h.at_.keep keep, h.lo, h.row, h.bel.trans (k.below h.bel.size hlo), c1, fr, (keep b (.inl rfl)).trans hc⟩
/-- In the midst of the first loop. -/
structure RTelI (w0 wr : World) (j : Nat) (q : Kq) (F : List Nat) : Prop where
  jw : PoW w0 wr w0.heap.size F q
  rf : WpAt j 0 wr (w0.heap.size + 1) q.s q.dn
  dep : q.s.length ≤ j
theorem RTelI.go {w0 wr w' : World} {j : Nat} {q : Kq} {F : List Nat} (h : RTelI w0 wr j q F) (k : Below wr.heap.size wr w') : RTelI w0 w' j q F := ⟨h.jw.go k, h.rf.go k, h.dep⟩
theorem rtel_new (w : World) : RTelI w ((w.alloc (.cells #[.slice none 0 0, .bool false] 28)).alloc (.cells #[.int .i64 3, .slice none 0 0, .bool false] 32)) 0 ⟨[], false⟩ [] := by
  refine ⟨(pow_new w w (Below.refl _ _)).go (up_alloc (Below.refl _ _) _), ?_, by simp⟩
  have h := (rpr_new (w.alloc (.cells #[.slice none 0 0, .bool false] 28)) []).wr
  have e : (w.alloc (.cells #[.slice none 0 0, .bool false] 28)).heap.size = w.heap.size + 1 := by simp
  rw [e] at h
  exact h
/-- The Writer has stepped; the document's own has not yet. -/
structure RTelH (w0 wr : World) (j : Nat) (q q' : Kq) (F : List Nat) : Prop where
  jw : PoW w0 wr w0.heap.size F q'
  rf : WpAt j 0 wr (w0.heap.size + 1) q.s q.dn
  dep : q.s.length ≤ j ∧ q'.s.length ≤ j + 1
theorem RTelH.go {w0 wr w' : World} {j : Nat} {q q' : Kq} {F : List Nat} (h : RTelH w0 wr j q q' F) (k : Below wr.heap.size wr w') : RTelH w0 w' j q q' F := ⟨h.jw.go k, h.rf.go k, h.dep⟩
theorem RTelI.half {w0 wr w' : World} {j : Nat} {q q' : Kq} {F F' : List Nat} (h : RTelI w0 wr j q F) (hj : PoW w0 w' w0.heap.size F' q') (k : Jf w0.heap.size 0 F F' wr w') (hd : q'.s.length ≤ q.s.length + 1) : RTelH w0 w' j q q' F' :=
  ⟨hj, h.rf.off (h.jw.off k) (by decide) (by decide), h.dep, Nat.le_trans hd (Nat.succ_le_succ h.dep)⟩
theorem RTelI.step {w0 wr : World} {j : Nat} {q : Kq} {F : List Nat} (h : RTelI w0 wr j q F) (hT : NoTaR w0) (hj : j ≤ 700) (e : Ev) (hm : mayE e) (hok : EvOk e) (ht : e.t.size ≤ 1000) :
    Calls Try.prog 12 #[.pointer (some ⟨w0.heap.size, 0, none⟩), valE e] wr fun r w' => r = .returned (.tuple #[.string ⟨(stepR q e).1.1.toArray⟩, .int .i64 ((stepR q e).1.2 : Nat)]) ∧ ∃ F', RTelH w0 w' j q (stepR q e).2 F' := by
  refine (pov_step h.jw hT (by have := h.dep; omega) e hm hok ht).mono ?_
  rintro r w' ⟨h1, F', h2, h3⟩
  exact ⟨h1, F', h.half h2 h3 (rstep_len q e)⟩
theorem RTelI.noPart {w0 wr : World} {j : Nat} {q : Kq} {F : List Nat} (h : RTelI w0 wr j q F) (e : Ev) (hm : ¬ mayE e) (v : Value) (hP : ∀ W, Calls Try.prog 39 #[v] W fun r w' => r = .returned (.tuple #[evV evZ, .bool false]) ∧ Below W.heap.size W w') :
    Calls Try.prog 12 #[.pointer (some ⟨w0.heap.size, 0, none⟩), v] wr fun r w' => r = .returned (.tuple #[.string ⟨(stepR q e).1.1.toArray⟩, .int .i64 ((stepR q e).1.2 : Nat)]) ∧ ∃ F', RTelH w0 w' j q (stepR q e).2 F' := by
  rw [stepR_bad q e (.inl hm)]
  refine (ro_other h.jw.at_ v evZ hP).mono ?_
  rintro r w' ⟨h1, h2, h3⟩
  exact ⟨h1, F, h.half (h.jw.next h2 h3) h3 (Nat.le_succ _)⟩
theorem RTelH.step {w0 wr : World} {j : Nat} {q : Kq} {F : List Nat} (e : Ev) (h : RTelH w0 wr j q (stepR q e).2 F) (hj : j ≤ 700) (hok : EvOk e) (ht : e.t.size ≤ 1000) :
    Calls Try.prog 13 #[.pointer (some ⟨w0.heap.size + 1, 0, none⟩), evV (tidyE e)] wr fun r w' => r = .returned (.tuple #[.string ⟨(stepR q e).1.1.toArray⟩, .int .i64 ((stepR q e).1.2 : Nat)]) ∧ RTelI w0 w' (j + 1) (stepR q e).2 F := by
  obtain ⟨h1, h2⟩ := tidy_ok hok ht
  have := wp_part h.rf (by omega) (by have := h.dep; omega) (tidyE e) h1 h2
  rw [stepR_tidy] at this
  refine this.mono ?_
  rintro r w' ⟨e1, e2, e3⟩
  obtain ⟨cs, hcs⟩ := h.rf.blk
  exact ⟨e1, h.jw.beside e3 hcs (by omega), e2, h.dep.2⟩
/-- The document's own Writer over all parts, in the midst. -/
structure RTelJ (w5 wr : World) (L : List Ev) (j : Nat) (q : Kq) (acc : List UInt8) : Prop where
  rf : WpAt j 0 wr w5.heap.size q.s q.dn
  bel : Below w5.heap.size w5 wr
  eq : allR ⟨[], false⟩ L = (acc ++ (allR q (L.drop j)).1, (allR q (L.drop j)).2)
  len : acc.length ≤ 2000 * j
  dep : q.s.length ≤ j
theorem rtelj_new (w : World) (L : List Ev) : RTelJ w (w.alloc (.cells #[.int .i64 3, .slice none 0 0, .bool false] 32)) L 0 ⟨[], false⟩ [] :=
  ⟨(rpr_new w []).wr, up_alloc (Below.refl _ _) _, by simp, by simp, by simp⟩
theorem RTelJ.go {w5 wr w' : World} {L : List Ev} {j : Nat} {q : Kq} {acc : List UInt8} (h : RTelJ w5 wr L j q acc) (k : Below wr.heap.size wr w') : RTelJ w5 w' L j q acc := ⟨h.rf.go k, h.bel.trans (k.mono h.bel.size), h.eq, h.len, h.dep⟩
theorem RTelJ.over {w5 wr : World} {L : List Ev} {j : Nat} {q : Kq} {acc : List UInt8} (h : RTelJ w5 wr L j q acc) (hj : L.length ≤ j) : allR ⟨[], false⟩ L = (acc, if q.dn = true then 0 else 3) := by
  have := h.eq
  rw [List.drop_of_length_le hj] at this
  rw [this]
  simp [allR]
theorem RTelJ.noPart {w5 wr : World} {L : List Ev} {j : Nat} {q : Kq} {acc : List UInt8} (h : RTelJ w5 wr L j q acc) (hj : j < L.length) (hm : ¬ mayE L[j]) : allR ⟨[], false⟩ L = (acc, 1) := by
  have := h.eq
  rw [rdrop_at hj, allR_cons_bad hm] at this
  simpa using this
theorem RTelJ.fail {w5 wr : World} {L : List Ev} {j : Nat} {q : Kq} {acc : List UInt8} (h : RTelJ w5 wr L j q acc) (hj : j < L.length) (hm : mayE L[j]) (h0 : (stepR q L[j]).1.2 ≠ 0) : allR ⟨[], false⟩ L = (acc, (stepR q L[j]).1.2) := by
  have := h.eq
  rw [rdrop_at hj, allR_cons_err hm h0] at this
  simpa using this
/-- What stands behind a step: goes on, or the first error. -/
def RTelR (w5 wr : World) (L : List Ev) (j bad : Nat) (acc : List UInt8) : Prop :=
  (bad = 0 ∧ ∃ q, RTelJ w5 wr L j q acc) ∨ (bad ≠ 0 ∧ allR ⟨[], false⟩ L = (acc, bad) ∧ Below w5.heap.size w5 wr ∧ acc.length ≤ 2000 * j)
theorem RTelJ.step {w5 wr : World} {L : List Ev} {j : Nat} {q : Kq} {acc : List UInt8} (h : RTelJ w5 wr L j q acc) (hj : j < L.length) (hj9 : j ≤ 700) (hm : mayE L[j]) (hok : EvOk L[j]) (ht : L[j].t.size ≤ 1000) :
    Calls Try.prog 13 #[.pointer (some ⟨w5.heap.size, 0, none⟩), evV L[j]] wr fun r w' => r = .returned (.tuple #[.string ⟨(stepR q L[j]).1.1.toArray⟩, .int .i64 ((stepR q L[j]).1.2 : Nat)]) ∧ RTelR w5 w' L (j + 1) (stepR q L[j]).1.2 (acc ++ (stepR q L[j]).1.1) := by
  refine (wp_part h.rf (by omega) (by have := h.dep; omega) L[j] hok ht).mono ?_
  rintro r w' ⟨e1, e2, e3⟩
  have hb : Below w5.heap.size w5 w' := h.bel.trans (e3.below h.bel.size (Nat.le_refl _))
  refine ⟨e1, ?_⟩
  by_cases h0 : (stepR q L[j]).1.2 = 0
  · refine .inl ⟨h0, (stepR q L[j]).2, e2, hb, ?_, ?_, ?_⟩
    · have := h.eq
      rw [rdrop_at hj, allR_cons_ok hm h0] at this
      rw [this]
      simp
    · have h1 := rstep_small q L[j] ht
      have := h.len
      rw [List.length_append]
      omega
    · have := rstep_len q L[j]
      have := h.dep
      omega
  · have hf := h.fail hj hm h0
    have hn := rstep_err_nil h0
    refine .inr ⟨h0, ?_, hb, ?_⟩
    · rw [hf, hn]
      simp
    · rw [hn]
      have := h.len
      simp
      omega
end Go.Proofs.Ytonjdnahplphhaa
/-
  LAWS of chapter 16: PackoutCounts.
-/
namespace Go.Proofs.Ytonjdnahplphhaa
open Go.RowKit
open Go.Lib
theorem cntPk_is (m : Bool) (v : Nat) : (cntPk m v).length = if 65536 ≤ v then 5 else if 16 ≤ v then 3 else 1 := by
  unfold cntPk lenBs
  by_cases h1 : v < 16
  · have a : ¬ 65536 ≤ v := by omega
    have b : ¬ 16 ≤ v := by omega
    cases m <;> simp [h1, a, b]
  · have b : 16 ≤ v := by omega
    by_cases h2 : v < 65536
    · have a : ¬ 65536 ≤ v := by omega
      cases m <;> simp [h1, h2, a, b, bigB_length]
    · have a : 65536 ≤ v := by omega
      cases m <;> simp [h1, h2, a, bigB_length]
/-- What follows the Writer's step. -/
theorem rcnt_step (n : Int) (m : Bool) (hn : -9223372036854775808 ≤ n ∧ n ≤ 9223372036854775807) (w : World) :
    ∃ (Z : ByteArray) (k : Nat), Calls Try.prog 12 #[.pointer (some ⟨w.heap.size, 0, none⟩), .iface 63 (.agg #[.bool m, .int .i64 n])] (w.alloc (.cells #[.slice none 0 0, .bool false] 28)) (fun r w' => r = .returned (.tuple #[.string Z, .int .i64 (k : Nat)]) ∧ ∃ F' q', PoW w w' w.heap.size F' q' ∧ q'.dn = false) ∧
      (if n < -1 then k = 14 ∧ Z = ⟨#[]⟩ else if n < 0 ∨ 4294967295 < n then k = 7 ∧ Z = ⟨#[]⟩ else k = 0 ∧ Z.size = if 65536 ≤ n then 5 else if 16 ≤ n then 3 else 1) := by
  have hW := pow_new w w (Below.refl _ _)
  by_cases h1 : n < -1
  · refine ⟨⟨#[]⟩, 14, ?_, by rw [if_pos h1]; exact ⟨rfl, rfl⟩⟩
    have hP : ∀ W, Calls Try.prog 39 #[.iface 63 (.agg #[.bool m, .int .i64 n])] W fun r w' => r = .returned (.tuple #[evV evZ, .bool false]) ∧ Below W.heap.size W w' := fun W => by
      refine plain_by _ evZ false (fun W => ?_) W
      have := plain_in_begin m n W
      rw [if_neg (by omega), decide_eq_false (by omega : ¬ -1 ≤ n)] at this
      exact this
    refine (ro_other hW.at_ _ evZ hP).mono ?_
    rintro r w' ⟨e1, e2, e3⟩
    exact ⟨e1, _, _, hW.next e2 e3, rfl⟩
  · have hm : mayE ⟨if m = true then 6 else 5, false, 0, ⟨#[]⟩, n⟩ := by cases m <;> exact ⟨by simp, by simp, fun _ => by simpa using (by omega : -1 ≤ n)⟩
    have hok : EvOk ⟨if m = true then 6 else 5, false, 0, ⟨#[]⟩, n⟩ := by cases m <;> exact ⟨by constructor <;> simp, by simp, hn, by show (0 : Nat) ≤ _; omega⟩
    have hs := counts_stepR m false 0 ⟨#[]⟩ n (by omega)
    have hv : valE ⟨if m = true then 6 else 5, false, 0, ⟨#[]⟩, n⟩ = .iface 63 (.agg #[.bool m, .int .i64 n]) := by cases m <;> rfl
    by_cases h2 : n < 0 ∨ 4294967295 < n
    · rw [if_pos h2] at hs
      refine ⟨⟨#[]⟩, 7, ?_, by rw [if_neg h1, if_pos h2]; exact ⟨rfl, rfl⟩⟩
      refine (pow_to hW trivial (by simp) _ hm hok (by show (0 : Nat) ≤ _; omega) hs hv).mono ?_
      rintro r w' ⟨e1, F', e2, _⟩
      exact ⟨e1, _, _, e2, rfl⟩
    · rw [if_neg h2] at hs
      refine ⟨⟨(cntPk m n.toNat).toArray⟩, 0, ?_, ?_⟩
      · refine (pow_to hW trivial (by simp) _ hm hok (by show (0 : Nat) ≤ _; omega) hs hv).mono ?_
        rintro r w' ⟨e1, F', e2, _⟩
        exact ⟨e1, _, _, e2, rfl⟩
      · rw [if_neg h1, if_neg h2]
        refine ⟨rfl, ?_⟩
        rw [size_of, cntPk_is]
        have a1 : 65536 ≤ n.toNat ↔ 65536 ≤ n := by omega
        have a2 : 16 ≤ n.toNat ↔ 16 ≤ n := by omega
        simp only [a1, a2]
set_option maxRecDepth 100000 in
set_option maxHeartbeats 4000000 in
theorem rcounts_row (n : Int) (m : Bool) (hn : -9223372036854775808 ≤ n ∧ n ≤ 9223372036854775807) (w : World) :
    Calls Try.prog 9 #[.int .i64 n, .bool m] w fun r w' => r = .returned (.bool true) ∧ Below w.heap.size w w' := by
  have HA := Lib.hid (fun W => ralive_any W)
  have HS := Lib.hid (fun w => rcnt_step n m hn w)
  have HN := Lib.hid hn
  clear hn
  go_enter Try.func9, Try.ntmps9
  go_wp2_with fail
  refine (HA.out _).mono ?_
  rintro r w1 ⟨rfl, b1⟩
  have B1 := Lib.hid b1
  clear b1
  obtain ⟨Z, k, hst, hzk⟩ := HS.out w1
  have HST := Lib.hid hst
  have HZK := Lib.hid hzk
  clear hst hzk
  go_wp2_with fail
  refine HST.out.mono ?_
  rintro r w2 ⟨rfl, F2, q2, h2, hd2⟩
  have HD := doneR h2.at_
  rw [hd2] at HD
  have HD := Lib.hid HD
  have B2 := Lib.hid (up_trans B1.out h2.bel)
  have hzk := HZK.out
  clear h2 hd2 HST HZK HA HS
  by_cases h1 : n < -1
  · rw [if_pos h1] at hzk
    obtain ⟨rfl, rfl⟩ := hzk
    have c1 : (n < -1) = True := by simp [h1]
    clear h1
    go_wp2
    go_ret
    exact ⟨rfl, B2.out⟩
  · rw [if_neg h1] at hzk
    have c1 : (n < -1) = False := by simp only [eq_iff_iff, iff_false]; exact h1
    clear h1
    by_cases h2 : n < 0
    · rw [if_pos (.inl h2)] at hzk
      obtain ⟨rfl, rfl⟩ := hzk
      have c2 : (n < 0) = True := by simp [h2]
      clear h2
      go_wp2_with fail
      refine HD.out.mono ?_
      rintro r w3 ⟨rfl, rfl⟩
      go_wp2
      go_ret
      exact ⟨rfl, B2.out⟩
    · have c2 : (n < 0) = False := by simp only [eq_iff_iff, iff_false]; exact h2
      by_cases h3 : 4294967295 < n
      · rw [if_pos (.inr h3)] at hzk
        obtain ⟨rfl, rfl⟩ := hzk
        have c3 : (4294967295 < n) = True := by simp [h3]
        clear h2 h3
        go_wp2_with fail
        refine HD.out.mono ?_
        rintro r w3 ⟨rfl, rfl⟩
        go_wp2
        go_ret
        exact ⟨rfl, B2.out⟩
      · rw [if_neg (by omega)] at hzk
        obtain ⟨rfl, hz⟩ := hzk
        have c3 : (4294967295 < n) = False := by simp only [eq_iff_iff, iff_false]; exact h3
        by_cases h4 : 65536 ≤ n
        · rw [if_pos h4] at hz
          have c4 : (65536 ≤ n) = True := by simp [h4]
          have hz : ((Z.size : Int)) = 5 := by omega
          clear h2 h3 h4
          go_wp2_with fail
          refine HD.out.mono ?_
          rintro r w3 ⟨rfl, rfl⟩
          go_wp2
          go_ret
          exact ⟨rfl, B2.out⟩
        · rw [if_neg h4] at hz
          have c4 : (65536 ≤ n) = False := by simp only [eq_iff_iff, iff_false]; exact h4
          by_cases h5 : 16 ≤ n
          · rw [if_pos h5] at hz
            have c5 : (16 ≤ n) = True := by simp [h5]
            have hz : ((Z.size : Int)) = 3 := by omega
            clear h2 h3 h4 h5
            go_wp2_with fail
            refine HD.out.mono ?_
            rintro r w3 ⟨rfl, rfl⟩
            go_wp2
            go_ret
            exact ⟨rfl, B2.out⟩
          · rw [if_neg h5] at hz
            have c5 : (16 ≤ n) = False := by simp only [eq_iff_iff, iff_false]; exact h5
            have hz : ((Z.size : Int)) = 1 := by omega
            clear h2 h3 h4 h5
            go_wp2_with fail
            refine HD.out.mono ?_
            rintro r w3 ⟨rfl, rfl⟩
            go_wp2
            go_ret
            exact ⟨rfl, B2.out⟩
end Go.Proofs.Ytonjdnahplphhaa
