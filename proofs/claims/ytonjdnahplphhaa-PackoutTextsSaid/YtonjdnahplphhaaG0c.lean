/-
  CONTRACTS of packout.Writer, part B: where it stands in memory; leave, enter, Done. A part as a value. CONTRACT of event.Of; type assertions. Whole numbers that lie within their kind; x & 31; x | y of bits beside each other. CONTRACT of truchmanref1.Big: the bytes of a number; a []byte made, written cell by cell, turned into a string. CONTRACT of head.Big: the bytes of a number. CONTRACT of math/bits.Len64 (by the shelf); a number's bytes against its bits; head.Big of one byte. THE SHELF AT THIS DUMP, IN PLAIN WORDS: strings.Builder (a new one, String): contracts that the kit's library proves once over any program; what is laid here is only the table of numbers. THE SHELF AT THIS DUMP, IN PLAIN WORDS: strings.Builder (WriteString): contracts that the kit's library proves once over any program; what is laid here is only the table of numbers. A strings.Builder beside steps in blocks of other types. CONTRACT of truchmanref1.May. TWO PLAIN PARTS held against each other, by == and !=. GENERAL (of the program the types api.Ev, []api.Ev alone): lists of parts in memory: what came in, what a call makes and grows. CONTRACT of truchmanbook.SameEvs: two lists that hold the same. CONTRACTS of package truchmanbook: copyEvs, LentEvs, StaysEvs. CONTRACTS of the book's documents out of numbers (truchmanbook.Doc, text, Open). CONTRACT of truchmanbook.Open (out of Doc): the same parts with counts that are not known. NO PROGRAM NEEDED: the order of numbers as digits. CONTRACTS of the documents 
-/
import Derived.Test.YtonjdnahplphhaaG0b
import Derived.Deep.RegionWith
import Derived.StillTail
import Derived.Test.YtonjdnahplphhaaG0a
import Derived.Shelf.Strconv.Itoa0
import Derived.Shelf.Strings.BuilderF
import Derived.Shelf.Strings.BuilderK
import Derived.Below
import Derived.Test.YtonjdnahplphhaaProg
import Derived.Defers
import Derived.Recover
import Derived.Deep.DeepCutAuto
import Derived.Deep.RegionLaw
import Derived.Deep.QuietTactic
import GoSem.Op.String
import Derived.OwnWalk
import Derived.BigCall
import Derived.BigGuard
/-
  CONTRACTS of packout.Writer, part B: where it stands in memory; leave, enter, Done.
-/
namespace Go.Proofs.Ytonjdnahplphhaa
open Go.RowKit
open Go.Lib
/-- A Writer at offset o of block b; its own row is one of the blocks F. -/
structure PoAt (w : World) (b o : Nat) (F : List Nat) (q : Kq) : Prop where
  cells : ∃ a cp, At w b o [.slice a q.s.length cp, .bool q.dn] ∧ Win w 115 2 (.slice a q.s.length cp) q.s.length (rcL q.s) ∧ Value.owner (.slice a q.s.length cp) = F
  blk : ∃ cs t fr, w.heap[b]? = some (.cells cs t fr) ∧ t ≠ 115
  fin : q.dn = true → q.s = []
  wf : WfR q.s
theorem PoAt.lt {w : World} {b o : Nat} {F : List Nat} {q : Kq} (h : PoAt w b o F q) : b < w.heap.size := by
  obtain ⟨cs, t, fr, hc, _⟩ := h.blk
  exact (Array.getElem?_eq_some_iff.1 hc).1
theorem PoAt.row {w : World} {b o : Nat} {F : List Nat} {q : Kq} (h : PoAt w b o F q) : ∀ k ∈ F, k < w.heap.size ∧ k ≠ b ∧ ∃ cur, w.heap[k]? = some (.cells cur 115 (0, 0)) := by
  obtain ⟨a, cp, _, hW, hF⟩ := h.cells
  obtain ⟨cs, t, fr, hc, ht⟩ := h.blk
  subst hF
  exact fun k hk => ⟨hW.lt k hk, fun e => hW.apart hc (fun e' => ht e'.symm) (e ▸ hk), hW.typed k hk⟩
theorem PoAt.keep {w w' : World} {b o : Nat} {F : List Nat} {q : Kq} (h : PoAt w b o F q) (hk : ∀ k, k = b ∨ k ∈ F → w'.heap[k]? = w.heap[k]?) : PoAt w' b o F q := by
  obtain ⟨a, cp, hA, hW, hF⟩ := h.cells
  obtain ⟨cs, t, fr, hc, ht⟩ := h.blk
  exact ⟨⟨a, cp, hA.keep (hk b (.inl rfl)), hW.keep (fun k ho => hk k (.inr (hF ▸ ho))), hF⟩, ⟨cs, t, fr, (hk b (.inl rfl)).trans hc, ht⟩, h.fin, h.wf⟩
theorem PoAt.go {w w' : World} {b o : Nat} {F : List Nat} {q : Kq} (h : PoAt w b o F q) (k : Below w.heap.size w w') : PoAt w' b o F q :=
  h.keep fun i hi => k.block i (hi.elim (fun e => e ▸ h.lt) (fun hi => (h.row i hi).1))
theorem PoAt.drewN {w : World} {b o : Nat} {F : List Nat} {q : Kq} (h : PoAt w b o F q) (n : Nat) : PoAt (w.drewN n) b o F q := h.keep fun _ _ => rfl
theorem PoAt.alloc {w : World} {b o : Nat} {F : List Nat} {q : Kq} (h : PoAt w b o F q) (x : Obj) : PoAt (w.alloc x) b o F q := h.go (up_alloc (Below.refl _ _) x)
set_option maxRecDepth 100000 in
set_option maxHeartbeats 2000000 in
theorem doneR {w : World} {b o : Nat} {F : List Nat} {q : Kq} (h : PoAt w b o F q) :
    Calls Try.prog 15 #[.pointer (some ⟨b, o, none⟩)] w fun r w' => r = .returned (.bool q.dn) ∧ w = w' := by
  obtain ⟨a, cp, hA, hW, hF⟩ := h.cells
  obtain ⟨⟨c0, _⟩, ⟨c1, _⟩⟩ := oat_two hA
  obtain ⟨s, dn⟩ := q
  simp only at *
  clear h hA hW hF
  go_enter Try.func15, Try.ntmps15
  go_wp2
  all_goals go_ret
  all_goals exact ⟨by simp, rfl⟩
theorem rdone_nil (w : World) : Calls Try.prog 15 #[.pointer none] w fun r w' => r = .returned (.bool false) ∧ w = w' := by
  go_enter Try.func15, Try.ntmps15
  go_wp2
  all_goals go_ret
  all_goals exact ⟨rfl, rfl⟩
theorem rstep_nil (v : Value) (w : World) : Calls Try.prog 12 #[.pointer none, v] w fun r w' => r = .returned (.tuple #[.string ⟨#[]⟩, .int .i64 14]) ∧ w = w' := by
  go_enter Try.func12, Try.ntmps12
  go_wp2
  all_goals go_ret2
  all_goals exact ⟨rfl, rfl⟩
/-- Behind the store of a shorter row. -/
theorem rleave_at {w : World} {b o : Nat} {F : List Nat} {x : Bx} {r : List Bx} {a' : Option Addr} {c' : Nat} (h : PoAt w b o F ⟨x :: r, false⟩) (hW : Win w 115 2 (.slice a' r.length c') r.length (rcL r)) (hO : Value.owner (.slice a' r.length c') = F) :
    PoAt (w.setCell ⟨b, o, none⟩ (.slice a' r.length c')) b o F ⟨r, false⟩ ∧ Jf b o F F w (w.setCell ⟨b, o, none⟩ (.slice a' r.length c')) := by
  obtain ⟨a, cp, hA, _, _⟩ := h.cells
  obtain ⟨cs, t, fr, hc, ht⟩ := h.blk
  have hap : b ∉ Value.owner (.slice a' r.length c') := hW.apart hc (fun e => ht e.symm)
  have hset := hA.set 0 (by simp) (.slice a' r.length c')
  refine ⟨⟨⟨a', c', by simpa using hset, hW.setCell_far hap _, hO⟩, ⟨_, t, fr, heap_setCell_at w ⟨b, o, none⟩ _ _ _ _ rfl hc, ht⟩, fun e => (by cases e), h.wf.tail⟩, (Jf.refl b o F w).set o _ (by omega)⟩
set_option maxRecDepth 100000 in
set_option maxHeartbeats 4000000 in
theorem leaveR {w : World} {b o : Nat} {F : List Nat} {x : Bx} {r : List Bx} (h : PoAt w b o F ⟨x :: r, false⟩) (hs : r.length ≤ 999) :
    Calls Try.prog 44 #[.pointer (some ⟨b, o, none⟩)] w fun q w' => q = .returned (.tuple #[]) ∧ PoAt w' b o F ⟨r, false⟩ ∧ Jf b o F F w w' := by
  have hfin : ∃ a cp, (w.cell? ⟨b, o, none⟩ = some (.slice a (r.length + 1) cp) ∧ w.frozen? ⟨b, o, none⟩ = false) ∧
      ∃ a' c', (∀ W, (Instr.slice 26 (.slice a (r.length + 1) cp) none (some (.int .i64 (r.length : Int))) none).run Try.prog W = .ok (.slice a' r.length c') W) ∧
        PoAt ((w.setCell ⟨b, o, none⟩ (.slice a' r.length c')).drewN 1) b o F ⟨r, false⟩ ∧ Jf b o F F w ((w.setCell ⟨b, o, none⟩ (.slice a' r.length c')).drewN 1) := by
    obtain ⟨a, cp, hA, hW, hF⟩ := h.cells
    obtain ⟨⟨c0, f0⟩, ⟨c1, f1⟩⟩ := oat_two hA
    obtain ⟨v', hsl, hw', ho'⟩ := hW.hi (P := Try.prog) (t := 26) Try.underlying26 (fun w => by kernel_rfl) r.length (by simp)
    simp only at hw' hsl
    simp only [rcL] at hw'
    rw [← rcL_length, List.take_left] at hw'
    obtain ⟨a', c', rfl, _, _⟩ := hw'.slice_form
    have he := rleave_at h hw' (ho'.trans hF)
    exact ⟨_, cp, ⟨c0, f0⟩, a', c', hsl, he.1.drewN 1, he.2.drewN 1⟩
  have hl : IntKind.i64.wrap (r.length : Int) = (r.length : Int) := by simp only [IntKind.wrap_i64]; omega
  have hl2 : wrap64 (r.length : Int) = (r.length : Int) := by unfold wrap64; omega
  have HFI := Lib.hid hfin
  generalize r.length = n' at *
  clear h hfin
  obtain ⟨a, cp, ⟨y1, y2⟩, a', c', hsl, hE⟩ := HFI.out
  have HE := Lib.hid hE
  clear hE HFI
  go_enter Try.func44, Try.ntmps44
  go_wp2_with fail
  refine wp_region_tail 11 (by kernel_rfl) (by kernel_rfl) ?_
  simp only [List.take_succ_cons, List.take_zero, List.drop_succ_cons, List.drop_zero]
  repeat still_step
  refine wpStill_nil ?_
  go_wp2
  go_end0
  exact ⟨rfl, HE.out⟩
/-- Behind append, and behind the store of what it yields. -/
theorem renter_end {w W w3 : World} {b o n cp c3 : Nat} {a a3 : Option Addr} {F : List Nat} {s : List Bx} {m : Bool} {c : Int} {l : Nat} {ob : Obj} (h : PoAt w b o F ⟨s, false⟩) (hn : s.length = n) (hA : At w b o [.slice a n cp, .bool false]) (hF : Value.owner (.slice a n cp) = F) (k : Below w.heap.size w W) (hc : 0 ≤ c ∧ c ≤ 4294967295)
    (hW : Win w3 115 2 (.slice a3 (n + 1) c3) (n + 1) (rcL s ++ rcB m l)) (hl : lakR ⟨m, c, 0⟩ = l) (hG : (W.alloc ob).drew.grownBy w3 (Value.slice a n cp).ownBlock) (hO : (Value.slice a3 (n + 1) c3).ownBlock = (Value.slice a n cp).ownBlock ∨ (Value.slice a3 (n + 1) c3).ownBlock = some (W.alloc ob).drew.heap.size ∧ (W.alloc ob).drew.heap.size < w3.heap.size) :
    (w3.cell? ⟨b, o, none⟩ = some (.slice a n cp) ∧ w3.frozen? ⟨b, o, none⟩ = false) ∧ ∃ F', PoAt (w3.setCell ⟨b, o, none⟩ (.slice a3 (n + 1) c3)) b o F' ⟨⟨m, c, 0⟩ :: s, false⟩ ∧ Jf b o F F' w (w3.setCell ⟨b, o, none⟩ (.slice a3 (n + 1) c3)) := by
  have hb := h.lt
  obtain ⟨cs, t, fr, hcb, ht⟩ := h.blk
  have hbF : b ∉ F := fun hk => (h.row b hk).2.1 rfl
  have hnb : (Value.slice a n cp).ownBlock ≠ some b := fun e => hbF (hF ▸ (ob_iff _ _).1 e)
  have hsz : w.heap.size ≤ W.heap.size := k.size
  have hold : ∀ i, i < w.heap.size → i ∉ F → w3.heap[i]? = w.heap[i]? := by
    intro i hi hiF
    refine (hG.block i (by show i < (W.alloc ob).heap.size; simp; omega) (fun e => hiF (hF ▸ (ob_iff _ _).1 e.symm))).trans ?_
    exact (Below.heap_alloc W ob i (by omega)).trans (k.block i hi)
  have hblk := hold b hb hbF
  have A3 := hA.keep hblk
  have hw3 : w3.heap[b]? = some (.cells cs t fr) := hblk.trans hcb
  have hap3 : b ∉ Value.owner (.slice a3 (n + 1) c3) := hW.apart hw3 (fun e => ht e.symm)
  have hset := A3.set 0 (by simp) (.slice a3 (n + 1) c3)
  refine ⟨A3 0 _ rfl, Value.owner (.slice a3 (n + 1) c3), ⟨⟨a3, c3, ?_, ?_, ?_⟩, ⟨_, t, fr, heap_setCell_at w3 ⟨b, o, none⟩ _ _ _ _ rfl hw3, ht⟩, fun e => (by cases e), h.wf.open_ m c hc⟩, ?_⟩
  · simp only [List.length_cons, hn]
    simpa using hset
  · simp only [List.length_cons, hn, rcL, hl]
    exact hW.setCell_far hap3 _
  · simp only [List.length_cons, hn]
  · have hstep : Step (b :: F) (b :: Value.owner (.slice a3 (n + 1) c3)) w w3 := by
      refine ⟨hG.os.trans k.os, hG.tape.trans ?_, hG.output.trans k.output, Nat.le_trans ?_ hG.size, fun i hi hiF => hold i hi (fun e => hiF (List.mem_cons_of_mem _ e)), fun i hi => ?_⟩
      · exact k.tape
      · show w.heap.size ≤ (W.alloc ob).heap.size
        simp; omega
      · rcases List.mem_cons.1 hi with rfl | hi
        · exact .inl (by simp)
        · rcases hO with e | ⟨e, _⟩
          · left
            refine List.mem_cons_of_mem _ ?_
            rw [← hF]
            exact (ob_iff _ _).1 (e ▸ (ob_iff _ _).2 hi)
          · right
            have h2 := (ob_iff _ _).2 hi
            rw [e] at h2
            cases h2
            show w.heap.size ≤ (W.alloc ob).heap.size
            simp; omega
    have hj : Jf b o F (Value.owner (.slice a3 (n + 1) c3)) w w3 := ⟨hstep, fun c1 t1 fr1 h1 => ⟨c1, hblk.trans h1, rfl⟩, fun i _ => World.cell?_of_block (w := w) hblk⟩
    exact hj.set o _ (by omega)
set_option maxRecDepth 100000 in
set_option maxHeartbeats 4000000 in
theorem renter_f {w : World} {b o : Nat} {F : List Nat} {s : List Bx} (h : PoAt w b o F ⟨s, false⟩) (hs : s.length ≤ 1000) (c : Int) (hc : 0 ≤ c ∧ c ≤ 4294967295) :
    Calls Try.prog 46 #[.pointer (some ⟨b, o, none⟩), .agg #[.bool false, .int .i64 c]] w fun e w' => e = .returned (.tuple #[]) ∧ ∃ F', PoAt w' b o F' ⟨⟨false, c, 0⟩ :: s, false⟩ ∧ Jf b o F F' w w' := by
  have hb := h.lt
  obtain ⟨n, hn⟩ : ∃ n, s.length = n := ⟨_, rfl⟩
  have hwc : IntKind.u64.wrap c = c := by simp only [IntKind.wrap_u64]; omega
  obtain ⟨l, hl, hlc⟩ : ∃ l : Nat, lakR ⟨false, c, 0⟩ = l ∧ c = (l : Int) := ⟨_, rfl, by unfold lakR totR; simp; omega⟩
  have hbel : Below w.heap.size w ((w.alloc (.cells #[.bool false, .int .i64 c] 63)).alloc (.cells #[.bool false, .int .u64 c] 115)) := up_alloc (up_alloc (Below.refl _ _) _) _
  have E2 : Hid (Blk ((w.alloc (.cells #[.bool false, .int .i64 c] 63)).alloc (.cells #[.bool false, .int .u64 c] 115)) (w.heap.size + 1) #[.bool false, .int .u64 c] 115) := Lib.hid (by
    have h0 := blk_new (w.alloc (.cells #[.bool false, .int .i64 c] 63)) #[.bool false, .int .u64 c] 115
    rwa [show ∀ x, (w.alloc x).heap.size = w.heap.size + 1 from fun x => by simp] at h0)
  obtain ⟨a, cp, hA, hWin, hF⟩ := h.cells
  simp only [hn] at hA hWin hF
  have hA2 := hA.keep (w' := ((w.alloc (.cells #[.bool false, .int .i64 c] 63)).alloc (.cells #[.bool false, .int .u64 c] 115))) (hbel.block b hb)
  have WD : ∀ x, Hid (Win ((((w.alloc (.cells #[.bool false, .int .i64 c] 63)).alloc (.cells #[.bool false, .int .u64 c] 115))).alloc x).drew 115 2 (.slice a n cp) n (rcL s)) := fun x => Lib.hid (((hWin.alloc _).alloc _).alloc x)
  have h5 : (((w.alloc (.cells #[.bool false, .int .i64 c] 63)).alloc (.cells #[.bool false, .int .u64 c] 115))).cell? ⟨b, o, none⟩ = some (.slice a n cp) := (hA2 0 _ rfl).1
  have f5 : ∀ x, ((((w.alloc (.cells #[.bool false, .int .i64 c] 63)).alloc (.cells #[.bool false, .int .u64 c] 115))).alloc x).cell? ⟨b, o, none⟩ = some (.slice a n cp) := fun x => ((hA2.alloc (by simp) x) 0 _ rfl).1
  have h0 : (((w.alloc (.cells #[.bool false, .int .i64 c] 63)).alloc (.cells #[.bool false, .int .u64 c] 115))).cell? ⟨w.heap.size + 1, 0, none⟩ = some (.bool false) := E2.out.cell 0
  have h1 : (((w.alloc (.cells #[.bool false, .int .i64 c] 63)).alloc (.cells #[.bool false, .int .u64 c] 115))).cell? ⟨w.heap.size + 1, 1, none⟩ = some (.int .u64 c) := E2.out.cell 1
  have e0 : ∀ x, ((((w.alloc (.cells #[.bool false, .int .i64 c] 63)).alloc (.cells #[.bool false, .int .u64 c] 115))).alloc x).cell? ⟨w.heap.size + 1, 0, none⟩ = some (.bool false) := fun x => (E2.out.alloc x).cell 0
  have e1 : ∀ x, ((((w.alloc (.cells #[.bool false, .int .i64 c] 63)).alloc (.cells #[.bool false, .int .u64 c] 115))).alloc x).cell? ⟨w.heap.size + 1, 1, none⟩ = some (.int .u64 c) := fun x => (E2.out.alloc x).cell 1
  have HE := Lib.hid (fun (w3 : World) (a3 : Option Addr) (c3 : Nat) ob hW hG hO => renter_end (w := w) (W := ((w.alloc (.cells #[.bool false, .int .i64 c] 63)).alloc (.cells #[.bool false, .int .u64 c] 115))) (w3 := w3) (a3 := a3) (c3 := c3) (m := false) (c := c) (l := l) (ob := ob) h hn hA hF hbel hc hW hl hG hO)
  simp only [rcB] at HE
  rw [← hlc] at HE
  clear h hbel hA hA2 hb E2 hWin hF hl hlc
  go_enter Try.func46, Try.ntmps46
  go_wp2
  generalize ((w.alloc (.cells #[.bool false, .int .i64 c] 63)).alloc (.cells #[.bool false, .int .u64 c] 115)) = W at *
  go_region_law (first
    | (refine step_append_win rfl _ _ _ rfl Try.underlying26 info_rc rfl rfl (WD _).out _ rfl 1 _ (src_new _ Try.underlying26 2 1 [.bool false, .int .u64 c] 115 _ rfl (by simp [Value.oneCell']) (heap_alloc_new _ _)) (by unfold maxLen; omega) (by omega) ?_; intro v3 w3 hW3 hG3 hO3; obtain ⟨a3, c3, rfl, _, _⟩ := Win.slice_form hW3.out; have HP := Lib.hid (HE.out w3 a3 c3 _ hW3.out hG3.out hO3.out); have g0 := HP.out.1.1; have g1 := HP.out.1.2; clear hW3 hG3 hO3))
  all_goals
    go_wp2
    go_end0
    exact ⟨rfl, HP.out.2⟩
set_option maxRecDepth 100000 in
set_option maxHeartbeats 4000000 in
theorem renter_t {w : World} {b o : Nat} {F : List Nat} {s : List Bx} (h : PoAt w b o F ⟨s, false⟩) (hs : s.length ≤ 1000) (c : Int) (hc : 0 ≤ c ∧ c ≤ 4294967295) :
    Calls Try.prog 46 #[.pointer (some ⟨b, o, none⟩), .agg #[.bool true, .int .i64 c]] w fun e w' => e = .returned (.tuple #[]) ∧ ∃ F', PoAt w' b o F' ⟨⟨true, c, 0⟩ :: s, false⟩ ∧ Jf b o F F' w w' := by
  have hb := h.lt
  obtain ⟨n, hn⟩ : ∃ n, s.length = n := ⟨_, rfl⟩
  have hwc : IntKind.u64.wrap c = c := by simp only [IntKind.wrap_u64]; omega
  have hwc2 : IntKind.u64.wrap (c * 2) = c * 2 := by simp only [IntKind.wrap_u64]; omega
  obtain ⟨l, hl, hlc⟩ : ∃ l : Nat, lakR ⟨true, c, 0⟩ = l ∧ (c * 2) = (l : Int) := ⟨_, rfl, by unfold lakR totR; simp; omega⟩
  have hbel : Below w.heap.size w ((w.alloc (.cells #[.bool true, .int .i64 c] 63)).alloc (.cells #[.bool true, .int .u64 (c * 2)] 115)) := up_alloc (up_alloc (Below.refl _ _) _) _
  have E2 : Hid (Blk ((w.alloc (.cells #[.bool true, .int .i64 c] 63)).alloc (.cells #[.bool true, .int .u64 (c * 2)] 115)) (w.heap.size + 1) #[.bool true, .int .u64 (c * 2)] 115) := Lib.hid (by
    have h0 := blk_new (w.alloc (.cells #[.bool true, .int .i64 c] 63)) #[.bool true, .int .u64 (c * 2)] 115
    rwa [show ∀ x, (w.alloc x).heap.size = w.heap.size + 1 from fun x => by simp] at h0)
  obtain ⟨a, cp, hA, hWin, hF⟩ := h.cells
  simp only [hn] at hA hWin hF
  have hA2 := hA.keep (w' := ((w.alloc (.cells #[.bool true, .int .i64 c] 63)).alloc (.cells #[.bool true, .int .u64 (c * 2)] 115))) (hbel.block b hb)
  have WD : ∀ x, Hid (Win ((((w.alloc (.cells #[.bool true, .int .i64 c] 63)).alloc (.cells #[.bool true, .int .u64 (c * 2)] 115))).alloc x).drew 115 2 (.slice a n cp) n (rcL s)) := fun x => Lib.hid (((hWin.alloc _).alloc _).alloc x)
  have h5 : (((w.alloc (.cells #[.bool true, .int .i64 c] 63)).alloc (.cells #[.bool true, .int .u64 (c * 2)] 115))).cell? ⟨b, o, none⟩ = some (.slice a n cp) := (hA2 0 _ rfl).1
  have f5 : ∀ x, ((((w.alloc (.cells #[.bool true, .int .i64 c] 63)).alloc (.cells #[.bool true, .int .u64 (c * 2)] 115))).alloc x).cell? ⟨b, o, none⟩ = some (.slice a n cp) := fun x => ((hA2.alloc (by simp) x) 0 _ rfl).1
  have h0 : (((w.alloc (.cells #[.bool true, .int .i64 c] 63)).alloc (.cells #[.bool true, .int .u64 (c * 2)] 115))).cell? ⟨w.heap.size + 1, 0, none⟩ = some (.bool true) := E2.out.cell 0
  have h1 : (((w.alloc (.cells #[.bool true, .int .i64 c] 63)).alloc (.cells #[.bool true, .int .u64 (c * 2)] 115))).cell? ⟨w.heap.size + 1, 1, none⟩ = some (.int .u64 (c * 2)) := E2.out.cell 1
  have e0 : ∀ x, ((((w.alloc (.cells #[.bool true, .int .i64 c] 63)).alloc (.cells #[.bool true, .int .u64 (c * 2)] 115))).alloc x).cell? ⟨w.heap.size + 1, 0, none⟩ = some (.bool true) := fun x => (E2.out.alloc x).cell 0
  have e1 : ∀ x, ((((w.alloc (.cells #[.bool true, .int .i64 c] 63)).alloc (.cells #[.bool true, .int .u64 (c * 2)] 115))).alloc x).cell? ⟨w.heap.size + 1, 1, none⟩ = some (.int .u64 (c * 2)) := fun x => (E2.out.alloc x).cell 1
  have HE := Lib.hid (fun (w3 : World) (a3 : Option Addr) (c3 : Nat) ob hW hG hO => renter_end (w := w) (W := ((w.alloc (.cells #[.bool true, .int .i64 c] 63)).alloc (.cells #[.bool true, .int .u64 (c * 2)] 115))) (w3 := w3) (a3 := a3) (c3 := c3) (m := true) (c := c) (l := l) (ob := ob) h hn hA hF hbel hc hW hl hG hO)
  simp only [rcB] at HE
  rw [← hlc] at HE
  clear h hbel hA hA2 hb E2 hWin hF hl hlc
  go_enter Try.func46, Try.ntmps46
  go_wp2
  generalize ((w.alloc (.cells #[.bool true, .int .i64 c] 63)).alloc (.cells #[.bool true, .int .u64 (c * 2)] 115)) = W at *
  go_region_law (first
    | (refine step_append_win rfl _ _ _ rfl Try.underlying26 info_rc rfl rfl (WD _).out _ rfl 1 _ (src_new _ Try.underlying26 2 1 [.bool true, .int .u64 (c * 2)] 115 _ rfl (by simp [Value.oneCell']) (heap_alloc_new _ _)) (by unfold maxLen; omega) (by omega) ?_; intro v3 w3 hW3 hG3 hO3; obtain ⟨a3, c3, rfl, _, _⟩ := Win.slice_form hW3.out; have HP := Lib.hid (HE.out w3 a3 c3 _ hW3.out hG3.out hO3.out); have g0 := HP.out.1.1; have g1 := HP.out.1.2; clear hW3 hG3 hO3))
  all_goals
    go_wp2
    go_end0
    exact ⟨rfl, HP.out.2⟩
/-- ENTER. -/
theorem enterR {w : World} {b o : Nat} {F : List Nat} {s : List Bx} (h : PoAt w b o F ⟨s, false⟩) (hs : s.length ≤ 1000) (m : Bool) (c : Int) (hc : 0 ≤ c ∧ c ≤ 4294967295) :
    Calls Try.prog 46 #[.pointer (some ⟨b, o, none⟩), .agg #[.bool m, .int .i64 c]] w fun e w' => e = .returned (.tuple #[]) ∧ ∃ F', PoAt w' b o F' ⟨⟨m, c, 0⟩ :: s, false⟩ ∧ Jf b o F F' w w' := by
  cases m
  · exact renter_f h hs c hc
  · exact renter_t h hs c hc
end Go.Proofs.Ytonjdnahplphhaa
/-
  A part as a value.
-/
namespace Go.Proofs.Ytonjdnahplphhaa
open Go.RowKit
open Go.Lib
/-- A part, as a value. -/
def valE (e : Ev) : Value :=
  if e.k = 1 then .iface 4 (.bool e.y) else if e.k = 2 then .iface 54 (.agg #[.bool e.y, .int .u64 e.m]) else if e.k = 3 then .iface 65 (.string e.t)
  else if e.k = 4 then .iface 66 (.string e.t) else if e.k = 5 then .iface 63 (.agg #[.bool false, .int .i64 e.c]) else if e.k = 6 then .iface 63 (.agg #[.bool true, .int .i64 e.c])
  else if e.k = 7 then .iface 69 (.agg #[]) else .nilIface
end Go.Proofs.Ytonjdnahplphhaa
/-
  CONTRACT of event.Of; type assertions.
-/
namespace Go.Proofs.Ytonjdnahplphhaa
open Go.RowKit
open Go.Lib
theorem assert_yes (T u : TypeId) (h : (Try.prog.underlying T).map (fun x => match x with | .interface _ => false | _ => true) = some true) (v : Value) (W : World) : (Instr.typeAssert (.iface T v) u T true).run Try.prog W = .ok (.tuple #[v, .bool true]) W := by
  cases hu : Try.prog.underlying T with
  | none => simp [hu] at h
  | some x => cases x <;> simp [hu] at h <;> simp [Instr.typeAssert, run_underlying hu]
theorem assert_no (T u d : TypeId) (z : Value) (h : (Try.prog.underlying T).map (fun x => match x with | .interface _ => false | _ => true) = some true) (hd : d ≠ T) (hz : (Try.prog.info? T).map (·.zero) = some (some z)) (v : Value) (W : World) :
    (Instr.typeAssert (.iface d v) u T true).run Try.prog W = .ok (.tuple #[z, .bool false]) W := by
  obtain ⟨j, hj, hz'⟩ := Option.map_eq_some_iff.1 hz
  cases hu : Try.prog.underlying T with
  | none => simp [hu] at h
  | some x => cases x <;> simp [hu] at h <;> simp [Instr.typeAssert, run_underlying hu, hd, zeroValue, typeInfo, hj, hz']
theorem not_bool (d : TypeId) (hd : d ≠ 4) (v : Value) (W : World) : (Instr.typeAssert (.iface d v) 20 4 true).run Try.prog W = .ok (.tuple #[.bool false, .bool false]) W := assert_no _ _ d _ (by kernel_rfl) hd (by kernel_rfl) v W
theorem not_whole (d : TypeId) (hd : d ≠ 54) (v : Value) (W : World) : (Instr.typeAssert (.iface d v) 20 54 true).run Try.prog W = .ok (.tuple #[.agg #[.bool false, .int .u64 0], .bool false]) W := assert_no _ _ d _ (by kernel_rfl) hd (by kernel_rfl) v W
theorem not_word (d : TypeId) (hd : d ≠ 65) (v : Value) (W : World) : (Instr.typeAssert (.iface d v) 20 65 true).run Try.prog W = .ok (.tuple #[.string ⟨#[]⟩, .bool false]) W := assert_no _ _ d _ (by kernel_rfl) hd (by kernel_rfl) v W
theorem not_blob (d : TypeId) (hd : d ≠ 66) (v : Value) (W : World) : (Instr.typeAssert (.iface d v) 20 66 true).run Try.prog W = .ok (.tuple #[.string ⟨#[]⟩, .bool false]) W := assert_no _ _ d _ (by kernel_rfl) hd (by kernel_rfl) v W
theorem not_begin (d : TypeId) (hd : d ≠ 63) (v : Value) (W : World) : (Instr.typeAssert (.iface d v) 20 63 true).run Try.prog W = .ok (.tuple #[.agg #[.bool false, .int .i64 0], .bool false]) W := assert_no _ _ d _ (by kernel_rfl) hd (by kernel_rfl) v W
theorem not_close (d : TypeId) (hd : d ≠ 69) (v : Value) (W : World) : (Instr.typeAssert (.iface d v) 20 69 true).run Try.prog W = .ok (.tuple #[.agg #[], .bool false]) W := assert_no _ _ d _ (by kernel_rfl) hd (by kernel_rfl) v W
theorem is_bool (v : Value) (W : World) : (Instr.typeAssert (.iface 4 v) 20 4 true).run Try.prog W = .ok (.tuple #[v, .bool true]) W := assert_yes _ _ (by kernel_rfl) v W
theorem is_whole (v : Value) (W : World) : (Instr.typeAssert (.iface 54 v) 20 54 true).run Try.prog W = .ok (.tuple #[v, .bool true]) W := assert_yes _ _ (by kernel_rfl) v W
theorem is_word (v : Value) (W : World) : (Instr.typeAssert (.iface 65 v) 20 65 true).run Try.prog W = .ok (.tuple #[v, .bool true]) W := assert_yes _ _ (by kernel_rfl) v W
theorem is_blob (v : Value) (W : World) : (Instr.typeAssert (.iface 66 v) 20 66 true).run Try.prog W = .ok (.tuple #[v, .bool true]) W := assert_yes _ _ (by kernel_rfl) v W
theorem is_begin (v : Value) (W : World) : (Instr.typeAssert (.iface 63 v) 20 63 true).run Try.prog W = .ok (.tuple #[v, .bool true]) W := assert_yes _ _ (by kernel_rfl) v W
theorem is_close (v : Value) (W : World) : (Instr.typeAssert (.iface 69 v) 20 69 true).run Try.prog W = .ok (.tuple #[v, .bool true]) W := assert_yes _ _ (by kernel_rfl) v W
theorem nil_not (d : TypeId) (v : Value) (W : World) : (binOp .eql 20 (.iface d v) .nilIface).run Try.prog W = .ok (.bool false) W := by kernel_rfl
theorem nil_is (W : World) : (binOp .eql 20 .nilIface .nilIface).run Try.prog W = .ok (.bool true) W := by kernel_rfl
theorem may_count (n : Int) (w : World) : Calls Try.prog 23 #[.int .i64 n] w fun e w' => e = .returned (.bool (decide (-1 ≤ n))) ∧ w' = w := by
  go_enter Try.func23, Try.ntmps23
  go_wp2
  go_ret
  exact ⟨rfl, rfl⟩
set_option maxHeartbeats 1000000 in
theorem of_any (e : Ev) (w : World) : Calls Try.prog 11 #[evV e] w fun r w' => r = .returned (.tuple #[if mayE e then valE e else .nilIface, .bool (decide (mayE e))]) ∧ Below w.heap.size w w' := by
  obtain ⟨k, y, m, t, c⟩ := e
  have hb := Lib.hid ((Below.refl w.heap.size w).alloc (Nat.le_refl _) (.cells #[.int .i64 k, .bool y, .int .u64 m, .string t, .int .i64 c] 35))
  have q : ∀ n : Int, k ≠ n → (k == n) = false := fun n h => by simpa using h
  rcases kinds k with (rfl | rfl | rfl | rfl | rfl | rfl | rfl | rfl) | h
  all_goals simp only [evV, valE, mayE]
  case inr =>
    have q0 := q 0 (by omega)
    have q1 := q 1 (by omega)
    have q2 := q 2 (by omega)
    have q3 := q 3 (by omega)
    have q4 := q 4 (by omega)
    have q5 := q 5 (by omega)
    have q6 := q 6 (by omega)
    have q7 := q 7 (by omega)
    have hn : ¬ (0 ≤ k ∧ k ≤ 7 ∧ (k = 5 ∨ k = 6 → -1 ≤ c)) := fun hh => h ⟨hh.1, hh.2.1⟩
    have HN := Lib.hid hn
    clear h q hn
    go_enter Try.func11, Try.ntmps11
    go_wp2
    go_ret2
    first
    | exact ⟨rfl, hb.out⟩
    | exact ⟨by rw [if_neg HN.out, decide_eq_false HN.out]; rfl, hb.out⟩
  all_goals clear q
  all_goals
    go_enter Try.func11, Try.ntmps11
    go_wp2
    all_goals go_ret2
    all_goals first
    | exact ⟨rfl, hb.out⟩
    | exact ⟨by simp, hb.out⟩
    | exact ⟨by simp; omega, hb.out⟩
end Go.Proofs.Ytonjdnahplphhaa
/-
  Whole numbers that lie within their kind; x & 31; x | y of bits beside each other.
-/
namespace Go.Proofs.Ytonjdnahplphhaa
open Go.RowKit
open Go.Lib
theorem wrapI_u64 (n : Int) (h0 : 0 ≤ n) (h1 : n < 18446744073709551616) : IntKind.u64.wrap n = n := by
  simp [IntKind.wrap, IntKind.bits, IntKind.signed]
  omega
theorem wrapI_u8 (n : Int) (h0 : 0 ≤ n) (h1 : n < 256) : IntKind.u8.wrap n = n := by
  simp [IntKind.wrap, IntKind.bits, IntKind.signed]
  omega
theorem wrapI_i64 (n : Int) (h0 : 0 ≤ n) (h1 : n < 9223372036854775808) : IntKind.i64.wrap n = n := by
  rw [IntKind.wrap_i64]
  omega
theorem and31 (x : Nat) (h : x < 256) : bits .and .u8 (x : Int) 31 = ((x % 32 : Nat) : Int) := by
  have h1 : (BitVec.ofInt 8 (x : Int)).toNat = x := by
    rw [BitVec.ofInt_natCast, BitVec.toNat_ofNat]; exact Nat.mod_eq_of_lt (by omega)
  have h2 : (BitVec.ofInt 8 (31 : Int)).toNat = 31 := by decide
  show IntKind.u8.wrap ((BitVec.ofInt 8 (x : Int) &&& BitVec.ofInt 8 (31 : Int)).toNat : Int) = _
  rw [BitVec.toNat_and, h1, h2, show 31 = 2 ^ 5 - 1 by decide, Nat.and_two_pow_sub_one_eq_mod, wrapI_u8 _ (by omega) (by omega)]
theorem or_u64 (a c k : Nat) (ha : a * 2 ^ k + c < 18446744073709551616) (hc : c < 2 ^ k) : bits .or .u64 ((a * 2 ^ k : Nat) : Int) (c : Int) = ((a * 2 ^ k + c : Nat) : Int) := by
  have h1 : (BitVec.ofInt 64 ((a * 2 ^ k : Nat) : Int)).toNat = a * 2 ^ k := by
    rw [BitVec.ofInt_natCast, BitVec.toNat_ofNat]; exact Nat.mod_eq_of_lt (by omega)
  have h2 : (BitVec.ofInt 64 (c : Int)).toNat = c := by
    rw [BitVec.ofInt_natCast, BitVec.toNat_ofNat]; exact Nat.mod_eq_of_lt (by omega)
  show IntKind.u64.wrap ((BitVec.ofInt 64 ((a * 2 ^ k : Nat) : Int) ||| BitVec.ofInt 64 (c : Int)).toNat : Int) = _
  rw [BitVec.toNat_or, h1, h2, show a * 2 ^ k = 2 ^ k * a by rw [Nat.mul_comm], ← Nat.two_pow_add_eq_or_of_lt hc, wrapI_u64 _ (by omega) (by rw [Nat.mul_comm]; omega)]
end Go.Proofs.Ytonjdnahplphhaa
/-
  CONTRACT of truchmanref1.Big: the bytes of a number; a []byte made, written cell by cell, turned into a string.
-/
namespace Go.Proofs.Ytonjdnahplphhaa
open Go.RowKit
open Go.Lib
/-- The row of a number's bytes when k of them are laid, from the last on. -/
def rowB (n k v : Nat) : List UInt8 := List.replicate (n - k) 0 ++ bigB k v
theorem rowB_zero (n v : Nat) : rowB n 0 v = List.replicate n 0 := by simp [rowB, bigB]
theorem rowB_all (n v : Nat) : rowB n n v = bigB n v := by simp [rowB]
theorem rowB_len (n k v : Nat) (h : k ≤ n) : (rowB n k v).length = n := by simp [rowB, bigB_length]; omega
theorem rowB_set (n k v : Nat) (h : k < n) : (rowB n k v).set (n - 1 - k) (UInt8.ofNat (v / 256 ^ k % 256)) = rowB n (k + 1) v := by
  have e : List.replicate (n - k) (0 : UInt8) = List.replicate (n - 1 - k) 0 ++ [0] := by
    rw [show n - k = (n - 1 - k) + 1 by omega, List.replicate_succ']
  unfold rowB
  rw [e, List.append_assoc, List.set_append_right _ _ (by simp)]
  simp [bigB, show n - (k + 1) = n - 1 - k by omega]
theorem bCells_set (l : List UInt8) (k : Nat) (b : UInt8) : (bCells l).set k (.int .u8 (b.toNat : Int)) = bCells (l.set k b) := by
  simp [bCells, List.map_set]
theorem at_new (w : World) (l : List UInt8) : At (w.alloc (.cells (Lib.byteCells l).toArray 5)) w.heap.size 0 (bCells l) := fun j u hj => by
  have hb : (w.alloc (.cells (Lib.byteCells l).toArray 5)).heap[w.heap.size]? = some (.cells (Lib.byteCells l).toArray 5 (0, 0)) := by
    show (w.heap.push _)[_]? = _
    rw [Array.getElem?_push, if_pos rfl]
  have hu : (Lib.byteCells l)[j]? = some u := hj
  refine ⟨?_, ?_⟩
  · simp only [World.cell?, hb, Nat.zero_add]
    simpa using hu
  · unfold World.frozen?
    rw [hb]
    simp
theorem conv_at {w : World} {g : Nat} {l : List UInt8} (n cap : Nat) (hl : l.length = n) (h : At w g 0 (bCells l)) :
    (convert 60 9 (.slice (some ⟨g, 0, none⟩) n cap)).run Try.prog w = .ok (.string ⟨l.toArray⟩) w := by
  have hby : Lib.Bytes w g 0 ⟨l.toArray⟩ := by
    intro i hi
    have hi' : i < l.length := by simpa [ByteArray.size] using hi
    have := (h i (.int .u8 l[i].toNat) (by simp [bCells, hi'])).1
    exact this
  have := run_convert_window (P := Try.prog) w 60 5 9 Try.underlying60 Try.underlying5 Try.underlying9 g 0 ⟨l.toArray⟩ hby 0 n cap (by simp [ByteArray.size]; omega)
  rw [Nat.zero_add] at this
  have e : ByteArray.extract ⟨l.toArray⟩ 0 (0 + n) = ⟨l.toArray⟩ := by
    apply ByteArray.ext
    apply Array.toList_inj.1
    rw [extract_data]
    show List.take _ l = l
    exact List.take_of_length_le (by omega)
  rw [this, e]
theorem and255 (x : Nat) (h : x < 18446744073709551616) : bits .and .u64 (x : Int) 255 = ((x % 256 : Nat) : Int) := by
  have h1 : (BitVec.ofInt 64 (x : Int)).toNat = x := by
    rw [BitVec.ofInt_natCast, BitVec.toNat_ofNat]; exact Nat.mod_eq_of_lt (by omega)
  have h2 : (BitVec.ofInt 64 (255 : Int)).toNat = 255 := by decide
  show IntKind.u64.wrap ((BitVec.ofInt 64 (x : Int) &&& BitVec.ofInt 64 (255 : Int)).toNat : Int) = _
  rw [BitVec.toNat_and, h1, h2, show 255 = 2 ^ 8 - 1 by decide, Nat.and_two_pow_sub_one_eq_mod, wrapI_u64 _ (by omega) (by omega)]
set_option maxHeartbeats 1000000 in
theorem rbig_any (v n : Nat) (hv : v < 18446744073709551616) (h1 : 1 ≤ n) (h8 : n ≤ 8) (w : World) :
    Calls Try.prog 49 #[.int .u64 v, .int .i64 n] w fun e w' => e = .returned (.string ⟨(bigB n v).toArray⟩) ∧ Below w.heap.size w w' := by
  have hmk := make_zero n (by omega) n rfl
  have g1 : ((n : Int) < 1) = False := by simp only [eq_iff_iff, iff_false]; omega
  have g2 : ((8 : Int) < n) = False := by simp only [eq_iff_iff, iff_false]; omega
  have HN : Hid (At (w.alloc (.cells (Lib.byteCells (List.replicate n 0)).toArray 5)) w.heap.size 0 (bCells (rowB n 0 v))) := Lib.hid (by rw [rowB_zero]; exact at_new w _)
  go_enter Try.func49, Try.ntmps49
  go_wp2
  go_loopw [0, 6] (fun x i wr => ∃ k : Nat, k ≤ n ∧ i = .int .i64 ((n : Int) - 1 - k) ∧ x = .int .u64 ((v / 256 ^ k : Nat) : Int) ∧ Hid (At wr w.heap.size 0 (bCells (rowB n k v)) ∧ Below w.heap.size w wr)) (fun _ i _ => (RowKit.intOf i + 1).toNat)
  case atStart => exact ⟨0, Nat.zero_le _, by simp, by simp, Lib.hid ⟨HN.out, (Below.refl _ _).alloc (Nat.le_refl _) _⟩⟩
  case round =>
    obtain ⟨k, hk, rfl, rfl, HP⟩ := hrel
    have hx : v / 256 ^ k < 18446744073709551616 := Nat.lt_of_le_of_lt (Nat.div_le_self _ _) hv
    by_cases hlt : k < n
    · have hc : ∃ u, wr.cell? ⟨w.heap.size, n - 1 - k, none⟩ = some u ∧ wr.frozen? ⟨w.heap.size, n - 1 - k, none⟩ = false := by
        have hl : n - 1 - k < (bCells (rowB n k v)).length := by rw [bCells_length, rowB_len _ _ _ hk]; omega
        have := HP.out.1 (n - 1 - k) _ (List.getElem?_eq_getElem hl)
        rw [Nat.zero_add] at this
        exact ⟨_, this⟩
      obtain ⟨u, hcell, hfroz⟩ := hc
      obtain ⟨j, hj⟩ : ∃ j, n - 1 - k = j := ⟨_, rfl⟩
      rw [hj] at hcell hfroz
      rw [show (n : Int) - 1 - k = (j : Int) by omega]
      obtain ⟨y, hy⟩ : ∃ y, v / 256 ^ k = y := ⟨_, rfl⟩
      rw [hy] at hx ⊢
      have hand := and255 y hx
      have hw8 : IntKind.u8.wrap ((y % 256 : Nat) : Int) = ((y % 256 : Nat) : Int) := wrapI_u8 _ (by omega) (by omega)
      have hdiv : Hid (((y : Int) / 256) = ((v / 256 ^ (k + 1) : Nat) : Int)) := Lib.hid (by
        rw [Nat.pow_succ, ← Nat.div_div_eq_div_mul, hy]
        omega)
      have HQ : Hid (At (wr.setCell ⟨w.heap.size, j, none⟩ (.int .u8 ((y % 256 : Nat) : Int))) w.heap.size 0 (bCells (rowB n (k + 1) v)) ∧ Below w.heap.size w (wr.setCell ⟨w.heap.size, j, none⟩ (.int .u8 ((y % 256 : Nat) : Int)))) := Lib.hid (by
        refine ⟨?_, HP.out.2.setCell (by simp) _⟩
        have := HP.out.1.set (n - 1 - k) (by rw [bCells_length, rowB_len _ _ _ hk]; omega) (.int .u8 ((y % 256 : Nat) : Int))
        rw [← byte_of y, ← hy, bCells_set, rowB_set n k v hlt, byte_of, hy, hj, Nat.zero_add] at this
        exact this)
      obtain ⟨z, hz⟩ : ∃ z, y % 256 = z := ⟨_, rfl⟩
      rw [hz] at hand hw8 HQ
      clear hy HP HN
      go_wp2
      go_roundw
      case rel => exact ⟨k + 1, by omega, by rw [← hj]; go_num, by rw [hdiv.out], HQ⟩
      case measure => simp [RowKit.intOf]
    · have hkn : k = n := by omega
      subst hkn
      rw [show (k : Int) - 1 - k = -1 by omega]
      have hcv : (convert 60 9 (.slice (some ⟨w.heap.size, 0, none⟩) k k)).run Try.prog wr = .ok (.string ⟨(bigB k v).toArray⟩) wr := by
        have := HP.out.1
        rw [rowB_all] at this
        exact conv_at k k (bigB_length k v) this
      go_wp2
      go_ret
      exact ⟨rfl, HP.out.2⟩
theorem rbig_out (v : Nat) (n : Int) (h : n < 1 ∨ 8 < n) (w : World) :
    Calls Try.prog 49 #[.int .u64 v, .int .i64 n] w fun e w' => e = .returned (.string ⟨#[]⟩) ∧ Below w.heap.size w w' := by
  by_cases h1 : n < 1
  · clear h
    go_enter Try.func49, Try.ntmps49
    go_wp2
    go_ret
    exact ⟨rfl, Below.refl _ _⟩
  · have h8 : 8 < n := by omega
    have g1 : (n < 1) = False := by simp only [eq_iff_iff, iff_false]; omega
    clear h h1
    go_enter Try.func49, Try.ntmps49
    go_wp2
    go_ret
    exact ⟨rfl, Below.refl _ _⟩
end Go.Proofs.Ytonjdnahplphhaa
/-
  CONTRACT of head.Big: the bytes of a number.
-/
namespace Go.Proofs.Ytonjdnahplphhaa
open Go.RowKit
open Go.Lib
set_option maxHeartbeats 1000000 in
theorem big_any (v n : Nat) (h1 : 1 ≤ n) (h8 : n ≤ 8) (w : World) :
    Calls Try.prog 81 #[.int .u64 v, .int .i64 n] w fun e w' => e = .returned (.string ⟨(bigB n v).toArray⟩) ∧ Below w.heap.size w w' := by
  have hmk := make_zero n (by omega) n rfl
  have g1 : ((n : Int) < 1) = False := by simp only [eq_iff_iff, iff_false]; omega
  have g2 : ((8 : Int) < n) = False := by simp only [eq_iff_iff, iff_false]; omega
  have HN : Hid (At (w.alloc (.cells (Lib.byteCells (List.replicate n 0)).toArray 5)) w.heap.size 0 (bCells (rowB n 0 v))) := Lib.hid (by rw [rowB_zero]; exact at_new w _)
  go_enter Try.func81, Try.ntmps81
  go_wp2
  go_loopw [17] (fun i wr => ∃ k : Nat, k ≤ n ∧ i = .int .i64 k ∧ Hid (At wr w.heap.size 0 (bCells (rowB n k v)) ∧ Below w.heap.size w wr)) (fun i _ => n - (RowKit.intOf i).toNat)
  case atStart => exact ⟨0, Nat.zero_le _, rfl, Lib.hid ⟨HN.out, (Below.refl _ _).alloc (Nat.le_refl _) _⟩⟩
  case round =>
    obtain ⟨k, hk, rfl, HP⟩ := hrel
    by_cases hlt : k < n
    · have hc : ∃ u, wr.cell? ⟨w.heap.size, n - 1 - k, none⟩ = some u ∧ wr.frozen? ⟨w.heap.size, n - 1 - k, none⟩ = false := by
        have hl : n - 1 - k < (bCells (rowB n k v)).length := by rw [bCells_length, rowB_len _ _ _ hk]; omega
        have := HP.out.1 (n - 1 - k) _ (List.getElem?_eq_getElem hl)
        rw [Nat.zero_add] at this
        exact ⟨_, this⟩
      obtain ⟨u, hcell, hfroz⟩ := hc
      have e1 : (n : Int) - 1 - k = ((n - 1 - k : Nat) : Int) := by omega
      have hv2 : ((v : Int) / 2 ^ (k * 8) % 256) = (((UInt8.ofNat (v / 256 ^ k % 256)).toNat : Nat) : Int) := by
        rw [byte_of, show (256 : Nat) ^ k = 2 ^ (k * 8) by rw [show (256 : Nat) = 2 ^ 8 from rfl, ← Nat.pow_mul, Nat.mul_comm]]
        simp
      have HQ : Hid (At (wr.setCell ⟨w.heap.size, n - 1 - k, none⟩ (.int .u8 ((v : Int) / 2 ^ (k * 8) % 256))) w.heap.size 0 (bCells (rowB n (k + 1) v)) ∧ Below w.heap.size w (wr.setCell ⟨w.heap.size, n - 1 - k, none⟩ (.int .u8 ((v : Int) / 2 ^ (k * 8) % 256)))) := Lib.hid (by
        refine ⟨?_, HP.out.2.setCell (by simp) _⟩
        have := HP.out.1.set (n - 1 - k) (by rw [bCells_length, rowB_len _ _ _ hk]; omega) (.int .u8 ((v : Int) / 2 ^ (k * 8) % 256))
        rw [hv2, bCells_set, rowB_set n k v hlt, ← hv2, Nat.zero_add] at this
        exact this)
      clear hv2
      go_wp2
      go_roundw
      case rel => exact ⟨k + 1, by omega, by go_num, HQ⟩
      case measure => simp [RowKit.intOf]; omega
    · have hkn : k = n := by omega
      subst hkn
      have hcv : (convert 60 9 (.slice (some ⟨w.heap.size, 0, none⟩) k k)).run Try.prog wr = .ok (.string ⟨(bigB k v).toArray⟩) wr := by
        have := HP.out.1
        rw [rowB_all] at this
        exact conv_at k k (bigB_length k v) this
      go_wp2
      go_ret
      exact ⟨rfl, HP.out.2⟩
theorem big_out (v : Nat) (n : Int) (h : n < 1 ∨ 8 < n) (w : World) :
    Calls Try.prog 81 #[.int .u64 v, .int .i64 n] w fun e w' => e = .returned (.string ⟨#[]⟩) ∧ Below w.heap.size w w' := by
  by_cases h1 : n < 1
  · clear h
    go_enter Try.func81, Try.ntmps81
    go_wp2
    go_ret
    exact ⟨rfl, Below.refl _ _⟩
  · have h8 : 8 < n := by omega
    have g1 : (n < 1) = False := by simp only [eq_iff_iff, iff_false]; omega
    clear h h1
    go_enter Try.func81, Try.ntmps81
    go_wp2
    go_ret
    exact ⟨rfl, Below.refl _ _⟩
end Go.Proofs.Ytonjdnahplphhaa
/-
  CONTRACT of math/bits.Len64 (by the shelf); a number's bytes against its bits; head.Big of one byte.
-/
namespace Go.Proofs.Ytonjdnahplphhaa
open Go.RowKit
open Go.Lib
open Go.Shelf in
def lays129_ren : Go.Shelf.Ren := ⟨fun | 129 => 78 | n => n, fun | 53 => 33 | 3 => 3 | 4 => 4 | 46 => 88 | 5 => 5 | 9 => 9 | n => n, fun | n => n⟩
theorem lays129 : Go.Proofs.Lays.n129 Try.prog lays129_ren := {
  mixed := by kernel_rfl
  f129 := Try.func78.trans (congrArg some (by kernel_rfl))
  t3 := Try.underlying3
  a3 := Try.isAgg3
  z3 := Try.sizeOf3
  v3 := Try.zeroValue3
  t4 := Try.underlying4
  a4 := Try.isAgg4
  z4 := Try.sizeOf4
  v4 := Try.zeroValue4
  t5 := Try.underlying5
  a5 := Try.isAgg5
  z5 := Try.sizeOf5
  v5 := Try.zeroValue5
  t9 := Try.underlying9
  a9 := Try.isAgg9
  z9 := Try.sizeOf9
  v9 := Try.zeroValue9
  t46 := Try.underlying88
  a46 := Try.isAgg88
  z46 := Try.sizeOf88
  v46 := Try.zeroValue88
  t53 := Try.underlying33
  a53 := Try.isAgg33
  z53 := Try.sizeOf33
  v53 := Try.zeroValue33 }
theorem len64_any (v : Nat) (hv : v < 18446744073709551616) (w : World) :
    Calls Try.prog 78 #[.int .u64 v] w fun e w' => e = .returned (.int .i64 (Lib.bitLen v)) ∧ w = w' := by
  have := Any.bits_Len64 lays129 (v : Int) w (by omega) (by omega)
  rw [Int.toNat_natCast] at this
  exact Calls.mono this fun e w' h => ⟨h.1, h.2.symm⟩
theorem bitLenAux_le : ∀ (f x k : Nat), x < 2 ^ f → (Lib.bitLenAux f x ≤ k ↔ x < 2 ^ k)
  | 0, x, k, h => by
    have : x = 0 := by omega
    subst this
    simp [Lib.bitLenAux, Nat.pow_pos]
  | f + 1, x, k, h => by
    by_cases h0 : x = 0
    · subst h0
      simp [Lib.bitLenAux, Nat.pow_pos]
    · cases k with
      | zero =>
        simp [Lib.bitLenAux, h0]
      | succ k =>
        have ih := bitLenAux_le f (x / 2) k (by rw [Nat.pow_succ] at h; omega)
        rw [Lib.bitLenAux, if_neg h0, Nat.pow_succ]
        omega
theorem bitLen_le (x k : Nat) (h : x < 18446744073709551616) : Lib.bitLen x ≤ k ↔ x < 2 ^ k := bitLenAux_le 64 x k h
theorem big_1 (f : Nat) (X : ByteArray) (h : X = ⟨(bigB 1 f).toArray⟩) (w : World) : Calls Try.prog 81 #[.int .u64 f, .int .i64 1] w fun e w' => e = .returned (.string X) ∧ Below w.heap.size w w' := by
  subst h
  exact big_any f 1 (by omega) (by omega) w
end Go.Proofs.Ytonjdnahplphhaa
/-
  THE SHELF AT THIS DUMP, IN PLAIN WORDS: strings.Builder (a new one, String): contracts that the kit's library proves once over any program; what is laid here is only the table of numbers.
-/
namespace Go.Proofs.Ytonjdnahplphhaa
open Go.Shelf
open Go.RowKit
def lays169_ren : Go.Shelf.Ren := ⟨fun | 169 => 30 | n => n,
  fun | 0 => 0 | 3 => 3 | 5 => 5 | 9 => 9 | 37 => 60 | 70 => 77 | 72 => 79 | 127 => 106 | n => n, fun | n => n⟩
theorem lays169 : Go.Proofs.Lays.n169 Try.prog lays169_ren := {
  mixed := by kernel_rfl
  f169 := Try.func30.trans (congrArg some (by kernel_rfl))
  t0 := Try.underlying0
  a0 := Try.isAgg0
  z0 := Try.sizeOf0
  v0 := Try.zeroValue0
  t3 := Try.underlying3
  a3 := Try.isAgg3
  z3 := Try.sizeOf3
  v3 := Try.zeroValue3
  t9 := Try.underlying9
  a9 := Try.isAgg9
  z9 := Try.sizeOf9
  v9 := Try.zeroValue9
  t37 := Try.underlying60
  a37 := Try.isAgg60
  z37 := Try.sizeOf60
  v37 := Try.zeroValue60
  t70 := Try.underlying77
  a70 := Try.isAgg77
  z70 := Try.sizeOf77
  v70 := Try.zeroValue77
  t72 := Try.underlying79
  a72 := Try.isAgg79
  z72 := Try.sizeOf79
  v72 := Try.zeroValue79
  t127 := Try.underlying106
  a127 := Try.isAgg106
  z127 := Try.sizeOf106
  v127 := Try.zeroValue106 }
theorem builder_Extra169 : Builder.Extra Try.prog lays169_ren where
  sizeBuilder := by kernel_rfl
  liesBuilder := by kernel_rfl
  t5 := Try.underlying5
  a5 := Try.isAgg5
  z5 := Try.sizeOf5
  v5 := Try.zeroValue5
  infoByte := by kernel_rfl
  cellsByte := by kernel_rfl
  sizeByte := by kernel_rfl
  neB5 := by decide
/-- A Builder at block b (blocks from B on are its own) that holds bytes. -/
abbrev IsB (B b : Nat) (bs : List UInt8) (w : World) : Prop := Lib.IsBuilderF 79 5 B b (Lib.byteCells bs) w
/-- A new one. -/
theorem isB_new (B b : Nat) (w : World) (hB : B ≤ b) (h : w.heap[b]? = some (.cells #[.pointer none, .slice none 0 0] 79 (0, 0))) : IsB B b [] w :=
  .inl ⟨hB, .slice none 0 0, h, World.ownsRowF_nil _ _ _ _, by simp [Value.ownBlock]⟩
/-- String, by the shelf. -/
theorem sb_string (B b : Nat) (l : List UInt8) (w : World) (h : IsB B b l w) (hBw : B ≤ w.heap.size) :
    Calls Try.prog 30 #[.pointer (some ⟨b, 0, none⟩)] w fun e w' => e = .returned (.string ⟨l.toArray⟩) ∧ (IsB B b l w' ∧ Below B w w' ∧ Lib.OthersKept 5 (some b) w w') := Any.Builder_String_any_k lays169 builder_Extra169 B b l w h hBw
end Go.Proofs.Ytonjdnahplphhaa
/-
  THE SHELF AT THIS DUMP, IN PLAIN WORDS: strings.Builder (WriteString): contracts that the kit's library proves once over any program; what is laid here is only the table of numbers.
-/
namespace Go.Proofs.Ytonjdnahplphhaa
open Go.Shelf
open Go.RowKit
def lays166_ren : Go.Shelf.Ren := ⟨fun | 166 => 31 | 240 => 54 | 276 => 70 | n => n,
  fun | 0 => 0 | 3 => 3 | 4 => 4 | 5 => 5 | 9 => 9 | 20 => 20 | 37 => 60 | 70 => 77 | 72 => 79 | 75 => 82 | 80 => 80 | 164 => 125 | n => n, fun | n => n⟩
theorem lays166 : Go.Proofs.Lays.n166 Try.prog lays166_ren := {
  mixed := by kernel_rfl
  f166 := Try.func31.trans (congrArg some (by kernel_rfl))
  f240 := Try.func54.trans (congrArg some (by kernel_rfl))
  f276 := Try.func70.trans (congrArg some (by kernel_rfl))
  t0 := Try.underlying0
  a0 := Try.isAgg0
  z0 := Try.sizeOf0
  v0 := Try.zeroValue0
  t3 := Try.underlying3
  a3 := Try.isAgg3
  z3 := Try.sizeOf3
  v3 := Try.zeroValue3
  t4 := Try.underlying4
  a4 := Try.isAgg4
  z4 := Try.sizeOf4
  v4 := Try.zeroValue4
  t9 := Try.underlying9
  a9 := Try.isAgg9
  z9 := Try.sizeOf9
  v9 := Try.zeroValue9
  t20 := Try.underlying20
  a20 := Try.isAgg20
  z20 := Try.sizeOf20
  v20 := Try.zeroValue20
  t37 := Try.underlying60
  a37 := Try.isAgg60
  z37 := Try.sizeOf60
  v37 := Try.zeroValue60
  t70 := Try.underlying77
  a70 := Try.isAgg77
  z70 := Try.sizeOf77
  v70 := Try.zeroValue77
  t72 := Try.underlying79
  a72 := Try.isAgg79
  z72 := Try.sizeOf79
  v72 := Try.zeroValue79
  t75 := Try.underlying82
  a75 := Try.isAgg82
  z75 := Try.sizeOf82
  v75 := Try.zeroValue82
  t164 := Try.underlying125
  a164 := Try.isAgg125
  z164 := Try.sizeOf125
  v164 := Try.zeroValue125 }
theorem builder_Extra166 : Builder.Extra Try.prog lays166_ren where
  sizeBuilder := by kernel_rfl
  liesBuilder := by kernel_rfl
  t5 := Try.underlying5
  a5 := Try.isAgg5
  z5 := Try.sizeOf5
  v5 := Try.zeroValue5
  infoByte := by kernel_rfl
  cellsByte := by kernel_rfl
  sizeByte := by kernel_rfl
  neB5 := by decide
/-- WriteString, by the shelf. -/
theorem sb_write (B b : Nat) (bs : List UInt8) (s : ByteArray) (w : World) (h : IsB B b bs w) (hlen : bs.length + s.size ≤ 140737488355328) (hBw : B ≤ w.heap.size) :
    Calls Try.prog 31 #[.pointer (some ⟨b, 0, none⟩), .string s] w fun e w' => e = .returned (.tuple #[.int .i64 s.size, .nilIface]) ∧ (IsB B b (bs ++ s.data.toList) w' ∧ Below B w w' ∧ Lib.OthersKept 5 (some b) w w') := by
  refine (Any.Builder_WriteString_k lays166 builder_Extra166 B b (Lib.byteCells bs) s w h (by rw [Lib.byteCells_length]; exact hlen) hBw).mono ?_
  rintro e w' ⟨rfl, h1, h2, h3⟩
  refine ⟨rfl, ?_, h2, h3⟩
  have : Lib.byteCells (bs ++ s.data.toList) = Lib.byteCells bs ++ Lib.strCells s := by
    rw [Lib.byteCells_append]
    rfl
  unfold IsB
  rw [this]
  exact .inr h1
end Go.Proofs.Ytonjdnahplphhaa
/-
  A strings.Builder beside steps in blocks of other types.
-/
namespace Go.Proofs.Ytonjdnahplphhaa
open Go.RowKit
open Go.Lib
theorem isB_off {B b : Nat} {bs : List UInt8} {w w' : World} {ts : List Nat} (h : IsB B b bs w) (k : Off ts w w') (h1 : 79 ∉ ts) (h2 : 5 ∉ ts) : IsB B b bs w' := by
  have one : ∀ p, Lib.BuilderAtF 79 5 B b p (Lib.byteCells bs) w → Lib.BuilderAtF 79 5 B b p (Lib.byteCells bs) w' := by
    rintro p ⟨hB, v, hb, ⟨hl, hown⟩, hv⟩
    refine ⟨hB, v, k _ _ _ _ hb h1, ⟨hl, ?_⟩, hv⟩
    rcases hown with h0 | ⟨g, cap, cur, fz, hv', hg, hc, r⟩
    · exact .inl h0
    · exact .inr ⟨g, cap, cur, fz, hv', hg, k _ _ _ _ hc h2, r⟩
  rcases h with h | h
  · exact .inl (one _ h)
  · exact .inr (one _ h)
theorem IsB.typ {B b : Nat} {bs : List UInt8} {w : World} (h : IsB B b bs w) : ∃ cs fr, w.heap[b]? = some (.cells cs 79 fr) := by
  rcases h with ⟨_, v, hb, _⟩ | ⟨_, v, hb, _⟩ <;> exact ⟨_, _, hb⟩
/-- A step of a Builder. -/
theorem off_kept {B b : Nat} {bs : List UInt8} {w w' : World} (h : IsB B b bs w) (k : Lib.OthersKept 5 (some b) w w') : Off [79, 5] w w' := by
  intro i c t fr hi ht
  refine k i _ hi ?_ ?_
  · intro e
    cases e
    obtain ⟨cs, fr', hc⟩ := h.typ
    rw [hi] at hc
    cases hc
    exact ht (by simp)
  · intro c' fz e
    cases e
    exact ht (by simp)

end Go.Proofs.Ytonjdnahplphhaa
/-
  CONTRACT of truchmanref1.May.
-/
namespace Go.Proofs.Ytonjdnahplphhaa
open Go.RowKit
open Go.Lib
theorem may_any (e : Ev) (w : World) : Calls Try.prog 16 #[evV e] w fun r w' => r = .returned (.bool (decide (mayE e))) ∧ Below w.heap.size w w' := by
  obtain ⟨k, y, m, t, c⟩ := e
  have h1 := Lib.hid (up_alloc (Below.refl w.heap.size w) (.cells #[.int .i64 k, .bool y, .int .u64 m, .string t, .int .i64 c] 35))
  have q : ∀ n : Int, k ≠ n → (k != n) = true := fun n h => by simpa using h
  simp only [evV]
  by_cases h0 : 0 ≤ k
  · have t0 : (0 ≤ k) = True := by simp [h0]
    by_cases h7 : k ≤ 7
    · have t7 : (k ≤ 7) = True := by simp [h7]
      by_cases h5 : k = 5
      · subst h5
        have hmm : mayE ⟨5, y, m, t, c⟩ ↔ -1 ≤ c := by unfold mayE; simp
        rw [decide_eq_decide.2 hmm]
        by_cases hc : -1 ≤ c
        · have hc1 : (-1 ≤ c) = True := by simp [hc]
          rw [decide_eq_true hc]
          clear hc hmm q t0 t7 h0 h7
          go_enter Try.func16, Try.ntmps16
          go_wp2
          go_ret
          exact ⟨rfl, h1.out⟩
        · have hc1 : (-1 ≤ c) = False := by simp; omega
          rw [decide_eq_false hc]
          clear hc hmm q t0 t7 h0 h7
          go_enter Try.func16, Try.ntmps16
          go_wp2
          go_ret
          exact ⟨rfl, h1.out⟩
      · by_cases h6 : k = 6
        · subst h6
          have hmm : mayE ⟨6, y, m, t, c⟩ ↔ -1 ≤ c := by unfold mayE; simp
          rw [decide_eq_decide.2 hmm]
          by_cases hc : -1 ≤ c
          · have hc1 : (-1 ≤ c) = True := by simp [hc]
            rw [decide_eq_true hc]
            clear hc hmm q t0 t7 h0 h7
            go_enter Try.func16, Try.ntmps16
            go_wp2
            go_ret
            exact ⟨rfl, h1.out⟩
          · have hc1 : (-1 ≤ c) = False := by simp; omega
            rw [decide_eq_false hc]
            clear hc hmm q t0 t7 h0 h7
            go_enter Try.func16, Try.ntmps16
            go_wp2
            go_ret
            exact ⟨rfl, h1.out⟩
        · have hm : mayE ⟨k, y, m, t, c⟩ := ⟨h0, h7, fun h => by simp only at h; omega⟩
          rw [decide_eq_true hm]
          have q5 := q 5 h5
          have q6 := q 6 h6
          clear q h5 h6 h0 h7 hm
          go_enter Try.func16, Try.ntmps16
          go_wp2
          all_goals go_ret
          all_goals exact ⟨rfl, h1.out⟩
    · have t7 : (k ≤ 7) = False := by simp; omega
      rw [decide_eq_false (fun h => h7 h.2.1)]
      clear q h0 h7
      go_enter Try.func16, Try.ntmps16
      go_wp2
      all_goals go_ret
      all_goals exact ⟨rfl, h1.out⟩
  · have t0 : (0 ≤ k) = False := by simp; omega
    rw [decide_eq_false (fun h => h0 h.1)]
    clear q h0
    go_enter Try.func16, Try.ntmps16
    go_wp2
    all_goals go_ret
    all_goals exact ⟨rfl, h1.out⟩
end Go.Proofs.Ytonjdnahplphhaa
/-
  TWO PLAIN PARTS held against each other, by == and !=.
-/
namespace Go.Proofs.Ytonjdnahplphhaa
open Go.RowKit
open Go.Lib
/-- Two plain parts, cell by cell. -/
def sameE (X Y : Ev) : Bool := (X.k == Y.k) && (X.y == Y.y) && (X.m == Y.m) && (X.t.toList == Y.t.toList) && (X.c == Y.c)
theorem bytes_eq {a b : ByteArray} (h : a.toList = b.toList) : a = b := by
  apply ByteArray.ext
  simp only [ByteArray.toList_eq] at h
  exact Array.ext' h
theorem sameE_iff (X Y : Ev) : sameE X Y = true ↔ X = Y := by
  obtain ⟨k, y, m, t, c⟩ := X
  obtain ⟨k', y', m', t', c'⟩ := Y
  simp only [sameE, Bool.and_eq_true, beq_iff_eq, Ev.mk.injEq]
  constructor
  · rintro ⟨⟨⟨⟨h1, h2⟩, h3⟩, h4⟩, h5⟩
    exact ⟨h1, h2, h3, bytes_eq h4, h5⟩
  · rintro ⟨h1, h2, h3, h4, h5⟩
    exact ⟨⟨⟨⟨h1, h2⟩, h3⟩, by rw [h4]⟩, h5⟩
theorem sameE_refl (X : Ev) : sameE X X = true := (sameE_iff X X).2 rfl
theorem sameE_comm (X Y : Ev) : sameE X Y = sameE Y X := by
  rw [Bool.eq_iff_iff, sameE_iff, sameE_iff]
  exact eq_comm
theorem sameE_ne {X Y : Ev} (h : X ≠ Y) : sameE X Y = false := by
  cases hs : sameE X Y with
  | false => rfl
  | true => exact absurd ((sameE_iff X Y).1 hs) h
theorem natb (a b : Nat) : (((a : Int)) == (b : Int)) = (a == b) := by
  rw [Bool.eq_iff_iff, beq_iff_eq, beq_iff_eq]
  omega
theorem ev_eql (X Y : Ev) (W : World) : (binOp .eql 35 (evV X) (evV Y)).run Try.prog W = .ok (.bool (sameE X Y)) W := by
  have hp : Try.prog.stoodInHeld 35 = false := by kernel_rfl
  have hs : Try.prog.underlying 35 = some (.struct (Try.prog.fieldsOf 35)) := by kernel_rfl
  simp only [run_eql_struct, evV]
  rw [run_equalIn_agg _ _ _ _ _ hs hp]
  simp [go_sem]
  have h3' : ((X.m : Int) = (Y.m : Int)) ↔ X.m = Y.m := by omega
  simp only [h3']
  by_cases h1 : X.k = Y.k <;> by_cases h2 : X.y = Y.y <;> by_cases h3 : X.m = Y.m <;> by_cases h4 : X.t.toList = Y.t.toList <;> by_cases h5 : X.c = Y.c <;> simp [sameE, h1, h2, h3, h4, h5]
theorem ev_neq (X Y : Ev) (W : World) : (binOp .neq 35 (evV X) (evV Y)).run Try.prog W = .ok (.bool (!sameE X Y)) W := by
  have hp : Try.prog.stoodInHeld 35 = false := by kernel_rfl
  have hs : Try.prog.underlying 35 = some (.struct (Try.prog.fieldsOf 35)) := by kernel_rfl
  simp only [run_neq_struct, evV]
  rw [run_equalIn_agg _ _ _ _ _ hs hp]
  simp [go_sem]
  have h3' : ((X.m : Int) = (Y.m : Int)) ↔ X.m = Y.m := by omega
  simp only [h3']
  by_cases h1 : X.k = Y.k <;> by_cases h2 : X.y = Y.y <;> by_cases h3 : X.m = Y.m <;> by_cases h4 : X.t.toList = Y.t.toList <;> by_cases h5 : X.c = Y.c <;> simp [sameE, h1, h2, h3, h4, h5]
end Go.Proofs.Ytonjdnahplphhaa
/-
  GENERAL (of the program the types api.Ev, []api.Ev alone): lists of parts in memory: what came in, what a call makes and grows.
-/
namespace Go.Proofs.Ytonjdnahplphhaa
open Go.RowKit
open Go.Lib
/-- The parts ahead of a place. -/
def pre (E : Nat → Ev) (j : Nat) : List Ev := (List.range j).map E
theorem pre_succ (E : Nat → Ev) (j : Nat) : pre E (j + 1) = pre E j ++ [E j] := by simp [pre, List.range_succ]
theorem pre_split (E : Nat → Ev) (j k : Nat) : ∃ r, pre E (j + k) = pre E j ++ r := by
  induction k with
  | zero => exact ⟨[], by simp⟩
  | succ k ih =>
    obtain ⟨r, hr⟩ := ih
    exact ⟨r ++ [E (j + k)], by rw [← Nat.add_assoc, pre_succ, hr, List.append_assoc]⟩
theorem wrap_succ {j : Nat} (h : j ≤ 1000000) : RowKit.wrap64 ((j : Int) + 1) = (j : Int) + 1 := by
  unfold RowKit.wrap64
  omega
theorem EvsAt.cells {w : World} {B n : Nat} {A : Option Addr} {E : Nat → Ev} (h : EvsAt w B A n E) {i : Nat} (hi : i < n) : ∃ b off, A = some ⟨b, off, none⟩ ∧ b < B ∧
    w.cell? ⟨b, off + i * 5, none⟩ = some (.int .i64 (E i).k) ∧ w.cell? ⟨b, off + i * 5 + 1, none⟩ = some (.bool (E i).y) ∧ w.cell? ⟨b, off + i * 5 + 2, none⟩ = some (.int .u64 (E i).m) ∧
    w.cell? ⟨b, off + i * 5 + 3, none⟩ = some (.string (E i).t) ∧ w.cell? ⟨b, off + i * 5 + 4, none⟩ = some (.int .i64 (E i).c) := by
  obtain ⟨b, off, rfl, hb, hc⟩ := h (by omega)
  exact ⟨b, off, rfl, hb, hc i hi 0 _ rfl, hc i hi 1 _ rfl, hc i hi 2 _ rfl, hc i hi 3 _ rfl, hc i hi 4 _ rfl⟩
def evsC : List Ev → List Value
  | [] => []
  | e :: r => evCells e ++ evsC r
theorem evsC_append (L K : List Ev) : evsC (L ++ K) = evsC L ++ evsC K := by
  induction L with
  | nil => rfl
  | cons e L ih => simp only [List.cons_append, evsC, ih, List.append_assoc]
theorem evsC_length (L : List Ev) : (evsC L).length = L.length * 5 := by
  induction L with
  | nil => rfl
  | cons e L ih =>
    rw [evsC, List.length_append, ih]
    simp [evCells]
    omega
theorem evsC_one (L : List Ev) : ∀ u ∈ evsC L, u.oneCell' = true := by
  induction L with
  | nil => intro u h; simp [evsC] at h
  | cons e L ih =>
    intro u h
    rw [evsC, List.mem_append] at h
    rcases h with h | h
    · simp [evCells] at h
      rcases h with rfl | rfl | rfl | rfl | rfl <;> rfl
    · exact ih u h
def getE (L : List Ev) (i : Nat) : Ev := L[i]?.getD evZ
theorem pre_getE (L : List Ev) : pre (getE L) L.length = L := by
  apply List.ext_getElem
  · simp [pre]
  · intro i h1 h2
    simp [pre, getE, h2]
theorem evsC_get (L : List Ev) : ∀ (i j : Nat), i < L.length → j < 5 → (evsC L)[i * 5 + j]? = (evCells (getE L i))[j]? := by
  induction L with
  | nil => intro i j h; simp at h
  | cons e L ih =>
    intro i j hi hj
    rw [evsC]
    cases i with
    | zero =>
      rw [List.getElem?_append_left (by simp [evCells]; omega)]
      simp [getE]
    | succ i =>
      rw [List.getElem?_append_right (by simp [evCells]; omega)]
      have h1 : (i + 1) * 5 + j - (evCells e).length = i * 5 + j := by simp [evCells]; omega
      rw [h1, ih i j (by simpa using hi) hj]
      simp [getE]
theorem pre_length (E : Nat → Ev) (n : Nat) : (pre E n).length = n := by simp [pre]
theorem getE_pre (E : Nat → Ev) (n i : Nat) (h : i < n) : getE (pre E n) i = E i := by simp [getE, pre, h]
/-- What came in is a source for append. -/
theorem EvsAt.src {P : Program} {w : World} {B n c : Nat} {A : Option Addr} {E : Nat → Ev} (h : EvsAt w B A n E) {tx e' : TypeId} (hk : P.underlying tx = some (.slice e')) (hA : n = 0 → A = none) : Src P 5 tx (.slice A n c) n (evsC (pre E n)) w := by
  by_cases h0 : n = 0
  · subst h0
    rw [hA rfl]
    exact Src.ofNil w hk c
  · obtain ⟨b, off, rfl, hb, hc⟩ := h (by omega)
    refine Src.ofSlice w hk _ n c _ (by rw [evsC_length, pre_length]) (fun j u hu => ?_) (evsC_one _)
    have hj : j < n * 5 := by have := (List.getElem?_eq_some_iff.1 hu).1; rwa [evsC_length, pre_length] at this
    have h1 : j = j / 5 * 5 + j % 5 := by omega
    have h2 : j / 5 < n := by omega
    rw [h1, evsC_get _ _ _ (by rw [pre_length]; exact h2) (by omega), getE_pre E n _ h2] at hu
    rw [add_flat]
    have := hc (j / 5) h2 (j % 5) u hu
    rwa [Nat.add_assoc, ← h1] at this
/-- A list of parts that a call made. -/
theorem evs_win {w : World} {a : Option Addr} {n m cap : Nat} {T : TypeId} {L : List Ev} (h : Win w T 5 (.slice a m cap) m (evsC L)) (hn : n ≤ L.length) : EvsAt w w.heap.size a n (getE L) := fun h0 => by
  have hm : 0 < m := by
    have h1 := h.1
    rw [evsC_length] at h1
    omega
  obtain ⟨g, off, cap', hv, _, _, hg, _, hc⟩ := h.form hm
  cases hv
  refine ⟨g, off, rfl, hg, fun i hi j u hu => ?_⟩
  have hj : j < 5 := (List.getElem?_eq_some_iff.1 hu).1
  have := (hc (i * 5 + j) u (by rw [evsC_get L i j (by omega) hj]; exact hu)).1
  rwa [← Nat.add_assoc] at this
theorem pre_ext {E F : Nat → Ev} {n : Nat} (h : ∀ i, i < n → E i = F i) : pre E n = pre F n := by
  unfold pre
  exact List.map_congr_left fun i hi => h i (List.mem_range.1 hi)
theorem ok_getE {L : List Ev} (h : ∀ e ∈ L, EvOk e) (i : Nat) (hi : i < L.length) : EvOk (getE L i) := by
  have : getE L i ∈ L := by
    simp only [getE, List.getElem?_eq_getElem hi, Option.getD_some]
    exact List.getElem_mem hi
  exact h _ this
theorem ok_small (k : Int) (y : Bool) (m : Nat) (t : ByteArray) (c : Int) (hk : -100 ≤ k ∧ k ≤ 100) (hm : m ≤ 100) (ht : t.size ≤ 100) (hc : -100 ≤ c ∧ c ≤ 100) : EvOk ⟨k, y, m, t, c⟩ :=
  ⟨⟨by show _ ≤ k; omega, by show k ≤ _; omega⟩, by show m < _; omega, ⟨by show _ ≤ c; omega, by show c ≤ _; omega⟩, by show t.size ≤ _; omega⟩
theorem win_list (w : World) (L : List Ev) (T : TypeId) (m : Nat) (hm : L.length = m) (h0 : m ≤ 900) : Win (w.alloc (.cells (evsC L).toArray T)) T 5 (.slice (some ⟨w.heap.size, 0, none⟩) m m) m (evsC L) := by
  have hl := evsC_length L
  rw [hm] at hl
  exact ⟨hl, .inr ⟨w.heap.size, 0, m, _, rfl, heap_alloc_new w _, Nat.le_refl _, by simp [hl], by unfold maxLen; omega, by simp [← hl]⟩⟩
/-- What came in is a source for append. -/
theorem EvsAt.from {P : Program} {w : World} {B n c : Nat} {A : Option Addr} {E : Nat → Ev} (h : EvsAt w B A n E) {tx e' : TypeId} (hk : P.underlying tx = some (.slice e')) : Src P 5 tx (.slice A n c) n (evsC (pre E n)) w := by
  by_cases h0 : n = 0
  · subst h0
    cases A with
    | none => exact Src.ofNil w hk c
    | some a => exact Src.ofSlice w hk a 0 c _ (by simp [pre, evsC]) (fun j u hu => by simp [pre, evsC] at hu) (evsC_one _)
  · exact h.src hk (fun h1 => absurd h1 h0)
theorem info_ev : (Try.prog.info? 35).map (fun i => (i.zero, i.size, i.bytes)) = some (some (.agg #[.int .i64 0, .bool false, .int .u64 0, .string ⟨#[]⟩, .int .i64 0]), 5, 48) := by kernel_rfl
/-- A list that a call made, of blocks that were not there. -/
def Made (w0 w : World) (v : Value) (n : Nat) (L : List Ev) : Prop := Below w0.heap.size w0 w ∧ Win w 35 5 v n (evsC L) ∧ ∀ k ∈ Value.owner v, w0.heap.size ≤ k
theorem Made.go {w0 w w' : World} {v : Value} {n : Nat} {L : List Ev} (h : Made w0 w v n L) (k : Below w.heap.size w w') : Made w0 w' v n L :=
  ⟨up_trans h.1 k, h.2.1.keep fun g hg => k.block g (h.2.1.lt g hg), h.2.2⟩
/-- More of them. -/
theorem made_more {w0 wA w w2 : World} {v v' : Value} {n m : Nat} {L K : List Ev} (h : Made w0 wA v n L) (hA : Below wA.heap.size wA w) (hW : Win w2 35 5 v' (n + m) (evsC L ++ evsC K)) (hG : w.grownBy w2 v.ownBlock)
    (hO : v'.ownBlock = v.ownBlock ∨ v'.ownBlock = some w.heap.size ∧ w.heap.size < w2.heap.size) : Made w0 w2 v' (n + m) (L ++ K) := by
  have hw0 : w0.heap.size ≤ w.heap.size := Nat.le_trans h.1.size hA.size
  refine ⟨(up_trans h.1 hA).grown hG hw0 (fun k hk => h.2.2 k ((ob_iff _ _).1 hk)), by rw [evsC_append]; exact hW, fun k hk => ?_⟩
  rcases hO with e | ⟨e, _⟩
  · exact h.2.2 k ((ob_iff _ _).1 (e ▸ (ob_iff _ _).2 hk))
  · have := (ob_iff _ _).2 hk
    rw [e] at this
    cases this
    exact hw0
theorem made_nil (w : World) : Made w w (.slice none 0 0) 0 [] := ⟨Below.refl _ _, Win.nil_ _ _ _, fun k hk => by simp [Value.owner] at hk⟩
theorem evs_one (e : Ev) : evsC [e] = evCells e := by simp [evsC]
theorem slice_hi {t : TypeId} {g off n cap k : Nat} (ht : Try.prog.underlying t = some (.slice 35)) (hk : k ≤ cap) (W : World) :
    (Instr.slice t (.slice (some ⟨g, off, none⟩) n cap) none (some (.int .i64 (k : Int))) none).run Try.prog W = .ok (.slice (some ⟨g, off, none⟩) k cap) W := by
  have ht' : Try.prog.underlying t = some (.slice (Try.prog.elem t)) := by simp [Program.elem, ht]
  have he : Try.prog.elem t = 35 := by simp [Program.elem, ht]
  have hz : ∀ W, (Go.sizeOf 35).run Try.prog W = .ok 5 W := fun W => by kernel_rfl
  rw [run_slice_h W t _ _ _ ht' .i64 _ (by omega) (by omega), he, hz]
  by_cases h0 : cap = 0 <;> simp [Result.andThen, sliced, h0, add_flat]
theorem EvsAt.grow {w w' : World} {n : Nat} {A : Option Addr} {E : Nat → Ev} (h : EvsAt w w.heap.size A n E) (k : Below w.heap.size w w') : EvsAt w' w'.heap.size A n E := fun h0 => by
  obtain ⟨b, off, hA, hb, hc⟩ := h.below k h0
  exact ⟨b, off, hA, Nat.lt_of_lt_of_le hb k.size, hc⟩
/-- A list that a call wrote out. -/
theorem made_new {w wr : World} (h : Below w.heap.size w wr) (L : List Ev) (m : Nat) (hm : L.length = m) (h0 : m ≤ 900) : Made w (wr.alloc (.cells (evsC L).toArray 35)) (.slice (some ⟨wr.heap.size, 0, none⟩) m m) m L :=
  ⟨up_alloc h _, win_list wr L _ m hm h0, fun k hk => by simp [Value.owner] at hk; subst hk; exact h.size⟩
end Go.Proofs.Ytonjdnahplphhaa
/-
  CONTRACT of truchmanbook.SameEvs: two lists that hold the same.
-/
namespace Go.Proofs.Ytonjdnahplphhaa
open Go.RowKit
open Go.Lib
/-- Two lists that hold the same. -/
theorem same_evs (A A' : Option Addr) (n cp cp' : Nat) (E : Nat → Ev) (w : World) (hn : n ≤ 900) (hE : EvsAt w w.heap.size A n E) (hE' : EvsAt w w.heap.size A' n E) :
    Calls Try.prog 32 #[.slice A n cp, .slice A' n cp'] w fun r w' => r = .returned (.bool true) ∧ Below w.heap.size w w' := by
  have HE := Lib.hid hE
  have HE' := Lib.hid hE'
  clear hE hE'
  go_enter Try.func32, Try.ntmps32
  go_wp2
  go_loopw [5] (fun i wr => ∃ j : Nat, i = .int .i64 j ∧ j ≤ n ∧ Hid (Below w.heap.size w wr)) (fun i _ => n - (RowKit.intOf i).toNat)
  case atStart => exact ⟨0, rfl, by omega, Lib.hid (Below.refl _ _)⟩
  case round =>
    obtain ⟨j, rfl, hjn, HB⟩ := hrel
    by_cases hlt : j < n
    · obtain ⟨b, off, rfl, hb, x0, x1, x2, x3, x4⟩ := (HE.out.below HB.out).cells hlt
      obtain ⟨b', off', rfl, hb', y0, y1, y2, y3, y4⟩ := (HE'.out.below HB.out).cells hlt
      have he := fun W => ev_eql (E j) (E j) W
      rw [sameE_refl] at he
      generalize E j = e at *
      obtain ⟨k, y, m, t, c⟩ := e
      simp only [evV] at he x0 x1 x2 x3 x4 y0 y1 y2 y3 y4
      go_wp2
      go_quiet (fail)
      go_wp2
      go_roundw
      case rel => exact ⟨j + 1, rfl, hlt, Lib.hid (below_drN HB.out _)⟩
      case measure => simp [RowKit.intOf]; omega
    · obtain rfl : j = n := by omega
      go_wp2
      go_ret
      exact ⟨rfl, HB.out⟩
end Go.Proofs.Ytonjdnahplphhaa
/-
  CONTRACTS of package truchmanbook: copyEvs, LentEvs, StaysEvs.
-/
namespace Go.Proofs.Ytonjdnahplphhaa
open Go.RowKit
open Go.Lib
set_option maxHeartbeats 1000000 in
theorem ev_copy (A : Option Addr) (n cp : Nat) (E : Nat → Ev) (w : World) (hn : n ≤ 200) (hE : EvsAt w w.heap.size A n E) :
    Calls Try.prog 29 #[.slice A n cp] w fun r w' => ∃ v, r = .returned v ∧ Made w w' v n (pre E n) := by
  have HE := Lib.hid hE
  clear hE
  go_enter Try.func29, Try.ntmps29
  go_wp2_with (at_builtin; refine wpList_append_win rfl _ _ _ rfl Try.underlying22 info_ev rfl rfl (Win.nil_ _ _ _) _ rfl n _ (HE.out.from Try.underlying22) ?e1 ?e2 ?_)
  case e1 => unfold maxLen; omega
  case e2 => omega
  intro v2 w2 hW2 hG2 hO2
  have HM : Hid (Made w w2 v2 n (pre E n)) := Lib.hid (by
    have h := made_more (K := pre E n) (m := n) (made_nil w) (Below.refl _ _) (by simpa [evsC] using hW2.out) hG2.out (by simpa using hO2.out)
    simpa using h)
  clear hW2 hG2 hO2
  go_wp2
  go_ret
  exact ⟨_, rfl, HM.out⟩
def evMark : Ev := ⟨0, false, 0, ⟨#[]⟩, -77⟩
set_option maxHeartbeats 1000000 in
theorem lent_any (A : Option Addr) (n cp : Nat) (E : Nat → Ev) (w : World) (hn : n ≤ 200) (hE : EvsAt w w.heap.size A n E) :
    Calls Try.prog 17 #[.slice A n cp] w fun r w' => ∃ g off cap, r = .returned (.slice (some ⟨g, off, none⟩) n cap) ∧ n + 1 ≤ cap ∧ cap ≤ 9223372036854775807 ∧ Made w w' (.slice (some ⟨g, off, none⟩) (n + 1) cap) (n + 1) (pre E n ++ [evMark]) := by
  have HE := Lib.hid hE
  clear hE
  go_enter Try.func17, Try.ntmps17
  go_wp2_with fail
  refine (ev_copy A n cp E _ hn HE.out).mono ?_
  rintro e w1 ⟨v1, rfl, h1⟩
  have H1 := Lib.hid h1
  clear h1
  obtain ⟨a1, c1, rfl, _, _⟩ := H1.out.2.1.slice_form
  go_wp2_with (at_builtin; refine wpList_append_win rfl _ _ _ rfl Try.underlying22 info_ev rfl rfl (H1.out.2.1.alloc _) _ rfl 1 _ (src_new _ Try.underlying22 5 1 (evCells evMark) 35 _ rfl (by rw [← evs_one]; exact evsC_one _) (heap_alloc_new w1 _)) ?e1 ?e2 ?_)
  case e1 => unfold maxLen; omega
  case e2 => omega
  intro v2 w2 hW2 hG2 hO2
  have hM : Made w w2 v2 (n + 1) (pre E n ++ [evMark]) := made_more (K := [evMark]) (m := 1) H1.out (up_alloc (Below.refl _ _) _) (by simpa [evs_one] using hW2.out) hG2.out (by simpa using hO2.out)
  obtain ⟨g, off, cap, rfl, h1, h2, _, _, _⟩ := hM.2.1.form (by omega)
  have HM := Lib.hid hM
  clear hW2 hG2 hO2 hM
  have hs := fun W => slice_hi (g := g) (off := off) (n := n + 1) (cap := cap) (k := n) Try.underlying22 (by omega) W
  go_wp2
  go_ret
  exact ⟨g, off, cap, rfl, h1, h2, HM.out⟩
set_option maxHeartbeats 1000000 in
theorem stays_any (g off cap : Nat) (A' : Option Addr) (n cp' : Nat) (E : Nat → Ev) (w : World) (hn : n ≤ 200) (hc : n + 1 ≤ cap) (hW : Win w 35 5 (.slice (some ⟨g, off, none⟩) (n + 1) cap) (n + 1) (evsC (pre E n ++ [evMark]))) (hE' : EvsAt w w.heap.size A' n E) :
    Calls Try.prog 19 #[.slice (some ⟨g, off, none⟩) n cap, .slice A' n cp'] w fun r w' => r = .returned (.bool true) ∧ Below w.heap.size w w' := by
  have hE : EvsAt w w.heap.size (some ⟨g, off, none⟩) n E := fun h0 => by
    have h1 := evs_win (n := n) hW (by simp [pre_length])
    obtain ⟨b, o, hv, hb, hx⟩ := h1 h0
    refine ⟨b, o, hv, hb, fun i hi j u hu => hx i hi j u ?_⟩
    rw [show getE (pre E n ++ [evMark]) i = E i by simp [getE, pre, List.getElem?_append, hi]]
    exact hu
  have hS := fun cp => same_evs (some ⟨g, off, none⟩) A' n cp cp' E w (by omega) hE hE'
  have HS := Lib.hid hS
  have hlast : EvsAt w w.heap.size (some ⟨g, off, none⟩) (n + 1) (getE (pre E n ++ [evMark])) := evs_win hW (by simp [pre_length])
  obtain ⟨b, o, hv, hb, x0, x1, x2, x3, x4⟩ := hlast.cells (show n < n + 1 by omega)
  simp only [Option.some.injEq, Addr.mk.injEq, and_true] at hv
  obtain ⟨rfl, rfl⟩ := hv
  rw [show getE (pre E n ++ [evMark]) n = evMark by simp [getE, pre]] at x4
  simp only [evMark] at x4
  have X4 : Hid (∀ w', Below w.heap.size w w' → w'.cell? ⟨g, off + n * 5 + 4, none⟩ = some (.int .i64 (-77))) := Lib.hid fun w' h => (h.cell hb).trans x4
  have hs := fun W => slice_hi (g := g) (off := off) (n := n) (cap := cap) (k := n + 1) Try.underlying22 (by omega) W
  clear hS hlast x0 x1 x2 x3 x4 hE hE' hW
  go_enter Try.func19, Try.ntmps19
  go_wp2_with fail
  refine (HS.out _).mono ?_
  rintro e w1 ⟨rfl, b1⟩
  have x4 := X4.out _ b1
  have B1 := Lib.hid b1
  clear b1
  go_wp2
  go_ret
  exact ⟨rfl, B1.out⟩
end Go.Proofs.Ytonjdnahplphhaa
/-
  CONTRACTS of the book's documents out of numbers (truchmanbook.Doc, text, Open).
-/
namespace Go.Proofs.Ytonjdnahplphhaa
open Go.RowKit
open Go.Lib
def pieceL (i : Nat) : List UInt8 :=
  if i = 0 then [97] else if i = 1 then [34] else if i = 2 then [92] else if i = 3 then [10] else if i = 4 then [195, 169] else if i = 5 then [1] else if i = 6 then [240, 157, 132, 158] else [122]
/-- A text out of a number, as the loop makes it: k rounds are left. -/
def textGo (x : Nat) : Nat → List UInt8 → List UInt8
  | 0, acc => acc
  | k + 1, acc => textGo x k (acc ++ pieceL (x / 2 ^ ((k + 1) % 8) % 8))
def textL (x : Nat) : List UInt8 := textGo x (x % 8) []
theorem piece_len (i : Nat) : (pieceL i).length ≤ 4 := by
  unfold pieceL
  repeat' split
  all_goals simp
theorem and_nat (r m : Nat) (h : r < 9223372036854775808) (hm : m < 9223372036854775808) : bits .and .i64 (r : Int) (m : Int) = ((r &&& m : Nat) : Int) := by
  have h1 : (BitVec.ofInt 64 (r : Int)).toNat = r := by rw [BitVec.ofInt_natCast, BitVec.toNat_ofNat]; exact Nat.mod_eq_of_lt (by omega)
  have h2 : (BitVec.ofInt 64 (m : Int)).toNat = m := by rw [BitVec.ofInt_natCast, BitVec.toNat_ofNat]; exact Nat.mod_eq_of_lt (by omega)
  show IntKind.i64.wrap ((BitVec.ofInt 64 (r : Int) &&& BitVec.ofInt 64 (m : Int)).toNat : Int) = _
  have h3 : r &&& m ≤ m := Nat.and_le_right
  rw [BitVec.toNat_and, h1, h2, IntKind.wrap_i64]
  omega
theorem dand7 (r : Nat) (h : r < 65536) : bits .and .i64 (r : Int) 7 = ((r % 8 : Nat) : Int) := by
  have := and_nat r 7 (by omega) (by omega)
  rw [show r &&& 7 = r % 8 from Nat.and_two_pow_sub_one_eq_mod r 3] at this
  exact this
theorem catD (l k : List UInt8) : (⟨l.toArray⟩ : ByteArray) ++ ⟨k.toArray⟩ = ⟨(l ++ k).toArray⟩ := by
  apply ByteArray.ext
  simp
theorem piece_at (i : Nat) (hi : i < 8) (h : i < [Value.string ⟨#[97]⟩, .string ⟨#[34]⟩, .string ⟨#[92]⟩, .string ⟨#[10]⟩, .string ⟨#[195, 169]⟩, .string ⟨#[1]⟩, .string ⟨#[240, 157, 132, 158]⟩, .string ⟨#[122]⟩].length) :
    ([Value.string ⟨#[97]⟩, .string ⟨#[34]⟩, .string ⟨#[92]⟩, .string ⟨#[10]⟩, .string ⟨#[195, 169]⟩, .string ⟨#[1]⟩, .string ⟨#[240, 157, 132, 158]⟩, .string ⟨#[122]⟩])[i]'h = .string ⟨(pieceL i).toArray⟩ := by
  match i, hi with
  | 0, _ => rfl
  | 1, _ => rfl
  | 2, _ => rfl
  | 3, _ => rfl
  | 4, _ => rfl
  | 5, _ => rfl
  | 6, _ => rfl
  | 7, _ => rfl
set_option maxHeartbeats 1000000 in
theorem text_any (x : Nat) (hx : x < 65536) (w : World) : Calls Try.prog 35 #[.int .i64 x] w fun r w' => r = .returned (.string ⟨(textL x).toArray⟩) ∧ Below w.heap.size w w' := by
  obtain ⟨Z, hZ⟩ : ∃ Z, textL x = Z := ⟨_, rfl⟩
  rw [hZ]
  have HZ := Lib.hid hZ
  have ha := dand7 x hx
  have HX := Lib.hid hx
  clear hZ hx
  go_enter Try.func35, Try.ntmps35
  go_wp2
  go_loopw [3, 4] (fun s k wr => ∃ (j : Nat) (acc : List UInt8), s = .string ⟨acc.toArray⟩ ∧ k = .int .i64 j ∧ j ≤ 7 ∧ acc.length ≤ 4 * (7 - j) ∧ Hid (textGo x j acc = Z) ∧ Hid (Below w.heap.size w wr)) (fun _ k _ => (RowKit.intOf k).toNat)
  case atStart => exact ⟨x % 8, [], rfl, rfl, by omega, by simp, HZ, Lib.hid (Below.refl _ _)⟩
  case round =>
    obtain ⟨j, acc, rfl, rfl, hj, hl, HT, HB⟩ := hrel
    cases j with
    | zero =>
      go_wp2
      go_ret
      exact ⟨by rw [← HT.out]; rfl, HB.out⟩
    | succ j =>
      obtain ⟨i, hi⟩ : ∃ i, i = x / 2 ^ ((j + 1) % 8) % 8 := ⟨_, rfl⟩
      have hib : i < 8 := by omega
      have hd : x / 2 ^ ((j + 1) % 8) < 65536 := Nat.lt_of_le_of_lt (Nat.div_le_self _ _) HX.out
      have hb7 : bits .and .i64 ((x : Int) / 2 ^ ((j + 1) % 8)) 7 = (i : Int) := by
        have := dand7 (x / 2 ^ ((j + 1) % 8)) hd
        rw [hi, ← this]
        congr 1
      have hpc := piece_at i hib
      obtain ⟨P, hP⟩ : ∃ P : ByteArray, ⟨(pieceL i).toArray⟩ = P := ⟨_, rfl⟩
      obtain ⟨A, hA⟩ : ∃ A : ByteArray, ⟨acc.toArray⟩ = A := ⟨_, rfl⟩
      have hps : P.size ≤ 4 := by
        rw [← hP]
        have := piece_len i
        simpa [ByteArray.size] using this
      have has : A.size ≤ 28 := by
        rw [← hA]
        have : acc.length ≤ 28 := by omega
        simpa [ByteArray.size] using this
      have hcat : A ++ P = ⟨(acc ++ pieceL i).toArray⟩ := by rw [← hA, ← hP]; exact catD _ _
      have hlen : (acc ++ pieceL i).length ≤ 4 * (7 - j) := by
        have := piece_len i
        rw [List.length_append]
        omega
      have hgo : textGo x j (acc ++ pieceL i) = Z := by rw [← HT.out, hi]; rfl
      rw [hP] at hpc
      rw [hA]
      have HC := Lib.hid hcat
      have HL := Lib.hid hlen
      have HG := Lib.hid hgo
      have hov : ¬ 9223372036854775807 < A.size + P.size := by omega
      clear hi hd hP hA hcat hlen hgo hl
      go_wp2
      go_roundw
      case rel => exact ⟨j, acc ++ pieceL i, by rw [HC.out], rfl, by omega, HL.out, HG, Lib.hid (up_alloc HB.out _)⟩
      case measure => simp [RowKit.intOf]
theorem heap_new2 (w : World) (X Y : Obj) : ((w.alloc X).alloc Y).heap[w.heap.size + 1]? = some Y := by
  have := heap_alloc_new (w.alloc X) Y
  rwa [World.size_alloc] at this
def openE (e : Ev) : Ev := if e.k = 5 ∨ e.k = 6 then ⟨e.k, e.y, e.m, e.t, -1⟩ else e
theorem evs_cells (e : Ev) : evsC [e] = [.int .i64 e.k, .bool e.y, .int .u64 e.m, .string e.t, .int .i64 e.c] := by simp [evs_one, evCells]
end Go.Proofs.Ytonjdnahplphhaa
/-
  CONTRACT of truchmanbook.Open (out of Doc): the same parts with counts that are not known.
-/
namespace Go.Proofs.Ytonjdnahplphhaa
open Go.RowKit
open Go.Lib
set_option maxHeartbeats 2000000 in
/-- The same parts with counts that are not known. -/
theorem dopen_any (A : Option Addr) (n cp : Nat) (E : Nat → Ev) (w : World) (hn : n ≤ 1000000) (hE : EvsAt w w.heap.size A n E) :
    Calls Try.prog 21 #[.slice A n cp] w fun r w' => ∃ v, r = .returned v ∧ Made w w' v n ((pre E n).map openE) := by
  have HE := Lib.hid hE
  have HN := Lib.hid hn
  clear hE hn
  go_enter Try.func21, Try.ntmps21
  go_wp2
  go_loopw [3, 8] (fun o i wr => ∃ (j : Nat) (a : Option Addr) (c : Nat), o = .slice a j c ∧ i = .int .i64 j ∧ j ≤ n ∧ Hid (Made w wr (.slice a j c) j ((pre E j).map openE))) (fun _ i _ => n - (RowKit.intOf i).toNat)
  case atStart => exact ⟨0, none, 0, rfl, rfl, by omega, Lib.hid (made_nil w)⟩
  case round =>
    obtain ⟨j, a, c, rfl, rfl, hjn, HM⟩ := hrel
    by_cases hlt : j < n
    · obtain ⟨b, off, rfl, hb, x0, x1, x2, x3, x4⟩ := (HE.out.below HM.out.1).cells hlt
      have hps : (pre E (j + 1)).map openE = (pre E j).map openE ++ [openE (E j)] := by rw [pre_succ, List.map_append]; rfl
      have HPS := Lib.hid hps
      have hj6 : j ≤ 1000000 := by have := HN.out; omega
      generalize E j = e at x0 x1 x2 x3 x4 HPS
      clear hps
      obtain ⟨k, y, m, t, c0⟩ := e
      simp only at x0 x1 x2 x3 x4
      by_cases h5 : k = 5
      · subst h5
        have he : openE ⟨5, y, m, t, c0⟩ = ⟨5, y, m, t, -1⟩ := rfl
        rw [he] at HPS
        clear he
        go_wp2_with (at_builtin; refine wpList_append_win rfl _ _ _ rfl Try.underlying22 info_ev rfl rfl ((HM.out.2.1.alloc _).alloc _) _ rfl 1 _ (src_new _ Try.underlying22 5 1 (evsC [⟨5, y, m, t, -1⟩]) 35 _ rfl (evsC_one _) (heap_new2 _ _ _)) ?e1 ?e2 ?_)
        case e1 => unfold maxLen; omega
        case e2 => omega
        intro v3 w3 hW3 hG3 hO3
        have hM3 : Made w w3 v3 (j + 1) ((pre E j).map openE ++ [⟨5, y, m, t, -1⟩]) := made_more HM.out (up_alloc (up_alloc (Below.refl _ _) _) _) hW3.out hG3.out (by simpa using hO3.out)
        rw [← HPS.out] at hM3
        obtain ⟨a3, c3, rfl, _, _⟩ := hM3.2.1.slice_form
        have M3 := Lib.hid hM3
        clear hW3 hG3 hO3 hM3
        go_wp2
        go_roundw
        case rel => exact ⟨j + 1, a3, c3, rfl, rfl, hlt, M3⟩
        case measure => simp [RowKit.intOf]; omega
      · by_cases h6 : k = 6
        · subst h6
          have he : openE ⟨6, y, m, t, c0⟩ = ⟨6, y, m, t, -1⟩ := rfl
          rw [he] at HPS
          clear he h5
          go_wp2_with (at_builtin; refine wpList_append_win rfl _ _ _ rfl Try.underlying22 info_ev rfl rfl ((HM.out.2.1.alloc _).alloc _) _ rfl 1 _ (src_new _ Try.underlying22 5 1 (evsC [⟨6, y, m, t, -1⟩]) 35 _ rfl (evsC_one _) (heap_new2 _ _ _)) ?e1 ?e2 ?_)
          case e1 => unfold maxLen; omega
          case e2 => omega
          intro v3 w3 hW3 hG3 hO3
          have hM3 : Made w w3 v3 (j + 1) ((pre E j).map openE ++ [⟨6, y, m, t, -1⟩]) := made_more HM.out (up_alloc (up_alloc (Below.refl _ _) _) _) hW3.out hG3.out (by simpa using hO3.out)
          rw [← HPS.out] at hM3
          obtain ⟨a3, c3, rfl, _, _⟩ := hM3.2.1.slice_form
          have M3 := Lib.hid hM3
          clear hW3 hG3 hO3 hM3
          go_wp2
          go_roundw
          case rel => exact ⟨j + 1, a3, c3, rfl, rfl, hlt, M3⟩
          case measure => simp [RowKit.intOf]; omega
        · have q5 : (k == 5) = false := by simpa using h5
          have q6 : (k == 6) = false := by simpa using h6
          have he : openE ⟨k, y, m, t, c0⟩ = ⟨k, y, m, t, c0⟩ := by unfold openE; rw [if_neg (by simp only; omega)]
          rw [he] at HPS
          clear he h5 h6
          go_wp2_with (at_builtin; refine wpList_append_win rfl _ _ _ rfl Try.underlying22 info_ev rfl rfl ((HM.out.2.1.alloc _).alloc _) _ rfl 1 _ (src_new _ Try.underlying22 5 1 (evsC [⟨k, y, m, t, c0⟩]) 35 _ rfl (evsC_one _) (heap_new2 _ _ _)) ?e1 ?e2 ?_)
          case e1 => unfold maxLen; omega
          case e2 => omega
          intro v3 w3 hW3 hG3 hO3
          have hM3 : Made w w3 v3 (j + 1) ((pre E j).map openE ++ [⟨k, y, m, t, c0⟩]) := made_more HM.out (up_alloc (up_alloc (Below.refl _ _) _) _) hW3.out hG3.out (by simpa using hO3.out)
          rw [← HPS.out] at hM3
          obtain ⟨a3, c3, rfl, _, _⟩ := hM3.2.1.slice_form
          have M3 := Lib.hid hM3
          clear hW3 hG3 hO3 hM3
          go_wp2
          go_roundw
          case rel => exact ⟨j + 1, a3, c3, rfl, rfl, hlt, M3⟩
          case measure => simp [RowKit.intOf]; omega
    · obtain rfl : j = n := by omega
      go_wp2
      go_ret
      exact ⟨_, rfl, HM.out⟩
end Go.Proofs.Ytonjdnahplphhaa
/-
  NO PROGRAM NEEDED: the order of numbers as digits.
-/
namespace Go.Proofs.Ytonjdnahplphhaa
open Go.Lib
theorem lessb_cons (a b : UInt8) (x y : List UInt8) : Op.bytesLess (a :: x) (b :: y) = true ↔ a.toNat < b.toNat ∨ (a = b ∧ Op.bytesLess x y = true) := by
  rw [Op.bytesLess]
  simp only [Bool.or_eq_true, Bool.and_eq_true, beq_iff_eq, decide_eq_true_eq]
  rfl
theorem lessb_last (p q : UInt8) : ∀ x y : List UInt8, x.length = y.length → (Op.bytesLess (x ++ [p]) (y ++ [q]) = true ↔ Op.bytesLess x y = true ∨ (x = y ∧ p.toNat < q.toNat))
  | [], [], _ => by
    simp [Op.bytesLess]
    exact Iff.rfl
  | [], _ :: _, h => by simp at h
  | _ :: _, [], h => by simp at h
  | a :: x, b :: y, h => by
    have ih := lessb_last p q x y (by simpa using h)
    rw [List.cons_append, List.cons_append, lessb_cons, lessb_cons, ih]
    simp only [List.cons.injEq]
    constructor
    · rintro (h | ⟨h1, h2 | ⟨h2, h3⟩⟩)
      · exact .inl (.inl h)
      · exact .inl (.inr ⟨h1, h2⟩)
      · exact .inr ⟨⟨h1, h2⟩, h3⟩
    · rintro ((h | ⟨h1, h2⟩) | ⟨⟨h1, h2⟩, h3⟩)
      · exact .inl h
      · exact .inr ⟨h1, .inl h2⟩
      · exact .inr ⟨h1, .inr ⟨h2, h3⟩⟩
theorem lessb_irrefl (x : List UInt8) : ¬ Op.bytesLess x x = true := by
  induction x with
  | nil => simp [Op.bytesLess]
  | cons a t ih =>
    rw [lessb_cons]
    rintro (h | ⟨_, h⟩)
    · omega
    · exact ih h
theorem nDigits_mono : ∀ b a : Nat, b ≤ a → nDigits b ≤ nDigits a := by
  intro b
  induction b using Nat.strongRecOn with
  | _ b ih =>
    intro a h
    by_cases hb : b < 10
    · rw [nDigits_small hb]; exact nDigits_pos a
    · rw [nDigits_big hb, nDigits_big (show ¬ a < 10 by omega)]
      have := ih (b / 10) (by omega) (a / 10) (by omega)
      omega
theorem less_dec : ∀ a b : Nat, nDigits a = nDigits b → (Op.bytesLess (decDigits a) (decDigits b) = true ↔ a < b) := by
  intro a
  induction a using Nat.strongRecOn with
  | _ a ih =>
    intro b h
    by_cases ha : a < 10
    · have hb : b < 10 := by
        by_cases hb : b < 10
        · exact hb
        · rw [nDigits_small ha, nDigits_big hb] at h
          have := nDigits_pos (b / 10)
          omega
      rw [decDigits_one ha, decDigits_one hb, lessb_cons, dig_toNat a ha, dig_toNat b hb]
      simp [Op.bytesLess]
    · have hb : ¬ b < 10 := by
        intro hb
        rw [nDigits_small hb, nDigits_big ha] at h
        have := nDigits_pos (a / 10)
        omega
      rw [nDigits_big ha, nDigits_big hb] at h
      have i1 := ih (a / 10) (by omega) (b / 10) (by omega)
      rw [dec_big (by omega), dec_big (u := b) (by omega), lessb_last _ _ _ _ (by rw [decDigits_length, decDigits_length]; omega), i1, dig_toNat _ (by omega), dig_toNat _ (by omega)]
      constructor
      · rintro (h | ⟨h1, h2⟩)
        · omega
        · have n1 : ¬ a / 10 < b / 10 := by rw [← i1, h1]; exact lessb_irrefl _
          by_cases hlt : b / 10 < a / 10
          · have i2 := ih (b / 10) (by omega) (a / 10) (by omega)
            have := i2.2 hlt
            rw [h1] at this
            exact absurd this (lessb_irrefl _)
          · omega
      · intro h
        by_cases hlt : a / 10 < b / 10
        · exact .inl hlt
        · have he : a / 10 = b / 10 := by omega
          exact .inr ⟨by rw [he], by omega⟩
/-- The order that the law asks. -/
theorem order_dec (a b : Nat) : (nDigits a < nDigits b ∨ nDigits a = nDigits b ∧ Op.bytesLess (decDigits a) (decDigits b) = true) ↔ a < b := by
  constructor
  · rintro (h | ⟨h1, h2⟩)
    · by_cases hl : a < b
      · exact hl
      · have := nDigits_mono b a (by omega)
        omega
    · exact (less_dec a b h1).1 h2
  · intro h
    have := nDigits_mono a b (by omega)
    by_cases he : nDigits a = nDigits b
    · exact .inr ⟨he, (less_dec a b he).2 h⟩
    · exact .inl (by omega)
theorem nDigits_le (u : Nat) (h : u < 100000000000000000000) : nDigits u ≤ 20 := by
  have : nDigits u ≤ nDigits 99999999999999999999 := nDigits_mono _ _ (by omega)
  rw [show nDigits 99999999999999999999 = 20 from nDigits_unique 19 _ (by decide) (by decide)] at this
  exact this
theorem print_len (w : Bool × Nat) (h : w.2 < 18446744073709551616) : (printD w).length ≤ 21 := by
  obtain ⟨m, v⟩ := w
  unfold printD
  have h : v < 18446744073709551616 := h
  cases m with
  | true =>
    simp only [if_true, List.length_cons, decDigits_length]
    have := nDigits_le (v + 1) (by omega)
    omega
  | false =>
    simp only [Bool.false_eq_true, if_false, decDigits_length]
    have := nDigits_le v (by omega)
    omega
/-- The bytes of a number are digits, or a minus. -/
theorem dec_bytes : ∀ u : Nat, ∀ b ∈ decDigits u, 48 ≤ b.toNat ∧ b.toNat ≤ 57 := by
  intro u
  induction u using Nat.strongRecOn with
  | _ u ih =>
    intro b hb
    by_cases h : u < 10
    · rw [decDigits_one h] at hb
      simp only [List.mem_singleton] at hb
      subst hb
      rw [dig_toNat u h]
      omega
    · rw [dec_big (by omega)] at hb
      rcases List.mem_append.1 hb with hb | hb
      · exact ih (u / 10) (by omega) b hb
      · simp only [List.mem_singleton] at hb
        subst hb
        rw [dig_toNat _ (by omega)]
        omega
end Go.Proofs.Ytonjdnahplphhaa
/-
  CONTRACTS of the documents own Digits and Print.
-/
namespace Go.Proofs.Ytonjdnahplphhaa
open Go.RowKit
open Go.Lib
/-- An empty text counts one. -/
def emptyV : Value → Nat
  | .string s => if s.size = 0 then 1 else 0
  | _ => 0
/-- Of a number's digits the last ones are there. -/
def DigMid (v v' : Nat) (s : List UInt8) : Prop := (s = [] ∧ v' = v) ∨ (s ≠ [] ∧ decDigits v = (if v' = 0 then [] else decDigits v') ++ s)
theorem dig_next {v v' : Nat} {s : List UInt8} (h : DigMid v v' s) (hg : 0 < v' ∨ s = []) : DigMid v (v' / 10) (UInt8.ofNat (48 + v' % 10) :: s) := by
  right
  refine ⟨by simp, ?_⟩
  have one : ∀ u : Nat, decDigits u = (if u / 10 = 0 then [] else decDigits (u / 10)) ++ [UInt8.ofNat (48 + u % 10)] := by
    intro u
    by_cases hu : u < 10
    · rw [decDigits_one (i := u) hu, if_pos (by omega), show u % 10 = u by omega]
      rfl
    · rw [if_neg (by omega), ← dec_big (by omega)]
  rcases h with ⟨rfl, rfl⟩ | ⟨hs, he⟩
  · exact one _
  · have hv : v' ≠ 0 := by
      rcases hg with h | h
      · omega
      · exact absurd h hs
    rw [he, if_neg hv, one v', List.append_assoc]
    rfl
theorem dig_len {v v' : Nat} {s : List UInt8} (hv : v < 18446744073709551617) (h : DigMid v v' s) : s.length ≤ 20 := by
  have hl : (decDigits v).length ≤ 20 := by
    rw [decDigits_length]
    exact nDigits_le v (by omega)
  rcases h with ⟨rfl, _⟩ | ⟨_, he⟩
  · simp
  · rw [he, List.length_append] at hl
    omega
set_option maxHeartbeats 1000000 in
theorem rdigits_any (v : Nat) (hv : v < 18446744073709551616) (w : World) :
    Calls Try.prog 69 #[.int .u64 v] w fun e w' => e = .returned (.string ⟨(decDigits v).toArray⟩) ∧ Below w.heap.size w w' := by
  obtain ⟨R, hR⟩ : ∃ R : ByteArray, (⟨(decDigits v).toArray⟩ : ByteArray) = R := ⟨_, rfl⟩
  rw [hR]
  have HR := Lib.hid hR
  clear hR
  go_enter Try.func69, Try.ntmps69
  go_wp2
  go_loopw [0, 3] (fun x s wr => ∃ (v' : Nat) (l : List UInt8) (S : ByteArray), x = .int .u64 v' ∧ s = .string S ∧ v' ≤ v ∧ Hid (S = ⟨l.toArray⟩ ∧ DigMid v v' l ∧ Below w.heap.size w wr)) (fun x s _ => 2 * (RowKit.intOf x).toNat + emptyV s)
  case atStart => exact ⟨v, [], ⟨#[]⟩, rfl, rfl, Nat.le_refl _, Lib.hid ⟨rfl, .inl ⟨rfl, rfl⟩, Below.refl _ _⟩⟩
  case round =>
    obtain ⟨v', l, S, rfl, rfl, hle, HM⟩ := hrel
    have hSl : S.size = l.length := by rw [HM.out.1]; exact size_of l
    have h20 : S.size ≤ 20 := by rw [hSl]; exact dig_len (by omega) HM.out.2.1
    by_cases hgo : 0 < v' ∨ l = []
    · have hc := conv_new wr [UInt8.ofNat (48 + v' % 10)] #[.int .u8 (48 + (v' : Int) % 10)] 1 rfl (by
        simp only [Lib.byteCells, List.map_cons, List.map_nil, toNat_ofNat (48 + v' % 10) (by omega)]
        congr 2) ⟨#[UInt8.ofNat (48 + v' % 10)]⟩ rfl
      obtain ⟨Y, hY⟩ : ∃ Y : ByteArray, Y = ⟨#[UInt8.ofNat (48 + v' % 10)]⟩ := ⟨_, rfl⟩
      rw [← hY] at hc
      have hYs : Y.size = 1 := by rw [hY]; rfl
      have hZ : Y ++ S = ⟨(UInt8.ofNat (48 + v' % 10) :: l).toArray⟩ := by rw [hY, HM.out.1]; exact cat_of [_] l
      obtain ⟨Z, hZZ⟩ : ∃ Z, Y ++ S = Z := ⟨_, rfl⟩
      have hZs : Z.size ≠ 0 := by rw [← hZZ, hZ, size_of]; simp
      have HN : Hid (Z = ⟨(UInt8.ofNat (48 + v' % 10) :: l).toArray⟩ ∧ DigMid v (v' / 10) (UInt8.ofNat (48 + v' % 10) :: l) ∧ Below w.heap.size w (wr.alloc (.cells #[.int .u8 (48 + (v' : Int) % 10)] 5))) :=
        Lib.hid ⟨by rw [← hZZ]; exact hZ, dig_next HM.out.2.1 hgo, HM.out.2.2.alloc HM.out.2.2.size _⟩
      have hem : emptyV (.string Z) = 0 := by simp only [emptyV]; rw [if_neg hZs]
      have HE := Lib.hid hem
      have hHS : emptyV (.string S) = if S.size = 0 then 1 else 0 := rfl
      have HHS := Lib.hid (And.intro hHS (And.intro hSl hgo))
      clear hem hHS hZ hY hZs hSl
      by_cases h0 : 0 < v'
      · have h0' : ((0 : Int) < (v' : Int)) = True := by simp only [eq_iff_iff, iff_true]; omega
        clear hgo
        go_wp2
        go_roundw
        case rel => exact ⟨v' / 10, _, Z, by go_num, rfl, by omega, HN⟩
        case measure => rw [HE.out]; simp [RowKit.intOf]; omega
      · obtain rfl : v' = 0 := by omega
        have hl0 : l = [] := by rcases hgo with h | h; omega; exact h
        have hS0 : S.size = 0 := by rw [HHS.out.2.1, hl0]; rfl
        have e1 : (S.toList = []) = True := by
          simp only [eq_iff_iff, iff_true]
          rw [ByteArray.toList_eq, ← List.length_eq_zero_iff, size_list]
          exact hS0
        have e2 : S.toList.isEmpty = true := by rw [List.isEmpty_iff]; simpa using e1
        have HS0 := Lib.hid hS0
        have hc0 : (convert 60 9 (.slice (some ⟨wr.heap.size, 0, none⟩) 1 1)).run Try.prog (wr.alloc (.cells #[.int .u8 48] 5)) = .ok (.string Y) (wr.alloc (.cells #[.int .u8 48] 5)) := hc
        have HN0 : Hid (Z = ⟨(UInt8.ofNat (48 + 0 % 10) :: l).toArray⟩ ∧ DigMid v 0 (UInt8.ofNat (48 + 0 % 10) :: l) ∧ Below w.heap.size w (wr.alloc (.cells #[.int .u8 48] 5))) := HN
        clear hgo hl0 hS0 h0 hc
        go_wp2
        go_roundw
        case rel => exact ⟨0, _, Z, by go_num, rfl, by omega, HN0⟩
        case measure => rw [HE.out, HHS.out.1, if_pos HS0.out]; simp [RowKit.intOf]
    · have hv0 : v' = 0 := by omega
      have hl0 : l ≠ [] := fun h => hgo (.inr h)
      have hne : S.size ≠ 0 := by rw [hSl]; exact fun h => hl0 (List.length_eq_zero_iff.1 h)
      have e1 : (S.toList = []) = False := by
        simp only [eq_iff_iff, iff_false]
        rw [ByteArray.toList_eq, ← List.length_eq_zero_iff, size_list]
        exact hne
      have e2 : S.toList.isEmpty = false := by
        rw [Bool.eq_false_iff]
        intro h
        rw [List.isEmpty_iff] at h
        simp [h] at e1
      have hRS : S = R := by
        rw [← HR.out, HM.out.1]
        rcases HM.out.2.1 with ⟨h, _⟩ | ⟨_, h⟩
        · exact absurd h hl0
        · rw [h, if_pos hv0]
          rfl
      subst hv0
      have HB := Lib.hid (And.intro hRS HM.out.2.2)
      clear hgo hl0 hne hSl HM hRS
      go_wp2
      go_ret
      exact ⟨by rw [HB.out.1]; rfl, HB.out.2⟩
theorem dec_top : decDigits 18446744073709551616 = [49, 56, 52, 52, 54, 55, 52, 52, 48, 55, 51, 55, 48, 57, 53, 53, 49, 54, 49, 54] := by
  simp [decDigits]
set_option maxHeartbeats 1000000 in
theorem rprint_any (m : Bool) (v : Nat) (hv : v < 18446744073709551616) (w : World) :
    Calls Try.prog 50 #[.agg #[.bool m, .int .u64 v]] w fun e w' => e = .returned (.string ⟨(printD (m, v)).toArray⟩) ∧ Below w.heap.size w w' := by
  cases m with
  | false =>
    have HD : Hid (∀ W, Calls Try.prog 69 #[.int .u64 v] W fun e w' => e = .returned (.string ⟨(printD (false, v)).toArray⟩) ∧ Below W.heap.size W w') := Lib.hid (fun W => rdigits_any v hv W)
    have HB := Lib.hid (fun x => (Below.refl w.heap.size w).alloc (Nat.le_refl _) x)
    generalize (⟨(printD (false, v)).toArray⟩ : ByteArray) = Z at *
    go_enter Try.func50, Try.ntmps50
    go_wp2_with fail
    refine (HD.out _).mono ?_
    rintro e w1 ⟨rfl, hb⟩
    have HB1 := Lib.hid (up_trans (HB.out _) hb)
    clear hb
    go_wp2
    go_ret
    exact ⟨rfl, HB1.out⟩
  | true =>
    by_cases hm : v = 18446744073709551615
    · subst hm
      have hz : (⟨(printD (true, 18446744073709551615)).toArray⟩ : ByteArray) = ⟨#[45, 49, 56, 52, 52, 54, 55, 52, 52, 48, 55, 51, 55, 48, 57, 53, 53, 49, 54, 49, 54]⟩ := by
        show (⟨(45 :: decDigits 18446744073709551616).toArray⟩ : ByteArray) = _
        rw [dec_top]
      rw [hz]
      have HB := Lib.hid (fun x => (Below.refl w.heap.size w).alloc (Nat.le_refl _) x)
      clear hz
      go_enter Try.func50, Try.ntmps50
      go_wp2
      go_ret
      exact ⟨rfl, HB.out _⟩
    · have hz : ((v : Int) == 18446744073709551615) = false := by rw [beq_eq_false_iff_ne]; omega
      have hw : IntKind.u64.wrap ((v : Int) + 1) = ((v + 1 : Nat) : Int) := by rw [wrap_u64_of _ (by omega) (by omega)]; omega
      have HD := Lib.hid (fun W => rdigits_any (v + 1) (by omega) W)
      have hcat : (⟨#[45]⟩ : ByteArray) ++ ⟨(decDigits (v + 1)).toArray⟩ = ⟨(printD (true, v)).toArray⟩ := cat_of [45] _
      have hsz : (⟨(decDigits (v + 1)).toArray⟩ : ByteArray).size ≤ 20 := by rw [size_of, decDigits_length]; exact nDigits_le _ (by omega)
      have HB := Lib.hid (fun x => (Below.refl w.heap.size w).alloc (Nat.le_refl _) x)
      generalize (⟨(decDigits (v + 1)).toArray⟩ : ByteArray) = Y at *
      generalize (⟨(printD (true, v)).toArray⟩ : ByteArray) = Z at *
      generalize v + 1 = v1 at *
      have HC := Lib.hid hcat
      clear hcat
      go_enter Try.func50, Try.ntmps50
      go_wp2_with fail
      refine (HD.out _).mono ?_
      rintro e w1 ⟨rfl, hb⟩
      have HB1 := Lib.hid (up_trans (HB.out _) hb)
      clear hb
      have hcat := HC.out
      go_wp2
      go_ret
      exact ⟨rfl, HB1.out⟩
end Go.Proofs.Ytonjdnahplphhaa
/-
  CONTRACT of the documents own Write: the inside of a text's string.
-/
namespace Go.Proofs.Ytonjdnahplphhaa
open Go.RowKit
open Go.Lib
theorem slice_one (s : ByteArray) (k : Nat) (h : k < s.size) (x : UInt8) (hx : s[k]'h = x) (W : World) : (Instr.slice 9 (.string s) (some (.int .i64 (k : Int))) (some (.int .i64 ((k : Int) + 1))) none).run Try.prog W = .ok (.string ⟨#[x]⟩) W := by
  have h1 := slice_str_lh s k (k + 1) (by omega) (by omega) W
  rw [show (((k + 1 : Nat) : Int)) = (k : Int) + 1 by omega] at h1
  rw [h1]
  have : s.extract k (k + 1) = ⟨#[x]⟩ := by
    apply ByteArray.ext
    apply Array.ext'
    rw [ext_list, List.take_add_one, List.getElem?_eq_getElem (by rw [size_list]; exact h), List.drop_append_of_le_length (by rw [List.length_take, size_list]; omega)]
    have : s.data.toList[k]'(by rw [size_list]; exact h) = x := hx
    rw [this, List.drop_of_length_le (by rw [List.length_take, size_list]; omega)]
    rfl
  rw [this]
theorem lit_hex : ∀ (n : Fin 16) (h : n.val < (⟨#[48, 49, 50, 51, 52, 53, 54, 55, 56, 57, 97, 98, 99, 100, 101, 102]⟩ : ByteArray).size), (⟨#[48, 49, 50, 51, 52, 53, 54, 55, 56, 57, 97, 98, 99, 100, 101, 102]⟩ : ByteArray)[n.val]'h = hexD n.val := by decide +kernel
/-- Where the document's Write stands: the text so far. -/
def WrM (l : List UInt8) (q : Nat) (T : ByteArray) : Prop := T = ⟨(escW (l.take q)).toArray⟩
theorem wrm_size {l : List UInt8} {q : Nat} {T : ByteArray} (h : WrM l q T) : T.size ≤ 6 * q := by
  rw [h, size_of]
  have := escW_len (l.take q)
  rw [List.length_take] at this
  omega
theorem wrm_next {l : List UInt8} {q : Nat} {T : ByteArray} (h : WrM l q T) (hq : q < l.length) {x : UInt8} (hx : l[q] = x) : WrM l (q + 1) (T ++ ⟨(escB x).toArray⟩) := by
  unfold WrM at h ⊢
  rw [h, cat_of, List.take_add_one, List.getElem?_eq_getElem hq, hx, escW_append]
  simp [escW]
set_option maxRecDepth 100000 in
set_option maxHeartbeats 4000000 in
theorem rwrite_any (S : ByteArray) (hS : S.size ≤ 1000) (w : World) :
    Calls Try.prog 51 #[.string S] w fun e w' => e = .returned (.string ⟨(escW S.data.toList).toArray⟩) ∧ Below w.heap.size w w' := by
  obtain ⟨R, hR⟩ : ∃ R : ByteArray, (⟨(escW S.data.toList).toArray⟩ : ByteArray) = R := ⟨_, rfl⟩
  rw [hR]
  have HR := Lib.hid hR
  clear hR
  go_enter Try.func51, Try.ntmps51
  go_wp2
  go_loopw [3, 4, 5] (fun t i _ wr => ∃ (q : Nat) (T : ByteArray), t = .string T ∧ i = .int .i64 q ∧ q ≤ S.size ∧ Hid (WrM S.data.toList q T ∧ Below w.heap.size w wr)) (fun _ i _ _ => S.size - (RowKit.intOf i).toNat)
  case atStart => exact ⟨0, ⟨#[]⟩, rfl, rfl, by omega, Lib.hid ⟨rfl, Below.refl _ _⟩⟩
  case round =>
    obtain ⟨q, T, rfl, rfl, hq, HM⟩ := hrel
    have hT6 : T.size ≤ 6000 := by have := wrm_size HM.out.1; omega
    by_cases hlt : q < S.size
    · obtain ⟨x, hx⟩ : ∃ x, S[q]'hlt = x := ⟨_, rfl⟩
      have hql : q < S.data.toList.length := by rw [size_list]; exact hlt
      have hlq : S.data.toList[q] = x := hx
      have HN := Lib.hid (wrm_next HM.out.1 hql hlq)
      have HB := Lib.hid HM.out.2
      have hsl := slice_one S q hlt x hx
      clear HM hql hlq
      by_cases c1 : x.toNat = 34 ∨ x.toNat = 92
      · have he : escB x = [92, x] := by unfold escB; rw [if_pos c1]
        obtain ⟨X, hX⟩ : ∃ X : ByteArray, (⟨#[x]⟩ : ByteArray) = X := ⟨_, rfl⟩
        obtain ⟨U, hU⟩ : ∃ U : ByteArray, T ++ ⟨#[92]⟩ = U := ⟨_, rfl⟩
        obtain ⟨Z, hZ⟩ : ∃ Z : ByteArray, U ++ X = Z := ⟨_, rfl⟩
        have hXs : X.size = 1 := by rw [← hX]; rfl
        have hUs : U.size ≤ 6001 := by rw [← hU, ByteArray.size_append]; show T.size + 1 ≤ 6001; omega
        have HNZ : Hid (WrM S.data.toList (q + 1) Z) := Lib.hid (by
          have h := HN.out
          rw [he] at h
          rw [← hZ, ← hU, ← hX, ByteArray.append_assoc]
          exact h)
        simp only [hX] at hsl
        clear hX he HN
        rcases c1 with c1 | c1
        · have n34 : ((x.toNat : Int) == 34) = true := by rw [beq_iff_eq]; omega
          clear c1
          go_wp2
          go_roundw
          case rel => exact ⟨q + 1, Z, rfl, by go_num, by omega, Lib.hid ⟨HNZ.out, HB.out⟩⟩
          case measure => simp [RowKit.intOf]; omega
        · have n34 : ((x.toNat : Int) == 34) = false := by rw [beq_eq_false_iff_ne]; omega
          have n92 : ((x.toNat : Int) == 92) = true := by rw [beq_iff_eq]; omega
          clear c1
          go_wp2
          go_roundw
          case rel => exact ⟨q + 1, Z, rfl, by go_num, by omega, Lib.hid ⟨HNZ.out, HB.out⟩⟩
          case measure => simp [RowKit.intOf]; omega
      have n34 : ((x.toNat : Int) == 34) = false := by rw [beq_eq_false_iff_ne]; omega
      have n92 : ((x.toNat : Int) == 92) = false := by rw [beq_eq_false_iff_ne]; omega
      by_cases k8 : x.toNat = 8
      · have n8 : ((x.toNat : Int) == 8) = true := by rw [beq_iff_eq]; omega
        have he : escB x = [92, 98] := by unfold escB; rw [if_neg c1]; rw [if_pos k8]
        obtain ⟨Z, hZ⟩ : ∃ Z : ByteArray, T ++ ⟨#[92, 98]⟩ = Z := ⟨_, rfl⟩
        have HNZ : Hid (WrM S.data.toList (q + 1) Z) := Lib.hid (by
          have h := HN.out
          rw [he] at h
          rw [← hZ]
          exact h)
        clear hsl he HN c1 k8
        go_wp2
        go_roundw
        case rel => exact ⟨q + 1, Z, rfl, by go_num, by omega, Lib.hid ⟨HNZ.out, HB.out⟩⟩
        case measure => simp [RowKit.intOf]; omega
      have n8 : ((x.toNat : Int) == 8) = false := by rw [beq_eq_false_iff_ne]; omega
      by_cases k12 : x.toNat = 12
      · have n12 : ((x.toNat : Int) == 12) = true := by rw [beq_iff_eq]; omega
        have he : escB x = [92, 102] := by unfold escB; rw [if_neg c1]; rw [if_neg k8]; rw [if_pos k12]
        obtain ⟨Z, hZ⟩ : ∃ Z : ByteArray, T ++ ⟨#[92, 102]⟩ = Z := ⟨_, rfl⟩
        have HNZ : Hid (WrM S.data.toList (q + 1) Z) := Lib.hid (by
          have h := HN.out
          rw [he] at h
          rw [← hZ]
          exact h)
        clear hsl he HN c1 k8 k12
        go_wp2
        go_roundw
        case rel => exact ⟨q + 1, Z, rfl, by go_num, by omega, Lib.hid ⟨HNZ.out, HB.out⟩⟩
        case measure => simp [RowKit.intOf]; omega
      have n12 : ((x.toNat : Int) == 12) = false := by rw [beq_eq_false_iff_ne]; omega
      by_cases k10 : x.toNat = 10
      · have n10 : ((x.toNat : Int) == 10) = true := by rw [beq_iff_eq]; omega
        have he : escB x = [92, 110] := by unfold escB; rw [if_neg c1]; rw [if_neg k8]; rw [if_neg k12]; rw [if_pos k10]
        obtain ⟨Z, hZ⟩ : ∃ Z : ByteArray, T ++ ⟨#[92, 110]⟩ = Z := ⟨_, rfl⟩
        have HNZ : Hid (WrM S.data.toList (q + 1) Z) := Lib.hid (by
          have h := HN.out
          rw [he] at h
          rw [← hZ]
          exact h)
        clear hsl he HN c1 k8 k12 k10
        go_wp2
        go_roundw
        case rel => exact ⟨q + 1, Z, rfl, by go_num, by omega, Lib.hid ⟨HNZ.out, HB.out⟩⟩
        case measure => simp [RowKit.intOf]; omega
      have n10 : ((x.toNat : Int) == 10) = false := by rw [beq_eq_false_iff_ne]; omega
      by_cases k13 : x.toNat = 13
      · have n13 : ((x.toNat : Int) == 13) = true := by rw [beq_iff_eq]; omega
        have he : escB x = [92, 114] := by unfold escB; rw [if_neg c1]; rw [if_neg k8]; rw [if_neg k12]; rw [if_neg k10]; rw [if_pos k13]
        obtain ⟨Z, hZ⟩ : ∃ Z : ByteArray, T ++ ⟨#[92, 114]⟩ = Z := ⟨_, rfl⟩
        have HNZ : Hid (WrM S.data.toList (q + 1) Z) := Lib.hid (by
          have h := HN.out
          rw [he] at h
          rw [← hZ]
          exact h)
        clear hsl he HN c1 k8 k12 k10 k13
        go_wp2
        go_roundw
        case rel => exact ⟨q + 1, Z, rfl, by go_num, by omega, Lib.hid ⟨HNZ.out, HB.out⟩⟩
        case measure => simp [RowKit.intOf]; omega
      have n13 : ((x.toNat : Int) == 13) = false := by rw [beq_eq_false_iff_ne]; omega
      by_cases k9 : x.toNat = 9
      · have n9 : ((x.toNat : Int) == 9) = true := by rw [beq_iff_eq]; omega
        have he : escB x = [92, 116] := by unfold escB; rw [if_neg c1]; rw [if_neg k8]; rw [if_neg k12]; rw [if_neg k10]; rw [if_neg k13]; rw [if_pos k9]
        obtain ⟨Z, hZ⟩ : ∃ Z : ByteArray, T ++ ⟨#[92, 116]⟩ = Z := ⟨_, rfl⟩
        have HNZ : Hid (WrM S.data.toList (q + 1) Z) := Lib.hid (by
          have h := HN.out
          rw [he] at h
          rw [← hZ]
          exact h)
        clear hsl he HN c1 k8 k12 k10 k13 k9
        go_wp2
        go_roundw
        case rel => exact ⟨q + 1, Z, rfl, by go_num, by omega, Lib.hid ⟨HNZ.out, HB.out⟩⟩
        case measure => simp [RowKit.intOf]; omega
      have n9 : ((x.toNat : Int) == 9) = false := by rw [beq_eq_false_iff_ne]; omega
      by_cases k32 : x.toNat < 32
      · have n32 : (((x.toNat : Nat) : Int) < 32) = True := by simp only [eq_iff_iff, iff_true]; omega
        have he : escB x = [92, 117, 48, 48, hexD (x.toNat / 16), hexD (x.toNat % 16)] := by unfold escB; rw [if_neg c1]; rw [if_neg k8]; rw [if_neg k12]; rw [if_neg k10]; rw [if_neg k13]; rw [if_neg k9]; rw [if_pos k32]
        obtain ⟨U, hU⟩ : ∃ U : ByteArray, T ++ ⟨#[92, 117, 48, 48]⟩ = U := ⟨_, rfl⟩
        obtain ⟨H, hH⟩ : ∃ H : ByteArray, (⟨#[hexD (x.toNat / 16), hexD (x.toNat % 16)]⟩ : ByteArray) = H := ⟨_, rfl⟩
        obtain ⟨Z, hZ⟩ : ∃ Z : ByteArray, U ++ H = Z := ⟨_, rfl⟩
        have hHs : H.size = 2 := by rw [← hH]; rfl
        have hUs : U.size ≤ 6004 := by rw [← hU, ByteArray.size_append]; show T.size + 4 ≤ 6004; omega
        have HNZ : Hid (WrM S.data.toList (q + 1) Z) := Lib.hid (by
          have h := HN.out
          rw [he] at h
          rw [← hZ, ← hU, ← hH, ByteArray.append_assoc]
          exact h)
        have hcv : ∀ W : World, (convert 60 9 (.slice (some ⟨W.heap.size, 0, none⟩) 2 2)).run Try.prog (W.alloc (.cells #[.int .u8 (hexD (x.toNat / 16)).toNat, .int .u8 (hexD (x.toNat % 16)).toNat] 5)) = .ok (.string H) (W.alloc (.cells #[.int .u8 (hexD (x.toNat / 16)).toNat, .int .u8 (hexD (x.toNat % 16)).toNat] 5)) :=
          fun W => conv_new W [hexD (x.toNat / 16), hexD (x.toNat % 16)] _ 2 rfl rfl H hH.symm
        have hd : x.toNat % 16 < 16 := by omega
        have hda : x.toNat / 16 < 16 := by omega
        have h1 : ∀ h, (⟨#[48, 49, 50, 51, 52, 53, 54, 55, 56, 57, 97, 98, 99, 100, 101, 102]⟩ : ByteArray)[x.toNat / 16]'h = hexD (x.toNat / 16) := fun h => lit_hex ⟨x.toNat / 16, by omega⟩ h
        have h2 : ∀ h, (⟨#[48, 49, 50, 51, 52, 53, 54, 55, 56, 57, 97, 98, 99, 100, 101, 102]⟩ : ByteArray)[x.toNat % 16]'h = hexD (x.toNat % 16) := fun h => lit_hex ⟨x.toNat % 16, hd⟩ h
        clear hsl he HN c1 k8 k12 k10 k13 k9 k32 hH
        obtain ⟨a, hae⟩ : ∃ a, x.toNat / 16 = a := ⟨_, rfl⟩
        obtain ⟨d, hde⟩ : ∃ d, x.toNat % 16 = d := ⟨_, rfl⟩
        have i1 : (x.toNat : Int) / 16 = (a : Int) := by omega
        have i2 : (x.toNat : Int) % 16 = (d : Int) := by omega
        rw [hae] at hcv h1 hda
        rw [hde] at hcv h2 hd
        generalize hexD a = A at *
        generalize hexD d = D at *
        have z1 : ¬ 9223372036854775807 < T.size + 4 := by omega
        have z2 : ¬ 9223372036854775807 < U.size + H.size := by omega
        have z3 : ¬ 9223372036854775807 < U.size + 2 := by omega
        have hcd : ∀ W : World, (convert 60 9 (.slice (some ⟨W.heap.size, 0, none⟩) 2 2)).run Try.prog ((W.alloc (.cells #[.int .u8 A.toNat, .int .u8 D.toNat] 5)).drew) = .ok (.string H) ((W.alloc (.cells #[.int .u8 A.toNat, .int .u8 D.toNat] 5)).drew) := fun W => hcv W.drew
        clear hae hde
        go_wp2
        go_region
        go_wp2
        go_roundw
        case rel => exact ⟨q + 1, Z, rfl, by go_num, by omega, Lib.hid ⟨HNZ.out, below_drw (HB.out.alloc HB.out.size _)⟩⟩
        case measure => simp [RowKit.intOf]; omega
      have n32 : (((x.toNat : Nat) : Int) < 32) = False := by simp only [eq_iff_iff, iff_false]; omega
      have he : escB x = [x] := by unfold escB; rw [if_neg c1]; rw [if_neg k8]; rw [if_neg k12]; rw [if_neg k10]; rw [if_neg k13]; rw [if_neg k9]; rw [if_neg k32]
      obtain ⟨X, hX⟩ : ∃ X : ByteArray, (⟨#[x]⟩ : ByteArray) = X := ⟨_, rfl⟩
      obtain ⟨Z, hZ⟩ : ∃ Z : ByteArray, T ++ X = Z := ⟨_, rfl⟩
      have hXs : X.size = 1 := by rw [← hX]; rfl
      have HNZ : Hid (WrM S.data.toList (q + 1) Z) := Lib.hid (by
        have h := HN.out
        rw [he] at h
        rw [← hZ, ← hX]
        exact h)
      simp only [hX] at hsl
      clear hX he HN c1 k8 k12 k10 k13 k9 k32
      go_wp2
      go_roundw
      case rel => exact ⟨q + 1, Z, rfl, by go_num, by omega, Lib.hid ⟨HNZ.out, HB.out⟩⟩
      case measure => simp [RowKit.intOf]; omega
    · have hTR : T = R := by
        rw [← HR.out, HM.out.1, List.take_of_length_le (by rw [size_list]; omega)]
      have HB := Lib.hid (And.intro hTR HM.out.2)
      clear HM hTR
      go_wp2
      go_ret
      exact ⟨by rw [HB.out.1]; rfl, HB.out.2⟩
end Go.Proofs.Ytonjdnahplphhaa
/-
  CONTRACT of the document's own plain, for JSON: what is written of a part that is no container, nor an end.
-/
namespace Go.Proofs.Ytonjdnahplphhaa
open Go.RowKit
open Go.Lib
set_option maxHeartbeats 2000000 in
theorem rplain_any (e : Ev) (hk : e.k = 0 ∨ e.k = 1 ∨ e.k = 2 ∨ e.k = 3) (hm : e.m < 18446744073709551616) (ht : e.t.size ≤ 1000) (w : World) :
    Calls Try.prog 28 #[.int .i64 1, evV e] w fun r w' => r = .returned (.tuple #[.string ⟨(outW e).toArray⟩, .int .i64 0]) ∧ Below w.heap.size w w' := by
  obtain ⟨k, y, m, t, c⟩ := e
  simp only [evV] at *
  have HB := Lib.hid (fun x => (Below.refl w.heap.size w).alloc (Nat.le_refl _) x)
  rcases hk with rfl | rfl | rfl | rfl
  · have ho : outW ⟨0, y, m, t, c⟩ = [110, 117, 108, 108] := by simp [outW]
    rw [ho]
    clear ho
    go_enter Try.func28, Try.ntmps28
    go_wp2
    go_ret2
    exact ⟨rfl, HB.out _⟩
  · cases y with
    | true =>
      have ho : outW ⟨1, true, m, t, c⟩ = [116, 114, 117, 101] := by simp [outW]
      rw [ho]
      clear ho
      go_enter Try.func28, Try.ntmps28
      go_wp2
      go_ret2
      exact ⟨rfl, HB.out _⟩
    | false =>
      have ho : outW ⟨1, false, m, t, c⟩ = [102, 97, 108, 115, 101] := by simp [outW]
      rw [ho]
      clear ho
      go_enter Try.func28, Try.ntmps28
      go_wp2
      go_ret2
      exact ⟨rfl, HB.out _⟩
  · have ho : outW ⟨2, y, m, t, c⟩ = printD (y, m) := by simp [outW]
    rw [ho]
    have HP := Lib.hid (fun W => rprint_any y m hm W)
    generalize (⟨(printD (y, m)).toArray⟩ : ByteArray) = Z at *
    clear ho
    go_enter Try.func28, Try.ntmps28
    go_wp2_with fail
    refine (HP.out _).mono ?_
    rintro r w1 ⟨rfl, hb⟩
    have HB1 := Lib.hid (up_trans (HB.out _) hb)
    clear hb
    go_wp2
    go_ret2
    exact ⟨rfl, HB1.out⟩
  · have ho : outW ⟨3, y, m, t, c⟩ = 34 :: escW t.data.toList ++ [34] := by simp [outW]
    rw [ho]
    have hWr := fun W0 => rwrite_any t ht W0
    obtain ⟨X, hX⟩ : ∃ X : ByteArray, (⟨(escW t.data.toList).toArray⟩ : ByteArray) = X := ⟨_, rfl⟩
    have hXs : X.size ≤ 6000 := by
      rw [← hX, size_of]
      have h1 := escW_len t.data.toList
      rw [size_list] at h1
      omega
    obtain ⟨U, hU⟩ : ∃ U, (⟨#[34]⟩ : ByteArray) ++ X = U := ⟨_, rfl⟩
    obtain ⟨Y, hY⟩ : ∃ Y, U ++ (⟨#[34]⟩ : ByteArray) = Y := ⟨_, rfl⟩
    have hUs : U.size ≤ 6001 := by rw [← hU, ByteArray.size_append]; show 1 + X.size ≤ 6001; omega
    have hYe : (⟨(34 :: escW t.data.toList ++ [34]).toArray⟩ : ByteArray) = Y := by
      rw [← hY, ← hU, ← hX]
      have e1 := cat_of [34] (escW t.data.toList)
      have e2 := cat_of ([34] ++ escW t.data.toList) [34]
      exact (by rw [show (⟨#[34]⟩ : ByteArray) = ⟨[(34 : UInt8)].toArray⟩ from rfl, e1, e2]; rfl)
    rw [hYe]
    rw [hX] at hWr
    have HWr := Lib.hid hWr
    have z1 : ¬ 9223372036854775807 < 1 + X.size := by omega
    have z2 : ¬ 9223372036854775807 < U.size + 1 := by omega
    clear ho hWr hX hYe
    go_enter Try.func28, Try.ntmps28
    go_wp2_with fail
    refine (HWr.out _).mono ?_
    rintro r w1 ⟨rfl, hb⟩
    have HB1 := Lib.hid (up_trans (HB.out _) hb)
    clear hb
    go_wp2
    go_ret2
    exact ⟨rfl, HB1.out⟩
end Go.Proofs.Ytonjdnahplphhaa
/-
  NO PROGRAM NEEDED: boxes (open containers) as cells.
-/
namespace Go.Proofs.Ytonjdnahplphhaa
open Go.RowKit
open Go.Lib
/-- An open container's cells. -/
def bxL (b : Bx) : List Value := [.bool b.map, .int .i64 b.c, .int .i64 (b.have_ : Int)]
def bxsL : List Bx → List Value
  | [] => []
  | b :: r => bxsL r ++ bxL b
theorem bxsL_length : ∀ s : List Bx, (bxsL s).length = s.length * 3
  | [] => rfl
  | b :: r => by rw [bxsL, List.length_append, bxsL_length r]; simp [bxL]; omega
theorem bxsL_one : ∀ (s : List Bx) (u : Value), u ∈ bxsL s → u.oneCell' = true
  | [], u, h => by simp [bxsL] at h
  | b :: r, u, h => by
    rw [bxsL, List.mem_append] at h
    rcases h with h | h
    · exact bxsL_one r u h
    · simp [bxL] at h
      rcases h with rfl | rfl | rfl <;> rfl
end Go.Proofs.Ytonjdnahplphhaa
/-
  THE DOCUMENT'S OWN STACK: open containers as a list of truchmanref1.Box.
-/
namespace Go.Proofs.Ytonjdnahplphhaa
open Go.RowKit
open Go.Lib
/-- The open containers, as a list of boxes. -/
structure Stk (M B : Nat) (w : World) (s : List Bx) (v : Value) : Prop where
  win : Win w 73 3 v s.length (bxsL s)
  vB : ∀ k ∈ Value.owner v, B ≤ k
  ok : ∀ b ∈ s, (-1 ≤ b.c ∧ b.c ≤ 9223372036854775807) ∧ b.have_ ≤ M
  deep : s.length ≤ 800
  most : M ≤ 1000
/-- Of the blocks below B only b may have turned. -/
structure Bew (B b : Nat) (w w' : World) : Prop where
  os : w'.os = w.os
  tape : w'.tape = w.tape
  output : w'.output = w.output
  size : w.heap.size ≤ w'.heap.size
  block : ∀ k, k < B → k ≠ b → w'.heap[k]? = w.heap[k]?
theorem _root_.Go.RowKit.Below.bew {B b : Nat} {w w' : World} (h : Below B w w') : Bew B b w w' := ⟨h.os, h.tape, h.output, h.size, fun k hk _ => h.block k hk⟩
theorem Bew.trans {B b : Nat} {w w1 w2 : World} (h : Bew B b w w1) (k : Bew B b w1 w2) : Bew B b w w2 :=
  ⟨k.os.trans h.os, k.tape.trans h.tape, k.output.trans h.output, Nat.le_trans h.size k.size, fun i hi hb => (k.block i hi hb).trans (h.block i hi hb)⟩
theorem Bew.set {B b : Nat} {w w' : World} (h : Bew B b w w') (i : Nat) (v : Value) : Bew B b w (w'.setCell ⟨b, i, none⟩ v) :=
  ⟨h.os, h.tape, h.output, Nat.le_trans h.size (by simp [World.setCell]), fun k hk hb => (Below.heap_setCell w' ⟨b, i, none⟩ v k (fun e => hb e)).trans (h.block k hk hb)⟩
theorem Bew.setFar {B b : Nat} {w w' : World} (h : Bew B b w w') {p : Addr} (hp : B ≤ p.block) (v : Value) : Bew B b w (w'.setCell p v) :=
  ⟨h.os, h.tape, h.output, Nat.le_trans h.size (by simp [World.setCell]), fun k hk hb => (Below.heap_setCell w' p v k (fun e => by subst e; omega)).trans (h.block k hk hb)⟩
theorem Bew.mono {B C b : Nat} {w w' : World} (h : Bew B b w w') (hC : C ≤ B) : Bew C b w w' := ⟨h.os, h.tape, h.output, h.size, fun k hk hb => h.block k (Nat.lt_of_lt_of_le hk hC) hb⟩
theorem Bew.below {B C b : Nat} {w w' : World} (h : Bew B b w w') (hC : C ≤ B) (hb : C ≤ b) : Below C w w' := ⟨h.os, h.tape, h.output, h.size, fun k hk => h.block k (Nat.lt_of_lt_of_le hk hC) (by omega)⟩
/-- What append made is nobody's but its own. -/
theorem Stk.zero {M B : Nat} {w : World} {s : List Bx} {v : Value} (h : Stk M B w s v) : Stk M 0 w s v := ⟨h.win, fun _ _ => Nat.zero_le _, h.ok, h.deep, h.most⟩
theorem Stk.go {M B : Nat} {w w' : World} {s : List Bx} {v : Value} (h : Stk M B w s v) (k : Below w.heap.size w w') : Stk M B w' s v :=
  ⟨h.win.keep fun g hg => k.block g (h.win.lt g hg), h.vB, h.ok, h.deep, h.most⟩
theorem Stk.last {M B : Nat} {w : World} {b : Bx} {r : List Bx} {v : Value} (h : Stk M B w (b :: r) v) :
    ∃ g off N cap, v = .slice (some ⟨g, off, none⟩) N cap ∧ N = r.length + 1 ∧ N ≤ 9223372036854775807 ∧
      (w.cell? ⟨g, off + r.length * 3, none⟩ = some (.bool b.map) ∧ w.cell? ⟨g, off + r.length * 3 + 1, none⟩ = some (.int .i64 b.c) ∧ w.cell? ⟨g, off + r.length * 3 + 2, none⟩ = some (.int .i64 (b.have_ : Int))) ∧
      (w.frozen? ⟨g, off + r.length * 3, none⟩ = false ∧ w.frozen? ⟨g, off + r.length * 3 + 1, none⟩ = false ∧ w.frozen? ⟨g, off + r.length * 3 + 2, none⟩ = false) := by
  obtain ⟨g, off, cap, rfl, h1, h2, _, _, h3⟩ := h.win.form (by simp)
  have hl := bxsL_length r
  have hx : ∀ j u, (bxL b)[j]? = some u → w.cell? ⟨g, off + (r.length * 3 + j), none⟩ = some u ∧ w.frozen? ⟨g, off + (r.length * 3 + j), none⟩ = false := fun j u hu => by
    refine h3 _ u ?_
    rw [bxsL, ← hl, List.getElem?_append_right (by omega), Nat.add_sub_cancel_left]
    exact hu
  have x0 := hx 0 _ rfl
  have x1 := hx 1 _ rfl
  have x2 := hx 2 _ rfl
  simp only [← Nat.add_assoc, Nat.add_zero] at x0 x1 x2
  refine ⟨g, off, _, cap, rfl, by simp, ?_, ⟨x0.1, x1.1, x2.1⟩, ⟨x0.2, x1.2, x2.2⟩⟩
  unfold maxLen at h2
  simp only [List.length_cons] at h1 ⊢
  omega
theorem Stk.up {M B : Nat} {w : World} {s : List Bx} {v : Value} (h : Stk M B w s v) (hM : M + 1 ≤ 1000) : Stk (M + 1) B w s v :=
  ⟨h.win, h.vB, fun b hb => ⟨(h.ok b hb).1, Nat.le_succ_of_le (h.ok b hb).2⟩, h.deep, hM⟩
theorem Stk.inc {M B : Nat} {w : World} {b : Bx} {r : List Bx} {g off cap N : Nat} (h : Stk M B w (b :: r) (.slice (some ⟨g, off, none⟩) N cap)) (hM : M + 1 ≤ 1000) (hN : N = r.length + 1) :
    Stk (M + 1) B (w.setCell ⟨g, off + r.length * 3 + 2, none⟩ (.int .i64 ((b.have_ : Int) + 1))) (incB (b :: r)) (.slice (some ⟨g, off, none⟩) N cap) ∧ B ≤ g := by
  subst hN
  have hw := h.win.store (r.length * 3 + 2) (by rw [bxsL_length]; simp; omega) (.int .i64 ((b.have_ : Int) + 1))
  have hx : (bxsL (b :: r)).set (r.length * 3 + 2) (.int .i64 ((b.have_ : Int) + 1)) = bxsL (incB (b :: r)) := by
    simp only [bxsL, incB]
    rw [← bxsL_length, List.set_append, if_neg (by omega), Nat.add_sub_cancel_left]
    rfl
  rw [hx, ← Nat.add_assoc] at hw
  refine ⟨⟨hw, h.vB, fun x hx => ?_, h.deep, hM⟩, h.vB g (by simp [Value.owner])⟩
  simp only [incB, List.mem_cons] at hx
  rcases hx with rfl | hx
  · have := h.ok b (by simp)
    exact ⟨this.1, by simp only; omega⟩
  · have := h.ok x (List.mem_cons_of_mem _ hx)
    exact ⟨this.1, by omega⟩
/-- A slice that append made of old elements and new ones. -/
theorem stk_new {M B : Nat} {w w2 : World} {s : List Bx} {v v' : Value} (hB : B ≤ w.heap.size) (hv : ∀ k ∈ Value.owner v, B ≤ k) {n : Nat} {xs : List Value} (hn : n = s.length) (hx : xs = bxsL s)
    (hW : Win w2 73 3 v' n xs) (hG : w.grownBy w2 v.ownBlock) (hO : v'.ownBlock = v.ownBlock ∨ v'.ownBlock = some w.heap.size ∧ w.heap.size < w2.heap.size)
    (ok : ∀ b ∈ s, (-1 ≤ b.c ∧ b.c ≤ 9223372036854775807) ∧ b.have_ ≤ M) (deep : s.length ≤ 800) (most : M ≤ 1000) : Stk M B w2 s v' ∧ Below B w w2 := by
  subst hn hx
  refine ⟨⟨hW, fun k hk => ?_, ok, deep, most⟩, (Below.refl B w).grown hG hB fun k hk => hv k ((ob_iff _ _).1 hk)⟩
  rcases hO with e | ⟨e, _⟩
  · exact hv k ((ob_iff _ _).1 (e ▸ (ob_iff _ _).2 hk))
  · have := (ob_iff _ _).2 hk
    rw [e] at this
    cases this
    exact hB
theorem info_rbox : (Try.prog.info? 73).map (fun i => (i.zero, i.size, i.bytes)) = some (some (.agg #[.bool false, .int .i64 0, .int .i64 0]), 3, 24) := by kernel_rfl
end Go.Proofs.Ytonjdnahplphhaa
/-
  CONTRACT of the document's own Writer, for JSON: an end; a value; a container that begins.
-/
namespace Go.Proofs.Ytonjdnahplphhaa
open Go.RowKit
open Go.Lib
/-- A Writer of JSON in block b: the containers that are open, whether the document is at its end. -/
structure WrAt (M B : Nat) (w : World) (b : Nat) (s : List Bx) (dn : Bool) : Prop where
  cells : ∃ a cp, At w b 0 [.int .i64 1, .slice a s.length cp, .bool dn] ∧ Stk M 0 w s (.slice a s.length cp)
  blk : ∃ cs, w.heap[b]? = some (.cells cs 32 (0, 0))
  low : B ≤ w.heap.size
theorem WrAt.lt {M B : Nat} {w : World} {b : Nat} {s : List Bx} {dn : Bool} (h : WrAt M B w b s dn) : b < w.heap.size := by
  obtain ⟨cs, hc⟩ := h.blk
  exact (Array.getElem?_eq_some_iff.1 hc).1
theorem WrAt.go {M B : Nat} {w w' : World} {b : Nat} {s : List Bx} {dn : Bool} (h : WrAt M B w b s dn) (k : Below w.heap.size w w') : WrAt M B w' b s dn := by
  have hk := k.block b h.lt
  obtain ⟨a, cp, h1, h2⟩ := h.cells
  obtain ⟨cs, hc⟩ := h.blk
  exact ⟨⟨a, cp, h1.keep hk, h2.go k⟩, ⟨cs, hk.trans hc⟩, Nat.le_trans h.low k.size⟩
theorem WrAt.at_ {M B C : Nat} {w : World} {b : Nat} {s : List Bx} {dn : Bool} (h : WrAt M B w b s dn) (hC : C ≤ w.heap.size) : WrAt M C w b s dn := ⟨h.cells, h.blk, hC⟩
theorem at_three {w : World} {b : Nat} {v0 v1 v2 : Value} (h : At w b 0 [v0, v1, v2]) :
    (w.cell? ⟨b, 0, none⟩ = some v0 ∧ w.frozen? ⟨b, 0, none⟩ = false) ∧ (w.cell? ⟨b, 1, none⟩ = some v1 ∧ w.frozen? ⟨b, 1, none⟩ = false) ∧ (w.cell? ⟨b, 2, none⟩ = some v2 ∧ w.frozen? ⟨b, 2, none⟩ = false) :=
  ⟨h 0 v0 rfl, h 1 v1 rfl, h 2 v2 rfl⟩
theorem WrAt.fin {M B : Nat} {w : World} {b : Nat} {s : List Bx} {dn : Bool} (h : WrAt M B w b s dn) (q : Bool) : WrAt M B (w.setCell ⟨b, 2, none⟩ (.bool q)) b s q ∧ Bew B b w (w.setCell ⟨b, 2, none⟩ (.bool q)) := by
  obtain ⟨a, cp, h1, h2⟩ := h.cells
  obtain ⟨cs, hc⟩ := h.blk
  have hap : b ∉ Value.owner (.slice a s.length cp) := h2.win.apart (t := 32) hc (by decide)
  have hset := h1.set 2 (by simp) (.bool q)
  refine ⟨⟨⟨a, cp, by simpa using hset, ⟨h2.win.setCell_far hap _, h2.vB, h2.ok, h2.deep, h2.most⟩⟩, ⟨_, heap_setCell_at w ⟨b, 2, none⟩ _ _ _ _ rfl hc⟩, by simpa [World.setCell] using h.low⟩, (Below.refl B w).bew.set _ _⟩
set_option maxRecDepth 100000 in
set_option maxHeartbeats 4000000 in
theorem wr_end {M B b : Nat} {w : World} {bx : Bx} {r : List Bx} (h : WrAt M B w b (bx :: r) false) (y : Bool) (m : Nat) (t : ByteArray) (c : Int) (hodd : ¬ (bx.map = true ∧ bx.have_ % 2 = 1)) :
    Calls Try.prog 13 #[.pointer (some ⟨b, 0, none⟩), evV ⟨7, y, m, t, c⟩] w fun q w' => q = .returned (.tuple #[.string ⟨(writeW (bx :: r) ⟨7, y, m, t, c⟩).toArray⟩, .int .i64 0]) ∧ WrAt M B w' b r (decide (r = [])) ∧ Bew B b w w' := by
  have hw : writeW (bx :: r) ⟨7, y, m, t, c⟩ = if bx.map = true then [125] else [93] := by simp [writeW]
  rw [hw]
  have hlen : (bx :: r).length = r.length + 1 := rfl
  obtain ⟨a, cp, hA, hS⟩ := h.cells
  rw [hlen] at hA hS
  have hBw : B ≤ w.heap.size := h.low
  have HM : Hid (∀ X, Calls Try.prog 16 #[evV ⟨7, y, m, t, c⟩] (w.alloc X) fun r w' => r = .returned (.bool true) ∧ Below (w.alloc X).heap.size (w.alloc X) w') := Lib.hid fun X => by
    have := may_any ⟨7, y, m, t, c⟩ (w.alloc X)
    rwa [decide_eq_true (show mayE ⟨7, y, m, t, c⟩ from ⟨by simp, by simp, by simp⟩)] at this
  simp only [evV] at HM ⊢
  have HH := Lib.hid h
  have HS := Lib.hid hS
  have HA := Lib.hid hA
  have hA0 := (hA.alloc (by simp) (.cells #[.int .i64 7, .bool y, .int .u64 m, .string t, .int .i64 c] 35))
  obtain ⟨⟨k0, _⟩, ⟨k1, _⟩, ⟨k2, _⟩⟩ := at_three hA0
  obtain ⟨n', hn'⟩ : ∃ n', r.length = n' := ⟨_, rfl⟩
  rw [hn'] at k1
  have Hn := Lib.hid hn'
  have hn15 : n' ≤ 799 := by have := hS.deep; simp only [List.length_cons] at this; omega
  clear h hA hS hw hlen hA0 hn'
  go_enter Try.func13, Try.ntmps13
  go_wp2_with fail
  refine (HM.out _).mono ?_
  rintro e w1 ⟨rfl, hb1⟩
  have E1 := Lib.hid ((blk_new w _ _).go hb1)
  obtain ⟨⟨e0, e1, e2, e3, e4⟩, ef⟩ := E1.out.ev
  have hbw1 := up_trans (up_alloc (Below.refl w.heap.size w) (.cells #[.int .i64 7, .bool y, .int .u64 m, .string t, .int .i64 c] 35)) hb1
  have HB1 := Lib.hid hbw1
  have A1 := Lib.hid (HA.out.keep (hbw1.block b HH.out.lt))
  have D1 := Lib.hid (HS.out.go hbw1)
  rw [Hn.out] at A1
  clear hb1 ef k0 k1 k2 hbw1
  obtain ⟨⟨k0, q0⟩, ⟨k1, q1⟩, ⟨k2, q2⟩⟩ := at_three A1.out
  obtain ⟨g, off, N, cap', hv, hNa, hNb, ⟨y0, y1, y2⟩, _⟩ := D1.out.last
  injection hv with hv1 hv2 hv3
  subst hv1
  rw [Hn.out] at y0 y1 y2
  have hbh : bx.have_ ≤ 1000 := Nat.le_trans (D1.out.ok bx (by simp)).2 D1.out.most
  obtain ⟨bm, bc, bh⟩ := bx
  simp only at y0 y1 y2 hodd hbh
  have kk0 : ∀ x, (w1.alloc x).cell? ⟨b, 0, none⟩ = some (.int .i64 1) := fun x => (at_three (A1.out.alloc (by simp) x)).1.1
  have kk1 : ∀ x, (w1.alloc x).cell? ⟨b, 1, none⟩ = some (.slice (some ⟨g, off, none⟩) (n' + 1) cp) := fun x => (at_three (A1.out.alloc (by simp) x)).2.1.1
  obtain ⟨v', hsl, hw', ho'⟩ := D1.out.win.hi (P := Try.prog) (t := 30) Try.underlying30 (fun w => by kernel_rfl) r.length (by simp)
  rw [bxsL, ← bxsL_length, List.take_left, Hn.out] at hw'
  rw [Hn.out] at hsl
  obtain ⟨a', cap2, rfl, _, _⟩ := hw'.slice_form
  have HW := Lib.hid (fun x => hw'.alloc x)
  have hl1 : ((n' : Int) + 1 == 1) = decide (r = []) := by
    have h1 := Hn.out
    cases r with
    | nil => simp at h1; subst h1; rfl
    | cons x r => simp at h1; simp; omega
  generalize hR : decide (r = []) = R at hl1
  have HR := Lib.hid hR
  have hn1 : ((n' : Int) + 1 == 0) = false := by rw [beq_eq_false_iff_ne]; omega
  clear hw' ho' hNa hNb hv2 hv3 hR
  have hz : bm = true → (((bh : Int) % 2) != 0) = false := fun e => by
    simp only [bne_eq_false_iff_eq]
    have : ¬ bh % 2 = 1 := fun h2 => hodd ⟨e, h2⟩
    omega
  clear hodd
  have fin : ∀ (v3 : Value) (w3 : World), Win w3 73 3 v3 n' (bxsL r) → (w1.alloc (.cells #[.bool bm, .int .i64 bc, .int .i64 (bh : Int)] 73)).grownBy w3 (Value.slice none 0 0).ownBlock →
      (v3.ownBlock = (Value.slice none 0 0).ownBlock ∨ v3.ownBlock = some (w1.heap.size + 1) ∧ w1.heap.size + 1 < w3.heap.size) →
      (w3.cell? ⟨b, 0, none⟩ = some (.int .i64 1) ∧ (w3.cell? ⟨b, 1, none⟩ = some (.slice (some ⟨g, off, none⟩) (n' + 1) cp) ∧ w3.frozen? ⟨b, 1, none⟩ = false) ∧ (w3.cell? ⟨b, 2, none⟩ = some (.bool false) ∧ w3.frozen? ⟨b, 2, none⟩ = false)) ∧
      w3.cell? ⟨w1.heap.size, 0, none⟩ = some (.bool bm) ∧ b ≠ w1.heap.size ∧
      (∀ a3 c3, v3 = .slice a3 n' c3 → WrAt M B ((w3.setCell ⟨b, 1, none⟩ (.slice a3 n' c3)).setCell ⟨b, 2, none⟩ (.bool R)) b r R ∧ Bew B b w ((w3.setCell ⟨b, 1, none⟩ (.slice a3 n' c3)).setCell ⟨b, 2, none⟩ (.bool R))) := by
    intro v3 w3 hW3 hG3 hO3
    have hbw1 : b < w1.heap.size := Nat.lt_of_lt_of_le HH.out.lt HB1.out.size
    have hB1 : B ≤ w1.heap.size := Nat.le_trans HH.out.low HB1.out.size
    have hK := stk_new (M := M) (B := B) (s := r) (w := w1.alloc (.cells #[.bool bm, .int .i64 bc, .int .i64 (bh : Int)] 73)) (by simp; omega) (by simp [Value.owner]) Hn.out.symm rfl hW3 hG3 (by simpa using hO3) (fun x hx => D1.out.ok x (List.mem_cons_of_mem _ hx)) (by rw [Hn.out]; omega) D1.out.most
    have hblk : w3.heap[b]? = w1.heap[b]? := (hG3.block b (by simp; omega) (by simp [Value.ownBlock])).trans (Below.heap_alloc w1 _ b hbw1)
    have A3 := A1.out.keep hblk
    obtain ⟨⟨p0, _⟩, ⟨p1, p1'⟩, ⟨p2, p2'⟩⟩ := at_three A3
    have hbox : w3.cell? ⟨w1.heap.size, 0, none⟩ = some (.bool bm) := ((blk_new w1 #[.bool bm, .int .i64 bc, .int .i64 (bh : Int)] 73).lift hG3 (by simp [Value.ownBlock])).cell 0
    refine ⟨⟨p0, ⟨p1, p1'⟩, ⟨p2, p2'⟩⟩, hbox, by omega, ?_⟩
    rintro a3 c3 rfl
    obtain ⟨cs, hcs⟩ := HH.out.blk
    have hw3 : w3.heap[b]? = some (.cells cs 32 (0, 0)) := hblk.trans ((HB1.out.block b HH.out.lt).trans hcs)
    have hap : b ∉ Value.owner (.slice a3 n' c3) := hK.1.win.apart (t := 32) hw3 (by decide)
    have hset := (A3.set 1 (by simp) (.slice a3 n' c3)).set 2 (by simp) (.bool R)
    have hS3 : Stk M 0 ((w3.setCell ⟨b, 1, none⟩ (.slice a3 n' c3)).setCell ⟨b, 2, none⟩ (.bool R)) r (.slice a3 n' c3) := ⟨(hK.1.win.setCell_far hap _).setCell_far hap _, fun _ _ => Nat.zero_le _, hK.1.ok, hK.1.deep, hK.1.most⟩
    refine ⟨⟨⟨a3, c3, ?_, ?_⟩, ⟨_, heap_setCell_at _ ⟨b, 2, none⟩ _ _ _ _ rfl (heap_setCell_at w3 ⟨b, 1, none⟩ _ _ _ _ rfl hw3)⟩, by
      have := hK.2.size
      simp only [World.setCell, Array.size_modify]
      simp at this
      omega⟩, ?_⟩
    · rw [Hn.out]
      simpa using hset
    · rw [Hn.out]
      exact hS3
    · have b1 : Below B w w1 := HB1.out.mono hBw
      have b2 : Below B w (w1.alloc (.cells #[.bool bm, .int .i64 bc, .int .i64 (bh : Int)] 73)) := b1.alloc hB1 _
      exact ((b2.trans hK.2).bew.set _ _).set _ _
  have FIN := Lib.hid fin
  clear fin
  cases bm with
  | false =>
    clear hz
    go_wp2_with (at_builtin; refine wpList_append_win rfl _ _ _ rfl Try.underlying30 info_rbox rfl rfl (Win.nil_ _ _ _) _ rfl n' _ (Win.src (HW.out _) Try.underlying30 (bxsL_one _)) ?e1 ?e2 ?_)
    case e1 => unfold maxLen; omega
    case e2 => omega
    intro v3 w3 hW3 hG3 hO3
    obtain ⟨⟨p0, ⟨p1, p1'⟩, ⟨p2, p2'⟩⟩, hbox, hne, hfin⟩ := FIN.out v3 w3 (by simpa using hW3.out) hG3.out (by simpa using hO3.out)
    obtain ⟨a3, c3, rfl, _, _⟩ := Win.slice_form hW3.out
    have HFI := Lib.hid hfin
    clear hW3 hG3 hO3 hfin
    go_wp2
    go_ret2
    exact ⟨rfl, by rw [HR.out]; exact HFI.out _ _ rfl⟩
  | true =>
    have hz1 := hz rfl
    clear hz
    go_wp2_with (at_builtin; refine wpList_append_win rfl _ _ _ rfl Try.underlying30 info_rbox rfl rfl (Win.nil_ _ _ _) _ rfl n' _ (Win.src (HW.out _) Try.underlying30 (bxsL_one _)) ?e1 ?e2 ?_)
    case e1 => unfold maxLen; omega
    case e2 => omega
    intro v3 w3 hW3 hG3 hO3
    obtain ⟨⟨p0, ⟨p1, p1'⟩, ⟨p2, p2'⟩⟩, hbox, hne, hfin⟩ := FIN.out v3 w3 (by simpa using hW3.out) hG3.out (by simpa using hO3.out)
    obtain ⟨a3, c3, rfl, _, _⟩ := Win.slice_form hW3.out
    have HFI := Lib.hid hfin
    clear hW3 hG3 hO3 hfin
    go_wp2
    go_ret2
    exact ⟨rfl, by rw [HR.out]; exact HFI.out _ _ rfl⟩
end Go.Proofs.Ytonjdnahplphhaa
/-
  NO PROGRAM NEEDED: a block as a whole, as cells from place 0 on.
-/
namespace Go.Proofs.Ytonjdnahplphhaa
open Go.RowKit
open Go.Lib
theorem at_block {w : World} {b : Nat} {c : Array Value} {t : TypeId} (h : w.heap[b]? = some (.cells c t (0, 0))) : At w b 0 c.toList := fun j u hj => by
  refine ⟨?_, ?_⟩
  · unfold World.cell?
    simp only [h]
    simpa using hj
  · unfold World.frozen?
    simp only [h]
    simp
end Go.Proofs.Ytonjdnahplphhaa
/-
  NO PROGRAM NEEDED: of a document that goes on to its end there is room for one part more; how long a part is as CBOR.
-/
namespace Go.Proofs.Ytonjdnahplphhaa
open Go.Lib
/-- Of a document that goes on to its end: there is room for one part more. -/
theorem room_of {b : Bx} {r : List Bx} {e : Ev} {l : List Ev} (h : runC (.live (b :: r)) (e :: l) = .done) (h7 : e.k ≠ 7) (hc : 0 ≤ b.c) : (b.have_ : Int) < if b.map = true then 2 * b.c else b.c := by
  by_cases h1 : (b.have_ : Int) < if b.map = true then 2 * b.c else b.c
  · exact h1
  · by_cases h2 : (b.have_ : Int) = if b.map = true then 2 * b.c else b.c
    · have hf : fullB b = true := by
        unfold fullB
        rw [decide_eq_true_eq]
        exact ⟨hc, h2⟩
      exact absurd (full_end hf h) h7
    · exact absurd h (over_bad _ _ ⟨b, List.mem_cons_self, hc, by omega⟩)
theorem writeK_len {e : Ev} (hg : GoodK e) (s : List Bx) : (writeK s e).length ≤ 209 := by
  have ht := hg.text.1
  unfold writeK
  split
  · split
    · simp
    · split <;> simp
  split
  · simp
  split
  · simp
  split
  · exact Nat.le_trans (headB_len _ _) (by decide)
  split
  · rw [List.length_append]
    have := headB_len (if e.k = 3 then 3 else 2) e.t.data.toList.length
    omega
  split
  · simp
  · exact Nat.le_trans (headB_len _ _) (by decide)
theorem writeK_any {e : Ev} (h7 : e.k ≠ 7) (s : List Bx) : writeK s e = writeK [] e := by
  unfold writeK
  rw [if_neg h7, if_neg h7]
end Go.Proofs.Ytonjdnahplphhaa
/-
  CONTRACTS of the book's documents out of numbers: what the closures of truchmanbook.Doc do, step by step.
-/
namespace Go.Proofs.Ytonjdnahplphhaa
open Go.RowKit
open Go.Lib
/-- A number of the list, as 'next' tells it. -/
def wordD (z : Int) : Nat := (bits .and .i64 z 65535).toNat
theorem wordD_is (z : Int) : bits .and .i64 z 65535 = ((wordD z : Nat) : Int) ∧ wordD z < 65536 := by
  have e1 : (BitVec.ofInt 64 (65535 : Int)).toNat = 65535 := by rw [BitVec.toNat_ofInt]; omega
  have h1 : bits .and .i64 z 65535 = ((BitVec.ofInt 64 z &&& BitVec.ofInt 64 65535).toNat : Int) ∧ (BitVec.ofInt 64 z &&& BitVec.ofInt 64 65535).toNat ≤ 65535 := by
    have hle : (BitVec.ofInt 64 z &&& BitVec.ofInt 64 65535).toNat ≤ 65535 := by
      rw [BitVec.toNat_and, e1]
      exact Nat.and_le_right
    refine ⟨?_, hle⟩
    show IntKind.i64.wrap ((BitVec.ofInt 64 z &&& BitVec.ofInt 64 65535).toNat : Nat) = _
    rw [IntKind.wrap_i64]
    omega
  unfold wordD
  rw [h1.1]
  generalize (BitVec.ofInt 64 z &&& BitVec.ofInt 64 65535).toNat = a at h1
  exact ⟨rfl, by rw [Int.toNat_natCast]; omega⟩
def nxD (n : Nat) (L : Nat → Int) (at_ : Nat) : Nat := if at_ < n then wordD (L at_) else 0
theorem nxD_lt (n : Nat) (L : Nat → Int) (at_ : Nat) : nxD n L at_ < 65536 := by
  unfold nxD
  split
  · exact (wordD_is _).2
  · omega
/-- The closures. -/
def clNext (ba bl : Nat) : Value := .func (.func 33) #[] #[.pointer (some ⟨ba, 0, none⟩), .pointer (some ⟨bl, 0, none⟩)]
def clItem (bn bo bd bi : Nat) : Value := .func (.func 34) #[] #[.pointer (some ⟨bn, 0, none⟩), .pointer (some ⟨bo, 0, none⟩), .pointer (some ⟨bd, 0, none⟩), .pointer (some ⟨bi, 0, none⟩)]
/-- The numbers, as they came in. -/
def DLAt (w : World) (B : Nat) (A : Option Addr) (n : Nat) (L : Nat → Int) : Prop := 0 < n → ∃ b off, A = some ⟨b, off, none⟩ ∧ b < B ∧ ∀ i, i < n → w.cell? ⟨b, off + i, none⟩ = some (.int .i64 (L i))
theorem DLAt.below {w w' : World} {B n : Nat} {A : Option Addr} {L : Nat → Int} (h : DLAt w B A n L) (k : Below B w w') : DLAt w' B A n L := fun hn => by
  obtain ⟨b, off, hA, hb, hc⟩ := h hn
  exact ⟨b, off, hA, hb, fun i hi => (k.cell hb).trans (hc i hi)⟩
/-- What the closures of a document hold on to. -/
structure DS (W : World) (A : Option Addr) (n cp : Nat) (L : Nat → Int) (D bl bd bo ba bn bi : Nat) (w : World) (v : Value) (m : Nat) (out : List Ev) (at_ : Nat) : Prop where
  l : Blk w bl #[.slice A n cp] 48
  d : Blk w bd #[.int .i64 D] 3
  o : Blk w bo #[v] 22
  a : Blk w ba #[.int .i64 at_] 3
  x : Blk w bn #[clNext ba bl] 85
  i : Blk w bi #[clItem bn bo bd bi] 86
  made : Made W w v m out
  len : out.length = m
  ls : DLAt w W.heap.size A n L
  da : bd ≠ ba
  low : W.heap.size ≤ bo ∧ W.heap.size ≤ ba
theorem next_any (bl ba n cp at_ : Nat) (A : Option Addr) (L : Nat → Int) (B : Nat) (w : World) (hl : Blk w bl #[.slice A n cp] 48) (ha : Blk w ba #[.int .i64 at_] 3) (hL : DLAt w B A n L) (hB : B ≤ ba) (h1 : at_ ≤ 1000000000) (h2 : n ≤ 1000000000) :
    Calls Try.prog 33 #[.pointer (some ⟨ba, 0, none⟩), .pointer (some ⟨bl, 0, none⟩)] w fun r w' => r = .returned (.int .i64 (nxD n L at_ : Nat)) ∧ w' = w.setCell ⟨ba, 0, none⟩ (.int .i64 ((at_ : Int) + 1)) := by
  have a0 := ha.cell 0
  have f0 := ha.froz 0
  have hne : bl ≠ ba := fun e => by
    subst e
    have := hl.symm.trans ha
    simp at this
  have l0 : (w.setCell ⟨ba, 0, none⟩ (.int .i64 ((at_ : Int) + 1))).cell? ⟨bl, 0, none⟩ = some (.slice A n cp) := (hl.far hne _).cell 0
  have l1 := hl.cell 0
  by_cases hlt : at_ < n
  · obtain ⟨b, off, rfl, hb, hc⟩ := hL (by omega)
    have hc := hc at_ hlt
    have hcell : (w.setCell ⟨ba, 0, none⟩ (.int .i64 ((at_ : Int) + 1))).cell? ⟨b, off + at_, none⟩ = some (.int .i64 (L at_)) := by
      rw [World.cell?_setCell_other _ _ _ _ (fun e => by have := congrArg Addr.block e; simp at this; omega)]
      exact hc
    have hnx : nxD n L at_ = wordD (L at_) := by unfold nxD; rw [if_pos hlt]
    have hw := (wordD_is (L at_)).1
    rw [hnx]
    generalize wordD (L at_) = z at hw
    clear hL hl ha hb hnx
    go_enter Try.func33, Try.ntmps33
    go_wp2
    go_ret
    exact ⟨rfl, rfl⟩
  · have hnx : nxD n L at_ = 0 := by unfold nxD; rw [if_neg hlt]
    rw [hnx]
    clear hL hl ha hnx
    go_enter Try.func33, Try.ntmps33
    go_wp2
    go_ret
    exact ⟨rfl, rfl⟩
theorem DS.go {W : World} {A : Option Addr} {n cp : Nat} {L : Nat → Int} {D bl bd bo ba bn bi : Nat} {w w' : World} {v : Value} {m : Nat} {out : List Ev} {at_ : Nat} (h : DS W A n cp L D bl bd bo ba bn bi w v m out at_) (k : Below w.heap.size w w') :
    DS W A n cp L D bl bd bo ba bn bi w' v m out at_ :=
  ⟨h.l.go k, h.d.go k, h.o.go k, h.a.go k, h.x.go k, h.i.go k, h.made.go k, h.len, h.ls.below (k.mono h.made.1.size), h.da, h.low⟩
/-- One number more is told. -/
theorem DS.next {W : World} {A : Option Addr} {n cp : Nat} {L : Nat → Int} {D bl bd bo ba bn bi : Nat} {w : World} {v : Value} {m : Nat} {out : List Ev} {at_ : Nat} (h : DS W A n cp L D bl bd bo ba bn bi w v m out at_) :
    DS W A n cp L D bl bd bo ba bn bi (w.setCell ⟨ba, 0, none⟩ (.int .i64 ((at_ : Int) + 1))) v m out (at_ + 1) := by
  have ne : ∀ {b : Nat} {cs : Array Value} {t : TypeId}, Blk w b cs t → t ≠ 3 → b ≠ ba := fun {b cs t} hb ht e => by
    subst e
    have := hb.symm.trans h.a
    simp at this
    exact ht this.2
  have hb : Below W.heap.size w (w.setCell ⟨ba, 0, none⟩ (.int .i64 ((at_ : Int) + 1))) := (Below.refl _ _).setCell h.low.2 _
  have hap : ba ∉ Value.owner v := h.made.2.1.apart (t := 3) h.a (by decide)
  exact ⟨h.l.far (ne h.l (by decide)) _, h.d.far h.da _, h.o.far (ne h.o (by decide)) _, h.a.set 0 _, h.x.far (ne h.x (by decide)) _, h.i.far (ne h.i (by decide)) _,
    ⟨h.made.1.trans hb, h.made.2.1.setCell_far hap _, h.made.2.2⟩, h.len, h.ls.below hb, h.da, h.low⟩
/-- One part more is told. -/
theorem DS.put {W : World} {A : Option Addr} {n cp : Nat} {L : Nat → Int} {D bl bd bo ba bn bi : Nat} {w wA w2 : World} {v v' : Value} {m : Nat} {out : List Ev} {at_ : Nat} (h : DS W A n cp L D bl bd bo ba bn bi w v m out at_) (e : Ev)
    (hA : Below w.heap.size w wA) (hW : Win w2 35 5 v' (m + 1) (evsC out ++ evsC [e])) (hG : wA.grownBy w2 v.ownBlock) (hO : v'.ownBlock = v.ownBlock ∨ v'.ownBlock = some wA.heap.size ∧ wA.heap.size < w2.heap.size) :
    DS W A n cp L D bl bd bo ba bn bi (w2.setCell ⟨bo, 0, none⟩ v') v' (m + 1) (out ++ [e]) at_ := by
  have hM : Made W w2 v' (m + 1) (out ++ [e]) := made_more h.made hA hW hG hO
  have lift : ∀ {b : Nat} {cs : Array Value} {t : TypeId}, Blk w b cs t → 35 ≠ t → Blk w2 b cs t := fun {b cs t} hb ht => (hb.go hA).lift hG (fun e => h.made.2.1.apart hb ht ((ob_iff _ _).1 e))
  have ho := lift h.o (by decide)
  have ne : ∀ {b : Nat} {cs : Array Value} {t : TypeId}, Blk w2 b cs t → t ≠ 22 → b ≠ bo := fun {b cs t} hb ht e => by
    subst e
    have := hb.symm.trans ho
    simp at this
    exact ht this.2
  have hl := lift h.l (by decide)
  have hd := lift h.d (by decide)
  have ha := lift h.a (by decide)
  have hx := lift h.x (by decide)
  have hi := lift h.i (by decide)
  have hb : Below W.heap.size w2 (w2.setCell ⟨bo, 0, none⟩ v') := (Below.refl _ _).setCell h.low.1 _
  have hw2 : Below W.heap.size w w2 := ((Below.refl W.heap.size w).trans (hA.mono h.made.1.size)).grown hG (Nat.le_trans h.made.1.size hA.size) (fun k hk => h.made.2.2 k ((ob_iff _ _).1 hk))
  have hap : bo ∉ Value.owner v' := hM.2.1.apart (t := 22) ho (by decide)
  exact ⟨hl.far (ne hl (by decide)) _, hd.far (ne hd (by decide)) _, ho.set 0 _, ha.far (ne ha (by decide)) _, hx.far (ne hx (by decide)) _, hi.far (ne hi (by decide)) _,
    ⟨hM.1.trans hb, hM.2.1.setCell_far hap _, hM.2.2⟩, by rw [List.length_append, h.len]; rfl, (h.ls.below hw2).below hb, h.da, h.low⟩
end Go.Proofs.Ytonjdnahplphhaa
/-
  CONTRACTS of the book's documents out of numbers: one item after another, to the depth asked.
-/
namespace Go.Proofs.Ytonjdnahplphhaa
open Go.RowKit
open Go.Lib
/-- A part that holds no other. -/
def plainD (x : Nat) : Ev :=
  if x % 8 = 0 then ⟨0, false, 0, ⟨#[]⟩, 0⟩
  else if x % 8 = 1 then ⟨1, decide (x / 8 % 2 = 1), 0, ⟨#[]⟩, 0⟩
  else if x % 8 ≤ 3 then ⟨2, decide (x / 8 % 2 = 1), (x * x / 2 ^ (x % 8) : Nat), ⟨#[]⟩, 0⟩
  else ⟨3, false, 0, ⟨(textL x).toArray⟩, 0⟩
/-- A part that would hold others, below the depth asked. -/
def lowD (x : Nat) : Ev := if x % 8 = 5 then ⟨3, false, 0, ⟨#[]⟩, 0⟩ else ⟨2, false, (x : Nat), ⟨#[]⟩, 0⟩
def listD (it : Nat → List Ev × Nat) : Nat → Nat → List Ev × Nat
  | 0, a => ([], a)
  | k + 1, a => ((it a).1 ++ (listD it k (it a).2).1, (listD it k (it a).2).2)
def mapD (n : Nat) (L : Nat → Int) (it : Nat → List Ev × Nat) : Nat → Nat → List Ev × Nat
  | 0, a => ([], a)
  | k + 1, a => (⟨3, false, 0, ⟨(textL (nxD n L a)).toArray⟩, 0⟩ :: ((it (a + 1)).1 ++ (mapD n L it k (it (a + 1)).2).1), (mapD n L it k (it (a + 1)).2).2)
/-- One item: its parts, and where the next is read. -/
def itemD (n : Nat) (L : Nat → Int) : Nat → Nat → List Ev × Nat
  | 0, a => (if nxD n L a % 8 ≤ 4 then [plainD (nxD n L a)] else [lowD (nxD n L a)], a + 1)
  | f + 1, a =>
    if nxD n L a % 8 ≤ 4 then ([plainD (nxD n L a)], a + 1)
    else if nxD n L a % 8 = 5 then
      (⟨5, false, 0, ⟨#[]⟩, (nxD n L a / 8 % 4 : Nat)⟩ :: (listD (itemD n L f) (nxD n L a / 8 % 4) (a + 1)).1 ++ [⟨7, false, 0, ⟨#[]⟩, 0⟩], (listD (itemD n L f) (nxD n L a / 8 % 4) (a + 1)).2)
    else
      (⟨6, false, 0, ⟨#[]⟩, (nxD n L a / 8 % 3 : Nat)⟩ :: (mapD n L (itemD n L f) (nxD n L a / 8 % 3) (a + 1)).1 ++ [⟨7, false, 0, ⟨#[]⟩, 0⟩], (mapD n L (itemD n L f) (nxD n L a / 8 % 3) (a + 1)).2)
/-- No item has more parts than this, nor reads more numbers. -/
def capD : Nat → Nat
  | 0 => 1
  | f + 1 => 3 * capD f + 5
theorem DS.held {W : World} {A : Option Addr} {n cp : Nat} {L : Nat → Int} {D bl bd bo ba bn bi : Nat} {w wA w2 : World} {v : Value} {m : Nat} {out : List Ev} {at_ : Nat} (h : DS W A n cp L D bl bd bo ba bn bi w v m out at_)
    (hA : Below w.heap.size w wA) (hG : wA.grownBy w2 v.ownBlock) : Blk w2 bo #[v] 22 := (h.o.go hA).lift hG (fun e => h.made.2.1.apart (t := 22) h.o (by decide) ((ob_iff _ _).1 e))
theorem next_ds {D n cp at_ m bl bd bo ba bn bi : Nat} {A : Option Addr} {L : Nat → Int} {W w : World} {v : Value} {out : List Ev} (h : DS W A n cp L D bl bd bo ba bn bi w v m out at_) (h1 : at_ ≤ 900000000) (h2 : n ≤ 900000000) :
    Calls Try.prog 33 #[.pointer (some ⟨ba, 0, none⟩), .pointer (some ⟨bl, 0, none⟩)] w fun r w' => r = .returned (.int .i64 (nxD n L at_ : Nat)) ∧ DS W A n cp L D bl bd bo ba bn bi w' v m out (at_ + 1) :=
  (next_any bl ba n cp at_ A L W.heap.size w h.l h.a h.ls h.low.2 (by omega) (by omega)).mono (by
    rintro e w' ⟨rfl, rfl⟩
    exact ⟨rfl, h.next⟩)
theorem and8 (x : Nat) (h : x < 65536) : bits .and .i64 (x : Int) 8 = if x / 8 % 2 = 1 then 8 else 0 := by
  have := and_nat x 8 (by omega) (by omega)
  rw [show x &&& 8 = if x / 8 % 2 = 1 then 8 else 0 from by
    apply Nat.eq_of_testBit_eq
    intro i
    rw [Nat.testBit_and, show (8 : Nat) = 2 ^ 3 from rfl, Nat.testBit_two_pow]
    by_cases hi : 3 = i
    · subst hi
      rw [Nat.testBit_eq_decide_div_mod_eq]
      by_cases hb : x / 2 ^ 3 % 2 = 1
      · rw [if_pos hb, decide_eq_true hb]
        rfl
      · simp [hb]
    · by_cases hb : x / 2 ^ 3 % 2 = 1
      · rw [if_pos hb, Nat.testBit_two_pow]
        simp [hi]
      · rw [if_neg hb]
        simp [hi]] at this
  rw [show ((8 : Nat) : Int) = 8 from rfl] at this
  rw [this]
  split <;> rfl
set_option maxHeartbeats 2000000 in
theorem plain0 {D n cp at_ m bl bd bo ba bn bi : Nat} (d : Nat) {A : Option Addr} {L : Nat → Int} {W w : World} {v : Value} {out : List Ev} (h : DS W A n cp L D bl bd bo ba bn bi w v m out at_) (h1 : at_ ≤ 900000000) (h2 : n ≤ 900000000) (h3 : m ≤ 900000000) (hx : nxD n L at_ % 8 = 0) :
    Calls Try.prog 34 #[.int .i64 d, .pointer (some ⟨bn, 0, none⟩), .pointer (some ⟨bo, 0, none⟩), .pointer (some ⟨bd, 0, none⟩), .pointer (some ⟨bi, 0, none⟩)] w fun r w' => ∃ v', r = .returned (.tuple #[]) ∧ DS W A n cp L D bl bd bo ba bn bi w' v' (m + 1) (out ++ [plainD (nxD n L at_)]) (at_ + 1) := by
  have hX := nxD_lt n L at_
  have x0 : w.cell? ⟨bn, 0, none⟩ = some (.func (.func 33) #[] #[.pointer (some ⟨ba, 0, none⟩), .pointer (some ⟨bl, 0, none⟩)]) := h.x.cell 0
  have HC := Lib.hid (next_ds h h1 h2)
  clear h
  generalize nxD n L at_ = x at hx hX HC
  have hpd : plainD x = ⟨0, false, 0, ⟨#[]⟩, 0⟩ := by unfold plainD; rw [if_pos hx]
  rw [hpd]
  clear hpd
  go_enter Try.func34, Try.ntmps34
  go_wp2_with (first
    | (go_at_call 33; refine HC.out.mono ?_; rintro e w1 ⟨rfl, HN⟩; have x1 := HN.o.cell 0; have x2 := HN.o.froz 0; have HN := Lib.hid HN)
    | (at_builtin; go_loud (refine wpList_append_win rfl _ _ _ rfl Try.underlying22 info_ev rfl rfl (HN.out.made.2.1.alloc _) _ rfl 1 _ (src_new _ Try.underlying22 5 1 (evsC [⟨0, false, 0, ⟨#[]⟩, 0⟩]) 35 _ rfl (evsC_one _) (heap_alloc_new _ _)) ?e1 ?e2 ?_)))
  case e1 => unfold maxLen; omega
  case e2 => omega
  intro v3 w3 hW3 hG3 hO3
  have hD := HN.out.put ⟨0, false, 0, ⟨#[]⟩, 0⟩ (up_alloc (Below.refl _ _) _) hW3.out hG3.out (by simpa using hO3.out)
  have hH := HN.out.held (up_alloc (Below.refl _ _) _) hG3.out
  have y1 := hH.cell 0
  have y2 := hH.froz 0
  obtain ⟨a3, c3, rfl, _, _⟩ := hD.made.2.1.slice_form
  have hD := Lib.hid hD
  clear hW3 hG3 hO3 hH x1 x2 x0
  go_wp2
  refine bodyPost_end (results_none rfl _ _ _) rfl ?_
  exact ⟨_, rfl, hD.out⟩
set_option maxHeartbeats 2000000 in
theorem plain1 {D n cp at_ m bl bd bo ba bn bi : Nat} (d : Nat) {A : Option Addr} {L : Nat → Int} {W w : World} {v : Value} {out : List Ev} (h : DS W A n cp L D bl bd bo ba bn bi w v m out at_) (h1 : at_ ≤ 900000000) (h2 : n ≤ 900000000) (h3 : m ≤ 900000000) (hx : nxD n L at_ % 8 = 1) :
    Calls Try.prog 34 #[.int .i64 d, .pointer (some ⟨bn, 0, none⟩), .pointer (some ⟨bo, 0, none⟩), .pointer (some ⟨bd, 0, none⟩), .pointer (some ⟨bi, 0, none⟩)] w fun r w' => ∃ v', r = .returned (.tuple #[]) ∧ DS W A n cp L D bl bd bo ba bn bi w' v' (m + 1) (out ++ [plainD (nxD n L at_)]) (at_ + 1) := by
  have hX := nxD_lt n L at_
  have x0 : w.cell? ⟨bn, 0, none⟩ = some (.func (.func 33) #[] #[.pointer (some ⟨ba, 0, none⟩), .pointer (some ⟨bl, 0, none⟩)]) := h.x.cell 0
  have HC := Lib.hid (next_ds h h1 h2)
  clear h
  generalize nxD n L at_ = x at hx hX HC
  have h8 := and8 x hX
  by_cases hb : x / 8 % 2 = 1
  · have hpd : plainD x = ⟨1, true, 0, ⟨#[]⟩, 0⟩ := by unfold plainD; rw [if_neg (by omega), if_pos hx, decide_eq_true hb]
    rw [if_pos hb] at h8
    rw [hpd]
    clear hpd hb
    go_enter Try.func34, Try.ntmps34
    go_wp2_with (first
      | (go_at_call 33; refine HC.out.mono ?_; rintro e w1 ⟨rfl, HN⟩; have x1 := HN.o.cell 0; have x2 := HN.o.froz 0; have HN := Lib.hid HN)
      | (at_builtin; go_loud (refine wpList_append_win rfl _ _ _ rfl Try.underlying22 info_ev rfl rfl (HN.out.made.2.1.alloc _) _ rfl 1 _ (src_new _ Try.underlying22 5 1 (evsC [⟨1, true, 0, ⟨#[]⟩, 0⟩]) 35 _ rfl (evsC_one _) (heap_alloc_new _ _)) ?e1 ?e2 ?_)))
    case e1 => unfold maxLen; omega
    case e2 => omega
    intro v3 w3 hW3 hG3 hO3
    have hD := HN.out.put ⟨1, true, 0, ⟨#[]⟩, 0⟩ (up_alloc (Below.refl _ _) _) hW3.out hG3.out (by simpa using hO3.out)
    have hH := HN.out.held (up_alloc (Below.refl _ _) _) hG3.out
    have y1 := hH.cell 0
    have y2 := hH.froz 0
    obtain ⟨a3, c3, rfl, _, _⟩ := hD.made.2.1.slice_form
    have hD := Lib.hid hD
    clear hW3 hG3 hO3 hH x1 x2 x0
    go_wp2
    refine bodyPost_end (results_none rfl _ _ _) rfl ?_
    exact ⟨_, rfl, hD.out⟩
  · have hpd : plainD x = ⟨1, false, 0, ⟨#[]⟩, 0⟩ := by unfold plainD; rw [if_neg (by omega), if_pos hx, decide_eq_false hb]
    rw [if_neg hb] at h8
    rw [hpd]
    clear hpd hb
    go_enter Try.func34, Try.ntmps34
    go_wp2_with (first
      | (go_at_call 33; refine HC.out.mono ?_; rintro e w1 ⟨rfl, HN⟩; have x1 := HN.o.cell 0; have x2 := HN.o.froz 0; have HN := Lib.hid HN)
      | (at_builtin; go_loud (refine wpList_append_win rfl _ _ _ rfl Try.underlying22 info_ev rfl rfl (HN.out.made.2.1.alloc _) _ rfl 1 _ (src_new _ Try.underlying22 5 1 (evsC [⟨1, false, 0, ⟨#[]⟩, 0⟩]) 35 _ rfl (evsC_one _) (heap_alloc_new _ _)) ?e1 ?e2 ?_)))
    case e1 => unfold maxLen; omega
    case e2 => omega
    intro v3 w3 hW3 hG3 hO3
    have hD := HN.out.put ⟨1, false, 0, ⟨#[]⟩, 0⟩ (up_alloc (Below.refl _ _) _) hW3.out hG3.out (by simpa using hO3.out)
    have hH := HN.out.held (up_alloc (Below.refl _ _) _) hG3.out
    have y1 := hH.cell 0
    have y2 := hH.froz 0
    obtain ⟨a3, c3, rfl, _, _⟩ := hD.made.2.1.slice_form
    have hD := Lib.hid hD
    clear hW3 hG3 hO3 hH x1 x2 x0
    go_wp2
    refine bodyPost_end (results_none rfl _ _ _) rfl ?_
    exact ⟨_, rfl, hD.out⟩
end Go.Proofs.Ytonjdnahplphhaa
/-
  THE BOOK'S DOCUMENTS OUT OF NUMBERS, AS LISTS: how many parts; that they are one document, with counts or without; what JSON has.
-/
namespace Go.Proofs.Ytonjdnahplphhaa
open Go.RowKit
open Go.Lib
theorem nx_real {n : Nat} {L : Nat → Int} {a : Nat} (h : nxD n L a ≠ 0) : a < n := by
  unfold nxD at h
  split at h
  · assumption
  · exact absurd rfl h
/-- How many numbers are read of k items, how many parts they are: as many more as a document's own numbers ask. -/
def Fine (n a k : Nat) (r : List Ev × Nat) : Prop := a ≤ r.2 ∧ r.2 + 4 * min a n ≤ a + k + 4 * min r.2 n ∧ r.1.length ≤ 2 * (r.2 - a)
theorem list_fine (n : Nat) (it : Nat → List Ev × Nat) (hit : ∀ a, Fine n a 1 (it a)) : ∀ k a, Fine n a k (listD it k a) := by
  intro k
  induction k with
  | zero => intro a; exact ⟨Nat.le_refl _, by simp [listD], by simp [listD]⟩
  | succ k ih =>
    intro a
    obtain ⟨h1, h2, h3⟩ := hit a
    obtain ⟨g1, g2, g3⟩ := ih (it a).2
    simp only [listD]
    refine ⟨by simp only; omega, by simp only; omega, ?_⟩
    simp only [List.length_append]
    omega
theorem map_fine (n : Nat) (L : Nat → Int) (it : Nat → List Ev × Nat) (hit : ∀ a, Fine n a 1 (it a)) : ∀ k a, Fine n a (2 * k) (mapD n L it k a) := by
  intro k
  induction k with
  | zero => intro a; exact ⟨Nat.le_refl _, by simp [mapD], by simp [mapD]⟩
  | succ k ih =>
    intro a
    obtain ⟨h1, h2, h3⟩ := hit (a + 1)
    obtain ⟨g1, g2, g3⟩ := ih (it (a + 1)).2
    simp only [mapD]
    refine ⟨by simp only; omega, by simp only; omega, ?_⟩
    simp only [List.length_cons, List.length_append]
    omega
theorem item_fine (n : Nat) (L : Nat → Int) : ∀ f a, Fine n a 1 (itemD n L f a) := by
  intro f
  induction f with
  | zero =>
    intro a
    simp only [itemD]
    refine ⟨by simp only; omega, by simp only; omega, ?_⟩
    split <;> simp
  | succ f ih =>
    intro a
    simp only [itemD]
    by_cases h1 : nxD n L a % 8 ≤ 4
    · rw [if_pos h1]
      exact ⟨by simp only; omega, by simp only; omega, by simp⟩
    · have hr := nx_real (n := n) (L := L) (a := a) (by omega)
      rw [if_neg h1]
      by_cases h2 : nxD n L a % 8 = 5
      · rw [if_pos h2]
        obtain ⟨g1, g2, g3⟩ := list_fine n _ ih (nxD n L a / 8 % 4) (a + 1)
        refine ⟨by simp only; omega, by simp only; omega, ?_⟩
        simp only [List.length_append, List.length_cons, List.length_nil]
        omega
      · rw [if_neg h2]
        obtain ⟨g1, g2, g3⟩ := map_fine n L _ ih (nxD n L a / 8 % 3) (a + 1)
        refine ⟨by simp only; omega, by simp only; omega, ?_⟩
        simp only [List.length_append, List.length_cons, List.length_nil]
        omega
/-- Of n numbers a document has no more parts than this. -/
theorem item_length (n : Nat) (L : Nat → Int) (f : Nat) : (itemD n L f 0).1.length ≤ 2 + 8 * n ∧ 1 ≤ (itemD n L f 0).1.length := by
  obtain ⟨h1, h2, h3⟩ := item_fine n L f 0
  refine ⟨by omega, ?_⟩
  cases f with
  | zero => simp only [itemD]; split <;> simp
  | succ f =>
    simp only [itemD]
    repeat' split
    all_goals simp
/-! ### One document -/
/-- With the counts that they have, or without. -/
def gE (o : Bool) (e : Ev) : Ev := if o = true then openE e else e
theorem deep_append (D : Nat) : ∀ (l k : List Ev) (s s' : List Bx), runC (.live s) l = .live s' → DeepW D s l → DeepW D s' k → DeepW D s (l ++ k) := by
  intro l
  induction l with
  | nil => intro k s s' h _ hk; cases h; exact hk
  | cons e l ih =>
    intro k s s' h hd hk
    rw [runC_cons] at h
    obtain ⟨h1, h2⟩ := hd
    refine ⟨h1, ?_⟩
    cases hs : stepC (.live s) e with
    | bad f => rw [hs, runC_bad] at h; cases h
    | done => trivial
    | live s2 =>
      rw [hs] at h h2
      exact ih k s2 s' h h2 hk
/-- All of l goes from s on, to c. -/
def Goes (D : Nat) (s : List Bx) (l : List Ev) (c : Ck) : Prop := runC (.live s) l = c ∧ DeepW D s l
theorem Goes.append {D : Nat} {s s' : List Bx} {l k : List Ev} {c : Ck} (h : Goes D s l (.live s')) (g : Goes D s' k c) : Goes D s (l ++ k) c :=
  ⟨by rw [runC_append, h.1, g.1], deep_append D l k s s' h.1 h.2 g.2⟩
theorem goes_one {D : Nat} {s : List Bx} {e : Ev} {c : Ck} (h : stepC (.live s) e = c) (hd : e.k = 5 ∨ e.k = 6 → s.length < D) : Goes D s [e] c := by
  refine ⟨h, hd, ?_⟩
  cases stepC (.live s) e <;> trivial
def afterV (s : List Bx) : Ck := if s = [] then .done else .live (incB s)
/-- A part that holds no other, in a value's place. -/
theorem goes_low {D : Nat} {s : List Bx} {e : Ev} (hs : keyB s = false) (hk : e.k = 0 ∨ e.k = 1 ∨ e.k = 2 ∨ e.k = 3) : Goes D s [e] (afterV s) := by
  refine goes_one ?_ (by omega)
  simp only [stepC]
  rw [if_neg (fun h => h ⟨by omega, by omega, by omega⟩), if_neg (by omega), if_neg (by rw [hs]; simp), if_neg (by omega)]
  rfl
theorem plain_kind (x : Nat) : (plainD x).k = 0 ∨ (plainD x).k = 1 ∨ (plainD x).k = 2 ∨ (plainD x).k = 3 := by
  unfold plainD
  repeat' split
  all_goals simp
theorem lowD_kind (x : Nat) : (lowD x).k = 0 ∨ (lowD x).k = 1 ∨ (lowD x).k = 2 ∨ (lowD x).k = 3 := by
  unfold lowD
  split <;> simp
theorem gE_low (o : Bool) (e : Ev) (hk : e.k = 0 ∨ e.k = 1 ∨ e.k = 2 ∨ e.k = 3) : gE o e = e := by
  unfold gE openE
  split
  · rw [if_neg (by omega)]
  · rfl
theorem gE_end (o : Bool) : gE o ⟨7, false, 0, ⟨#[]⟩, 0⟩ = ⟨7, false, 0, ⟨#[]⟩, 0⟩ := by
  cases o <;> rfl
def cntG (o : Bool) (c : Nat) : Int := if o = true then -1 else (c : Int)
theorem gE_arr (o : Bool) (c : Nat) : gE o ⟨5, false, 0, ⟨#[]⟩, (c : Nat)⟩ = ⟨5, false, 0, ⟨#[]⟩, cntG o c⟩ := by
  cases o <;> rfl
theorem gE_map (o : Bool) (c : Nat) : gE o ⟨6, false, 0, ⟨#[]⟩, (c : Nat)⟩ = ⟨6, false, 0, ⟨#[]⟩, cntG o c⟩ := by
  cases o <;> rfl
theorem cntG_low (o : Bool) (c : Nat) : -1 ≤ cntG o c := by
  unfold cntG
  split <;> omega
theorem goes_begin {D : Nat} {s : List Bx} (hs : keyB s = false) (m : Bool) (c : Int) (hc : -1 ≤ c) (hD : s.length < D) (hD16 : D ≤ 16) : Goes D s [⟨if m then 6 else 5, false, 0, ⟨#[]⟩, c⟩] (.live (⟨m, c, 0⟩ :: incB s)) := by
  refine goes_one ?_ (fun _ => hD)
  simp only [stepC]
  cases m with
  | true =>
    rw [if_neg (fun h => h ⟨by simp, by simp, fun _ => hc⟩), if_neg (by simp), if_neg (by rw [hs]; simp), if_pos (by simp), if_neg (by omega)]
    rfl
  | false =>
    rw [if_neg (fun h => h ⟨by simp, by simp, fun _ => hc⟩), if_neg (by simp), if_neg (by rw [hs]; simp), if_pos (by simp), if_neg (by omega)]
    rfl
theorem goes_end {D : Nat} {s : List Bx} (b : Bx) (hb : ¬ shutB b) : Goes D (b :: incB s) [⟨7, false, 0, ⟨#[]⟩, 0⟩] (afterV s) := by
  refine goes_one ?_ (by simp)
  simp only [stepC]
  rw [if_neg (fun h => h ⟨by simp, by simp, by simp⟩), if_pos trivial, if_neg hb]
  cases s with
  | nil => rfl
  | cons x r => simp [afterV, incB]
theorem incB_length (s : List Bx) : (incB s).length = s.length := by cases s <;> rfl
theorem goes_list (o : Bool) (D f : Nat) (it : Nat → List Ev × Nat) (hit : ∀ a s, keyB s = false → s.length + f ≤ D → Goes D s ((it a).1.map (gE o)) (afterV s)) :
    ∀ k a (b : Bx) (s : List Bx), b.map = false → s.length + 1 + f ≤ D → Goes D (b :: s) ((listD it k a).1.map (gE o)) (.live (⟨b.map, b.c, b.have_ + k⟩ :: s)) := by
  intro k
  induction k with
  | zero => intro a b s _ _; exact ⟨rfl, trivial⟩
  | succ k ih =>
    intro a b s hb hD
    simp only [listD, List.map_append]
    have h1 := hit a (b :: s) (by simp [keyB, hb]) (by simp only [List.length_cons]; omega)
    have h2 := ih (it a).2 ⟨b.map, b.c, b.have_ + 1⟩ s hb hD
    simp only [Nat.add_assoc, Nat.add_comm 1 k] at h2
    exact h1.append h2
theorem goes_map (o : Bool) (D f n : Nat) (L : Nat → Int) (it : Nat → List Ev × Nat) (hit : ∀ a s, keyB s = false → s.length + f ≤ D → Goes D s ((it a).1.map (gE o)) (afterV s)) :
    ∀ k a (b : Bx) (s : List Bx), b.map = true → b.have_ % 2 = 0 → s.length + 1 + f ≤ D → Goes D (b :: s) ((mapD n L it k a).1.map (gE o)) (.live (⟨b.map, b.c, b.have_ + 2 * k⟩ :: s)) := by
  intro k
  induction k with
  | zero => intro a b s _ _ _; exact ⟨rfl, trivial⟩
  | succ k ih =>
    intro a b s hb h0 hD
    simp only [mapD, List.map_cons, List.map_append]
    have hkey : Goes D (b :: s) [gE o ⟨3, false, 0, ⟨(textL (nxD n L a)).toArray⟩, 0⟩] (.live (⟨b.map, b.c, b.have_ + 1⟩ :: s)) := by
      rw [gE_low o _ (by simp)]
      refine goes_one ?_ (by simp)
      simp only [stepC]
      rw [if_neg (fun h => h ⟨by simp, by simp, by simp⟩), if_neg (by simp), if_neg (by simp), if_neg (by simp), if_neg (by simp)]
      rfl
    have h1 := hit (a + 1) (⟨b.map, b.c, b.have_ + 1⟩ :: s) (by simp [keyB, hb]; omega) (by simp only [List.length_cons]; omega)
    have h2 := ih (it (a + 1)).2 ⟨b.map, b.c, b.have_ + 2⟩ s hb (by simp only; omega) hD
    have e2 : b.have_ + 2 + 2 * k = b.have_ + 2 * (k + 1) := by omega
    simp only [e2] at h2
    exact hkey.append (h1.append h2)
theorem goes_item (o : Bool) (D n : Nat) (L : Nat → Int) (hD16 : D ≤ 16) : ∀ f a s, keyB s = false → s.length + f ≤ D → Goes D s ((itemD n L f a).1.map (gE o)) (afterV s) := by
  intro f
  induction f with
  | zero =>
    intro a s hs _
    simp only [itemD]
    split
    · simp only [List.map_cons, List.map_nil, gE_low o _ (plain_kind _)]
      exact goes_low hs (plain_kind _)
    · simp only [List.map_cons, List.map_nil, gE_low o _ (lowD_kind _)]
      exact goes_low hs (lowD_kind _)
  | succ f ih =>
    intro a s hs hD
    simp only [itemD]
    by_cases h1 : nxD n L a % 8 ≤ 4
    · rw [if_pos h1]
      simp only [List.map_cons, List.map_nil, gE_low o _ (plain_kind _)]
      exact goes_low hs (plain_kind _)
    · rw [if_neg h1]
      by_cases h2 : nxD n L a % 8 = 5
      · rw [if_pos h2]
        generalize nxD n L a / 8 % 4 = k
        simp only [List.map_cons, List.map_append, List.map_nil, gE_arr, gE_end, List.cons_append]
        have g1 := goes_begin hs false (cntG o k) (cntG_low o k) (show s.length < D by omega) hD16
        have g2 := goes_list o D f _ ih k (a + 1) ⟨false, cntG o k, 0⟩ (incB s) rfl (by rw [incB_length]; omega)
        have g3 := goes_end (D := D) (s := s) ⟨false, cntG o k, 0 + k⟩ (by
          unfold shutB cntG
          cases o <;> simp)
        exact g1.append (g2.append g3)
      · rw [if_neg h2]
        generalize nxD n L a / 8 % 3 = k
        simp only [List.map_cons, List.map_append, List.map_nil, gE_map, gE_end, List.cons_append]
        have g1 := goes_begin hs true (cntG o k) (cntG_low o k) (show s.length < D by omega) hD16
        have g2 := goes_map o D f n L _ ih k (a + 1) ⟨true, cntG o k, 0⟩ (incB s) rfl rfl (by rw [incB_length]; omega)
        have g3 := goes_end (D := D) (s := s) ⟨true, cntG o k, 0 + 2 * k⟩ (by
          unfold shutB cntG
          cases o <;> simp)
        exact g1.append (g2.append g3)
/-- A DOCUMENT OUT OF NUMBERS IS ONE, with its counts or without. -/
theorem doc_one (o : Bool) (D n : Nat) (L : Nat → Int) (hD16 : D ≤ 16) : checkE ((itemD n L D 0).1.map (gE o)) = 0 ∧ DeepW D [] ((itemD n L D 0).1.map (gE o)) := by
  obtain ⟨h1, h2⟩ := goes_item o D n L hD16 D 0 [] rfl (by simp)
  refine ⟨?_, h2⟩
  unfold checkE
  rw [h1]
  rfl
end Go.Proofs.Ytonjdnahplphhaa
/-
  THE BOOK'S DOCUMENTS OUT OF NUMBERS, AS LISTS: their numbers, their texts; what JSON has.
-/
namespace Go.Proofs.Ytonjdnahplphhaa
open Go.RowKit
open Go.Lib
def pieceR (i : Nat) : Nat := if i = 0 then 97 else if i = 1 then 34 else if i = 2 then 92 else if i = 3 then 10 else if i = 4 then 233 else if i = 5 then 1 else if i = 6 then 119070 else 122
theorem piece_rune : ∀ i : Fin 8, pieceL i.val = encL (pieceR i.val) := by decide +kernel
theorem pieceR_ok (i : Nat) : IsRune (pieceR i) := by
  unfold pieceR IsRune
  repeat' split
  all_goals omega
theorem textGo_runes (x : Nat) : ∀ k acc, ∃ ns : List Nat, ns.length = k ∧ (∀ r ∈ ns, IsRune r) ∧ textGo x k acc = acc ++ ns.flatMap encL := by
  intro k
  induction k with
  | zero => intro acc; exact ⟨[], rfl, by simp, by simp [textGo]⟩
  | succ k ih =>
    intro acc
    have hp := piece_rune ⟨x / 2 ^ ((k + 1) % 8) % 8, by omega⟩
    obtain ⟨ns, h1, h2, h3⟩ := ih (acc ++ pieceL (x / 2 ^ ((k + 1) % 8) % 8))
    refine ⟨pieceR (x / 2 ^ ((k + 1) % 8) % 8) :: ns, by simp [h1], ?_, ?_⟩
    · intro r hr
      rcases List.mem_cons.1 hr with rfl | hr
      · exact pieceR_ok _
      · exact h2 r hr
    · simp only [textGo]
      rw [h3, List.flatMap_cons, List.append_assoc]
      simp only at hp
      rw [hp]
theorem textL_fine (x : Nat) : validD (textL x) = true ∧ (textL x).length ≤ 28 := by
  obtain ⟨ns, h1, h2, h3⟩ := textGo_runes x (x % 8) []
  unfold textL
  rw [h3, List.nil_append]
  refine ⟨valid_encs ns h2, ?_⟩
  have : ∀ l : List Nat, (∀ n ∈ l, IsRune n) → (l.flatMap encL).length ≤ 4 * l.length := by
    intro l hl
    induction l with
    | nil => simp
    | cons a r ih =>
      have h4 := (enc_len (hl a (by simp))).2
      have := ih (fun n hn => hl n (by simp [hn]))
      rw [List.flatMap_cons, List.length_append, List.length_cons]
      generalize encL a = y at *
      omega
  have := this ns h2
  omega
/-- What a part of these documents is. -/
structure DocE (e : Ev) : Prop where
  kind : e.k = 0 ∨ e.k = 1 ∨ e.k = 2 ∨ e.k = 3 ∨ e.k = 5 ∨ e.k = 6 ∨ e.k = 7
  tidy : tidyE e = e
  cnt : -1 ≤ e.c ∧ e.c ≤ 3
  mag : e.m < 4294967296
  text : validD e.t.data.toList = true ∧ e.t.data.toList.length ≤ 28
theorem validD_nil : validD [] = true := rfl
theorem docE_plain (x : Nat) (hx : x < 65536) : DocE (plainD x) := by
  unfold plainD
  by_cases h0 : x % 8 = 0
  · rw [if_pos h0]
    exact ⟨by simp, rfl, by simp, by simp, validD_nil, by simp⟩
  rw [if_neg h0]
  by_cases h1 : x % 8 = 1
  · rw [if_pos h1]
    exact ⟨by simp, rfl, by simp, by simp, validD_nil, by simp⟩
  rw [if_neg h1]
  by_cases h2 : x % 8 ≤ 3
  · rw [if_pos h2]
    refine ⟨by simp, rfl, by simp, ?_, validD_nil, by simp⟩
    have h3 : x * x ≤ 65535 * 65535 := Nat.mul_le_mul (by omega) (by omega)
    have h4 : x * x / 2 ^ (x % 8) ≤ x * x := Nat.div_le_self _ _
    simp only
    omega
  · rw [if_neg h2]
    exact ⟨by simp, rfl, by simp, by simp, (textL_fine x).1, (textL_fine x).2⟩
theorem docE_low (x : Nat) (hx : x < 65536) : DocE (lowD x) := by
  unfold lowD
  split
  · exact ⟨by simp, rfl, by simp, by simp, validD_nil, by simp⟩
  · exact ⟨by simp, rfl, by simp, by simp only; omega, validD_nil, by simp⟩
theorem docE_list (it : Nat → List Ev × Nat) (hit : ∀ a, ∀ e ∈ (it a).1, DocE e) : ∀ k a, ∀ e ∈ (listD it k a).1, DocE e := by
  intro k
  induction k with
  | zero => intro a e he; simp [listD] at he
  | succ k ih =>
    intro a e he
    simp only [listD, List.mem_append] at he
    rcases he with he | he
    · exact hit a e he
    · exact ih _ e he
theorem docE_key (n : Nat) (L : Nat → Int) (a : Nat) : DocE ⟨3, false, 0, ⟨(textL (nxD n L a)).toArray⟩, 0⟩ := ⟨by simp, rfl, by simp, by simp, (textL_fine _).1, (textL_fine _).2⟩
theorem docE_map (n : Nat) (L : Nat → Int) (it : Nat → List Ev × Nat) (hit : ∀ a, ∀ e ∈ (it a).1, DocE e) : ∀ k a, ∀ e ∈ (mapD n L it k a).1, DocE e := by
  intro k
  induction k with
  | zero => intro a e he; simp [mapD] at he
  | succ k ih =>
    intro a e he
    simp only [mapD, List.mem_cons, List.mem_append] at he
    rcases he with rfl | he | he
    · exact docE_key n L a
    · exact hit (a + 1) e he
    · exact ih _ e he
theorem docE_item (n : Nat) (L : Nat → Int) : ∀ f a, ∀ e ∈ (itemD n L f a).1, DocE e := by
  have hend : DocE ⟨7, false, 0, ⟨#[]⟩, 0⟩ := ⟨by simp, rfl, by simp, by simp, validD_nil, by simp⟩
  intro f
  induction f with
  | zero =>
    intro a e he
    simp only [itemD] at he
    split at he
    · obtain rfl : e = _ := by simpa using he
      exact docE_plain _ (nxD_lt n L a)
    · obtain rfl : e = _ := by simpa using he
      exact docE_low _ (nxD_lt n L a)
  | succ f ih =>
    intro a e he
    simp only [itemD] at he
    by_cases h1 : nxD n L a % 8 ≤ 4
    · rw [if_pos h1] at he
      obtain rfl : e = _ := by simpa using he
      exact docE_plain _ (nxD_lt n L a)
    · rw [if_neg h1] at he
      by_cases h2 : nxD n L a % 8 = 5
      · rw [if_pos h2] at he
        have hk : nxD n L a / 8 % 4 ≤ 3 := by omega
        generalize nxD n L a / 8 % 4 = k at he hk
        simp only [List.cons_append, List.mem_cons, List.mem_append, List.not_mem_nil, or_false] at he
        rcases he with rfl | he | rfl
        · exact ⟨by simp, rfl, by simp only; omega, by simp, validD_nil, by simp⟩
        · exact docE_list _ ih _ _ e he
        · exact hend
      · rw [if_neg h2] at he
        have hk : nxD n L a / 8 % 3 ≤ 2 := by omega
        generalize nxD n L a / 8 % 3 = k at he hk
        simp only [List.cons_append, List.mem_cons, List.mem_append, List.not_mem_nil, or_false] at he
        rcases he with rfl | he | rfl
        · exact ⟨by simp, rfl, by simp only; omega, by simp, validD_nil, by simp⟩
        · exact docE_map n L _ ih _ _ e he
        · exact hend
theorem docE_open {e : Ev} (h : DocE e) : DocE (openE e) ∧ (((openE e).k = 5 ∨ (openE e).k = 6) → (openE e).c = -1) := by
  obtain ⟨k, y, m, t, c⟩ := e
  unfold openE
  by_cases hk : k = 5 ∨ k = 6
  · rw [if_pos hk]
    obtain ⟨h1, h2, h3, h4, h5⟩ := h
    refine ⟨⟨h1, ?_, by simp, h4, h5⟩, fun _ => rfl⟩
    simp only [tidyE] at h2 ⊢
    rcases hk with rfl | rfl
    · simp at h2 ⊢; exact ⟨h2.1, h2.2.1, h2.2.2⟩
    · simp at h2 ⊢; exact ⟨h2.1, h2.2.1, h2.2.2⟩
  · rw [if_neg hk]
    exact ⟨h, fun h' => absurd h' hk⟩
theorem DocE.good {e : Ev} (h : DocE e) (ho : e.k = 5 ∨ e.k = 6 → e.c = -1) : GoodW e := ⟨h.kind, h.tidy, ho, by have := h.mag; omega, fun _ => ⟨h.text.1, by have := h.text.2; omega⟩⟩
theorem DocE.ok {e : Ev} (h : DocE e) : EvOk e := by
  have h1 := h.kind
  have h2 := h.cnt
  have h3 := h.mag
  have h4 := h.text.2
  rw [size_list] at h4
  exact ⟨⟨by omega, by omega⟩, by omega, ⟨by omega, by omega⟩, by omega⟩
/-- What JSON has of them. -/
theorem doc_good (n : Nat) (L : Nat → Int) (f a : Nat) : ∀ e ∈ (itemD n L f a).1.map openE, GoodW e ∧ EvOk e ∧ e.t.size ≤ 28 := by
  intro e he
  obtain ⟨x, hx, rfl⟩ := List.mem_map.1 he
  obtain ⟨h1, h2⟩ := docE_open (docE_item n L f a x hx)
  refine ⟨h1.good h2, h1.ok, ?_⟩
  have := h1.text.2
  rwa [size_list] at this
theorem gE_true : gE true = openE := by funext e; rfl
theorem gE_false : gE false = id := by funext e; rfl
end Go.Proofs.Ytonjdnahplphhaa
/-
  NO PROGRAM NEEDED: documents written part by part, as far as they are written; blanks ahead of all.
-/
namespace Go.Proofs.Ytonjdnahplphhaa
open Go.Lib
theorem writeAll_snoc (p q : List UInt8) : ∀ (l : List Ev) (s s' : List Bx) (e : Ev), runC (.live s) l = .live s' → writeAll p q s (l ++ [e]) = writeAll p q s l ++ (p ++ (writeW s' e ++ q))
  | [], s, s', e, h => by
    have : Ck.live s = Ck.live s' := h
    obtain rfl : s = s' := by cases this; rfl
    simp only [List.nil_append, writeAll]
    cases stepC (.live s) e <;> simp
  | x :: l, s, s', e, h => by
    rw [runC_cons] at h
    simp only [List.cons_append, writeAll]
    cases hx : stepC (.live s) x with
    | bad f => rw [hx, runC_bad] at h; cases h
    | done =>
      rw [hx] at h
      cases l with
      | nil => cases h
      | cons y l => rw [runC_cons] at h; simp only [stepC] at h; rw [runC_bad] at h; cases h
    | live s1 =>
      rw [hx] at h
      simp only [writeAll_snoc p q l s1 s' e h, List.append_assoc]
/-- Ahead of its end a document goes on. -/
theorem live_at {l : List Ev} (h : runC (.live []) l = .done) {j : Nat} (hj : j < l.length) : ∃ s, runC (.live []) (l.take j) = .live s ∧ ∀ f, stepC (.live s) l[j] ≠ .bad f := by
  have h1 : runC (runC (.live []) (l.take j)) (l.drop j) = .done := by rw [← runC_append, List.take_append_drop]; exact h
  have hd : l.drop j = l[j] :: l.drop (j + 1) := List.drop_eq_getElem_cons hj
  rw [hd, runC_cons] at h1
  cases hc : runC (.live []) (l.take j) with
  | bad f => rw [hc] at h1; simp only [stepC] at h1; rw [runC_bad] at h1; cases h1
  | done => rw [hc] at h1; simp only [stepC] at h1; rw [runC_bad] at h1; cases h1
  | live s =>
    rw [hc] at h1
    exact ⟨s, rfl, fun f hf => by rw [hf, runC_bad] at h1; cases h1⟩
theorem runC_take {l : List Ev} {j : Nat} (hj : j < l.length) (c : Ck) : runC c (l.take (j + 1)) = stepC (runC c (l.take j)) l[j] := by
  rw [List.take_add_one, List.getElem?_eq_getElem hj, runC_append]
  rfl
theorem write_take (p q : List UInt8) {l : List Ev} {j : Nat} (hj : j < l.length) {s : List Bx} (h : runC (.live []) (l.take j) = .live s) :
    writeAll p q [] (l.take (j + 1)) = writeAll p q [] (l.take j) ++ (p ++ (writeW s l[j] ++ q)) := by
  rw [List.take_add_one, List.getElem?_eq_getElem hj]
  exact writeAll_snoc p q _ _ _ _ h
/-- A document behind a blank. -/
theorem back_blank (D : Nat) (b : UInt8) (hb : isBlank b.toNat = true) (l : List UInt8) : allJ D (b :: l) = allJ D l := by
  have h : stepJ D ⟨.idle, .at_ [] false⟩ b = (⟨.idle, .at_ [] false⟩, []) := by
    rw [step_tells D [] false .idle b [] (blank_none b hb)]
    rfl
  unfold allJ
  simp only [runJ, h, List.nil_append]
end Go.Proofs.Ytonjdnahplphhaa
/-
  NO PROGRAM NEEDED: the book's documents as Check lets them by.
-/
namespace Go.Proofs.Ytonjdnahplphhaa
open Go.RowKit
open Go.Lib
theorem doc_run (n : Nat) (L : Nat → Int) (D : Nat) (hD : D ≤ 16) : runC (.live []) (itemD n L D 0).1 = .done := by
  have h := (doc_one false D n L hD).1
  rw [gE_false, List.map_id] at h
  exact check_zero h
theorem doc_e (n : Nat) (L : Nat → Int) (D : Nat) : ∀ e ∈ (itemD n L D 0).1, DocE e := docE_item n L D 0
theorem docE_may {e : Ev} (h : DocE e) : mayE e := by
  have h1 := h.kind
  have h2 := h.cnt
  exact ⟨by omega, by omega, fun _ => h2.1⟩
theorem docE_small {e : Ev} (h : DocE e) : EvOk e ∧ e.t.size ≤ 1000 := by
  refine ⟨h.ok, ?_⟩
  have := h.text.2
  rw [size_list] at this
  omega
theorem run_ended {l : List Ev} (h : runC .done l = .done) : l = [] := by
  cases l with
  | nil => rfl
  | cons e l =>
    have : runC .done (e :: l) = runC (.bad 2) l := rfl
    rw [this, runC_bad] at h
    cases h
theorem stepC_may {s : List Bx} {e : Ev} (h : ∀ f, stepC (.live s) e ≠ .bad f) : mayE e := by
  by_cases hm : mayE e
  · exact hm
  · exact absurd (by simp only [stepC]; rw [if_pos hm]) (h 2)
/-- All counts are known. -/
theorem doc_pos (n : Nat) (L : Nat → Int) : ∀ f a, ∀ e ∈ (itemD n L f a).1, 0 ≤ e.c := by
  have hpl : ∀ x, 0 ≤ (plainD x).c := by
    intro x
    unfold plainD
    repeat' split
    all_goals simp
  have hlw : ∀ x, 0 ≤ (lowD x).c := by
    intro x
    unfold lowD
    split <;> simp
  have hls : ∀ (it : Nat → List Ev × Nat), (∀ a, ∀ e ∈ (it a).1, 0 ≤ e.c) → ∀ k a, ∀ e ∈ (listD it k a).1, 0 ≤ e.c := by
    intro it hit k
    induction k with
    | zero => intro a e he; simp [listD] at he
    | succ k ih =>
      intro a e he
      simp only [listD, List.mem_append] at he
      rcases he with he | he
      · exact hit a e he
      · exact ih _ e he
  have hmp : ∀ (it : Nat → List Ev × Nat), (∀ a, ∀ e ∈ (it a).1, 0 ≤ e.c) → ∀ k a, ∀ e ∈ (mapD n L it k a).1, 0 ≤ e.c := by
    intro it hit k
    induction k with
    | zero => intro a e he; simp [mapD] at he
    | succ k ih =>
      intro a e he
      simp only [mapD, List.mem_cons, List.mem_append] at he
      rcases he with rfl | he | he
      · simp
      · exact hit (a + 1) e he
      · exact ih _ e he
  intro f
  induction f with
  | zero =>
    intro a e he
    simp only [itemD] at he
    split at he
    · obtain rfl : e = _ := by simpa using he
      exact hpl _
    · obtain rfl : e = _ := by simpa using he
      exact hlw _
  | succ f ih =>
    intro a e he
    simp only [itemD] at he
    by_cases h1 : nxD n L a % 8 ≤ 4
    · rw [if_pos h1] at he
      obtain rfl : e = _ := by simpa using he
      exact hpl _
    · rw [if_neg h1] at he
      by_cases h2 : nxD n L a % 8 = 5
      · rw [if_pos h2] at he
        generalize nxD n L a / 8 % 4 = k at he
        simp only [List.cons_append, List.mem_cons, List.mem_append, List.not_mem_nil, or_false] at he
        rcases he with rfl | he | rfl
        · simp
        · exact hls _ ih _ _ e he
        · simp
      · rw [if_neg h2] at he
        generalize nxD n L a / 8 % 3 = k at he
        simp only [List.cons_append, List.mem_cons, List.mem_append, List.not_mem_nil, or_false] at he
        rcases he with rfl | he | rfl
        · simp
        · exact hmp _ ih _ _ e he
        · simp
end Go.Proofs.Ytonjdnahplphhaa
/-
  The document's own Tidy: of whatever part.
-/
namespace Go.Proofs.Ytonjdnahplphhaa
open Go.RowKit
open Go.Lib
theorem rtidy_k (e : Ev) : (tidyE e).k = e.k := by
  unfold tidyE
  by_cases h1 : e.k = 1
  · rw [if_pos h1]; exact h1.symm
  · by_cases h2 : e.k = 2
    · rw [if_neg h1, if_pos h2]; exact h2.symm
    · rw [if_neg h1, if_neg h2]
      split
      · rfl
      · split <;> rfl
theorem tidy_c {e : Ev} (h : e.k = 5 ∨ e.k = 6) : (tidyE e).c = e.c := by
  unfold tidyE
  rw [if_neg (by omega), if_neg (by omega), if_neg (by omega), if_pos h]
theorem tidy_may (e : Ev) : mayE (tidyE e) ↔ mayE e := by
  unfold mayE
  rw [rtidy_k]
  constructor
  · rintro ⟨a, b, c⟩
    exact ⟨a, b, fun h => by have := c h; rwa [tidy_c h] at this⟩
  · rintro ⟨a, b, c⟩
    exact ⟨a, b, fun h => by rw [tidy_c h]; exact c h⟩
theorem tidy_ok {e : Ev} (h : EvOk e) (ht : e.t.size ≤ 1000) : EvOk (tidyE e) ∧ (tidyE e).t.size ≤ 1000 := by
  obtain ⟨h1, h2, h3, h4⟩ := h
  unfold tidyE
  by_cases c1 : e.k = 1
  · rw [if_pos c1]
    exact ⟨⟨by constructor <;> simp, by simp, by constructor <;> simp, Nat.zero_le _⟩, Nat.zero_le _⟩
  rw [if_neg c1]
  by_cases c2 : e.k = 2
  · rw [if_pos c2]
    exact ⟨⟨by constructor <;> simp, h2, by constructor <;> simp, Nat.zero_le _⟩, Nat.zero_le _⟩
  rw [if_neg c2]
  by_cases c3 : e.k = 3 ∨ e.k = 4
  · rw [if_pos c3]
    exact ⟨⟨h1, by simp, by constructor <;> simp, h4⟩, ht⟩
  rw [if_neg c3]
  by_cases c5 : e.k = 5 ∨ e.k = 6
  · rw [if_pos c5]
    exact ⟨⟨h1, by simp, h3, Nat.zero_le _⟩, Nat.zero_le _⟩
  · rw [if_neg c5]
    exact ⟨⟨h1, by simp, by constructor <;> simp, Nat.zero_le _⟩, Nat.zero_le _⟩
set_option maxRecDepth 100000 in
set_option maxHeartbeats 1000000 in
/-- TIDY, of whatever part. -/
theorem tidy_ref (e : Ev) (w : World) : Calls Try.prog 14 #[evV e] w fun r w' => r = .returned (evV (tidyE e)) ∧ Below w.heap.size w w' := by
  obtain ⟨k, y, m, t, c⟩ := e
  by_cases hk : k = 0 ∨ k = 1 ∨ k = 2 ∨ k = 3 ∨ k = 4 ∨ k = 5 ∨ k = 6 ∨ k = 7
  · rcases hk with rfl | rfl | rfl | rfl | rfl | rfl | rfl | rfl
    all_goals simp only [evV]
    all_goals
      go_enter Try.func14, Try.ntmps14
      go_wp2
    all_goals simp [bodyPost, results, Try.results14, go_sem, tidyE]
    all_goals repeat (first | exact Below.refl _ _ | refine up_alloc ?_ _)
  · have n1 : (k == 1) = false := by rw [beq_eq_false_iff_ne]; omega
    have n2 : (k == 2) = false := by rw [beq_eq_false_iff_ne]; omega
    have n3 : (k == 3) = false := by rw [beq_eq_false_iff_ne]; omega
    have n4 : (k == 4) = false := by rw [beq_eq_false_iff_ne]; omega
    have n5 : (k == 5) = false := by rw [beq_eq_false_iff_ne]; omega
    have n6 : (k == 6) = false := by rw [beq_eq_false_iff_ne]; omega
    have ht : tidyE ⟨k, y, m, t, c⟩ = ⟨k, false, 0, ⟨#[]⟩, 0⟩ := by
      unfold tidyE
      simp only
      rw [if_neg (by omega), if_neg (by omega), if_neg (by omega), if_neg (by omega)]
    rw [ht]
    simp only [evV]
    clear hk ht
    go_enter Try.func14, Try.ntmps14
    go_wp2
    all_goals simp [bodyPost, results, Try.results14, go_sem]
    all_goals repeat (first | exact Below.refl _ _ | refine up_alloc ?_ _)

end Go.Proofs.Ytonjdnahplphhaa
/-
  NO PROGRAM NEEDED: '(at%n + n) % n' is a place; wraps that do nothing.
-/
namespace Go.Proofs.Ytonjdnahplphhaa
open Go.RowKit
open Go.Lib
theorem wrap64_of {x : Int} (h : -9223372036854775808 ≤ x ∧ x ≤ 9223372036854775807) : wrap64 x = x := by
  first | (rw [wrap64]; omega) | (unfold wrap64; omega) | (simp only [wrap64, IntKind.wrap_i64]; omega)
/-- '(at%n + n) % n' -/
theorem rem_place (a : Int) (n : Nat) (hn : 0 < n) (hm : n ≤ 1000000) : ∃ k : Nat, k < n ∧ ((wrap64 (a.tmod n + n)).tmod n) = (k : Int) := by
  have h1 := Int.tmod_lt_of_pos a (show (0 : Int) < n by omega)
  have h2 : -(n : Int) < a.tmod n := by
    have := Int.lt_tmod_of_pos a (show (0 : Int) < n by omega)
    exact this
  have hw : wrap64 (a.tmod n + n) = a.tmod n + n := wrap64_of (by omega)
  rw [hw]
  have h3 : 0 ≤ a.tmod n + n := by omega
  have h4 := Int.tmod_nonneg (n : Int) h3
  have h5 := Int.tmod_lt_of_pos (a.tmod n + n) (show (0 : Int) < n by omega)
  exact ⟨((a.tmod n + n).tmod n).toNat, by omega, by omega⟩
end Go.Proofs.Ytonjdnahplphhaa
