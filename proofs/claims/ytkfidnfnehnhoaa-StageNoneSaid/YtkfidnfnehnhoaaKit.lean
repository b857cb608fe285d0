/-
  GENERAL LEMMAS for the walks of byte slices, strings, copies, regions that draw, slices that came in. Nothing of one package's code.
-/
import Derived.Test.YtkfidnfnehnhoaaProg
import Derived.Test.YtkfidnfnehnhoaaWin
import Derived.WalkKit
import Derived.WalkSpells
import Derived.WalkLawsBesides
import Derived.Deep.QuietTactic
import Derived.BigQuiet
import Derived.Lib.Hide
import Derived.Lib.BufferWrite
import Derived.Lib.SlBuf
import Derived.Lib.SlBytesRow
import Derived.Laws.MakeOwn
import Derived.Laws.CopyOwn
import Derived.StillTailTactics
import Derived.Handy
import Derived.Deep.Light
import Derived.Deep.AppendLies
import Derived.Deep.RegionWith
import Derived.Outline
namespace Go.Proofs.Ytkfidnfnehnhoaa
open Go.RowKit
open Go.Lib
theorem run_make_rowN {P : Program} (t e : TypeId) (i : TypeInfo) (z : Value) (ht : P.underlying t = some (.slice e)) (hi : P.info? e = some i) (hz : i.zero = some z)
    (kl kc : IntKind) (n c : Nat) (hnc : n ≤ c) (hbytes : i.bytes * c ≤ 281474976710656) (h63 : c ≤ 9223372036854775807) (w : World) :
    (Instr.makeSlice t (.int kl (n : Int)) (.int kc (c : Int))).run P w = .ok (.slice (some ⟨w.heap.size, 0, none⟩) n c) (w.alloc (.cells (madeCells z.cells (c * i.size)) e)) := by
  have hb : (i.bytes : Int) * (c : Int) ≤ 281474976710656 := by
    have h : ((i.bytes * c : Nat) : Int) ≤ 281474976710656 := by omega
    rwa [Int.natCast_mul] at h
  have hr := run_make (P := P) w t e i z ht hi hz kl kc n c (by omega) (by omega) hb (by omega)
  simp only [Int.toNat_natCast] at hr
  exact hr
theorem info5 : (Try.prog.info? 5).map (fun i => (i.zero, i.size, i.bytes)) = some (some (.int .u8 0), 1, 1) := by kernel_rfl
theorem made_bytes (n : Nat) : madeCells (Value.cells (.int .u8 0)) (n * 1) = (Lib.byteCells (List.replicate n 0)).toArray := by
  apply Array.toList_inj.1
  simp [madeCells, Lib.byteCells]
  apply List.ext_getElem
  · simp
  · intro i h1 h2
    simp [Value.cells, Nat.mod_one]
open Go in
theorem wp_region_tail {P : Program} {id : Nat} {Q : Exit → Act → World → Prop} {a : Act} {w : World} {l : List Oper} (n : Nat) (hm : P.follows .mixedOrders = true) (hB : Region.lexTailB .any l.toArray n = true)
    (h : wpStill P l.toArray w.drew (fun a' => wpList P l.toArray Q (l.drop n) a' w.drew) (l.take n) a) : (Code.region id l.toArray true).wp P Q a w :=
  wp_region_still_tail n hm hB h
theorem run_slice_hi (W : World) (t e : TypeId) (ht : Try.prog.underlying t = some (.slice e)) (hz : ∀ w, (Go.sizeOf e).run Try.prog w = .ok 1 w) (b len cap h : Nat) (hh : h ≤ cap) :
    (Instr.slice t (.slice (some ⟨b, 0, none⟩) len cap) none (some (.int .i64 (h : Int))) none).run Try.prog W = .ok (.slice (some ⟨b, 0, none⟩) h cap) W := by
  go_simp
theorem size5 (w : World) : (Go.sizeOf 5).run Try.prog w = .ok 1 w := by kernel_rfl
theorem bytes_row {w : World} {g : Nat} {l : List UInt8} (hg : w.heap[g]? = some (.cells (Lib.byteCells l).toArray 5 (0, 0))) : Lib.Bytes w g 0 ⟨l.toArray⟩ := by
  intro i hi
  have hi' : i < l.length := by simpa [ByteArray.size] using hi
  simp only [World.cell?, hg]
  simp [Lib.byteCells, hi']
  rfl
set_option maxRecDepth 100000 in
theorem conv_row {w : World} {g : Nat} {l : List UInt8} (hg : w.heap[g]? = some (.cells (Lib.byteCells l).toArray 5 (0, 0))) (f a cap : Nat) (h : f + a ≤ l.length) :
    (convert 115 9 (.slice (some ⟨g, f, none⟩) a cap)).run Try.prog w = .ok (.string ⟨((l.drop f).take a).toArray⟩) w := by
  have := run_convert_window (P := Try.prog) w 115 5 9 Try.underlying115 Try.underlying5 Try.underlying9 g 0 ⟨l.toArray⟩ (bytes_row hg) f a cap (by simpa [ByteArray.size] using h)
  rw [Nat.zero_add] at this
  rw [this]
  congr 2
  apply ByteArray.ext
  apply Array.toList_inj.1
  rw [extract_data]
  simp
theorem ba_append (x y : List UInt8) : ((⟨x.toArray⟩ : ByteArray) ++ (⟨y.toArray⟩ : ByteArray)) = ⟨(x ++ y).toArray⟩ := by
  apply ByteArray.ext
  apply Array.toList_inj.1
  simp
/-- 'copy(dst, s)' from a string: as many bytes as the shorter of the two has, laid over the row from place o on. -/
theorem run_copy_str {P : Program} (w : World) (dT sT ty elem : TypeId) (g o dLen dCap : Nat) (s : ByteArray) (l : List UInt8) (t : TypeId)
    (hu : P.underlying dT = some (.slice elem)) (hs : (P.info? elem).map (·.size) = some 1) (hg : w.heap[g]? = some (.cells (Lib.byteCells l).toArray t (0, 0))) (hfit : o + min s.size dLen ≤ l.length) :
    (Builtin.copy_ #[dT, sT] ty #[.slice (some ⟨g, o, none⟩) dLen dCap, .string s]).run P w =
      .ok (goInt (min s.size dLen : Nat)) (w.setRow g (Lib.byteCells (splice l o (s.data.toList.take dLen))).toArray) := by
  have hlen : (Lib.byteCells (s.data.toList.take (min s.size dLen))).length = min s.size dLen := by rw [Lib.byteCells_length]; simp
  have htk : s.data.toList.take (min s.size dLen) = s.data.toList.take dLen := by
    rw [Nat.min_comm, ← List.take_take, List.take_of_length_le (i := s.size) (by simp)]
  have hst := run_storeCells_at P g o t (Lib.byteCells (s.data.toList.take (min s.size dLen))) 0 (Lib.byteCells l).toArray w hg (by rw [hlen]; simpa [Lib.byteCells_length] using hfit) (Lib.byteCells_one _)
  rw [hlen] at hst
  simp only [Nat.add_zero] at hst
  have hrow : (List.take o (Lib.byteCells l).toArray.toList ++ Lib.byteCells (s.data.toList.take (min s.size dLen)) ++ List.drop (o + min s.size dLen) (Lib.byteCells l).toArray.toList) = Lib.byteCells (splice l o (s.data.toList.take dLen)) := by
    rw [← htk]
    simp [splice, Lib.byteCells, List.map_drop]
  rw [hrow] at hst
  have e2 : List.take (min s.size dLen) (List.map (fun b : UInt8 => Value.int IntKind.u8 ↑b.toNat) s.data.toList) = Lib.byteCells (List.take (min s.size dLen) s.data.toList) := by
    simp [Lib.byteCells, List.map_take]
  have hmin : Nat.min s.size dLen = min s.size dLen := rfl
  cases hq : P.info? elem with
  | none => simp [hq] at hs
  | some i =>
    simp [Builtin.copy_, run_underlying hu, Builtin.lenOf, Builtin.firstCells, sizeOf, typeInfo, hq, hmin]
    rw [e2, hst]
    simp [Result.andThen]
/-- The world is as it was but for block g. -/
structure But (g : Nat) (w w' : World) : Prop where
  os : w'.os = w.os
  tape : w'.tape = w.tape
  output : w'.output = w.output
  size : w'.heap.size = w.heap.size
  block : ∀ k, k ≠ g → w'.heap[k]? = w.heap[k]?
theorem but_setRow (g : Nat) (w : World) (cs : Array Value) : But g w (w.setRow g cs) := ⟨rfl, rfl, rfl, by simp, fun k hk => setRow_other w g k cs hk⟩
theorem But.below {g B : Nat} {a w w' : World} (h : Below B a w) (hb : But g w w') (hg : B ≤ g) : Below B a w' :=
  h.trans ⟨hb.os, hb.tape, hb.output, by rw [hb.size]; exact Nat.le_refl _, fun k hk => hb.block k (by omega)⟩
theorem wpList_copy_str {P : Program} {w : World} {ops : Array Oper} {rest : List Oper} {o : Oper} {a : Act} {Q : Exit → Act → World → Prop} (hgd : o.guard = none) (d s : Operand) (dT sT : TypeId)
    (ho : o.op = .call { callee := .builtin .copy, args := #[d, s], argTypes := #[dT, sT] }) (elem : TypeId) (hu : P.underlying dT = some (.slice elem)) (hsz : (P.info? elem).map (·.size) = some 1)
    (g off dLen dCap : Nat) (x : ByteArray) (hd : a.eval d = .slice (some ⟨g, off, none⟩) dLen dCap) (hs : a.eval s = .string x)
    (l : List UInt8) (t : TypeId) (hg : w.heap[g]? = some (.cells (Lib.byteCells l).toArray t (0, 0))) (hfit : off + min x.size dLen ≤ l.length)
    (h : ∀ w', Hid (w'.heap[g]? = some (.cells (Lib.byteCells (splice l off (x.data.toList.take dLen))).toArray t (0, 0))) → Hid (But g w w') → wpList P ops Q rest (a.put o.dst (goInt (min x.size dLen : Nat))) w') :
    wpList P ops Q (o :: rest) a w :=
  Lib.wpList_copy_run w hgd d s dT sT ho _ _ hd hs (run_copy_str w dT sT o.type elem g off dLen dCap x l t hu hsz hg hfit)
    (h _ (setRow_heap w g _ _ t _ hg) (but_setRow _ _ _))
theorem size_one5 : (Try.prog.info? 5).map (·.size) = some 1 := by kernel_rfl
theorem run_slice_lo (W : World) (t e : TypeId) (ht : Try.prog.underlying t = some (.slice e)) (hz : ∀ w, (Go.sizeOf e).run Try.prog w = .ok 1 w) (b cap u : Nat) (hu : u < cap) :
    (Instr.slice t (.slice (some ⟨b, 0, none⟩) cap cap) (some (.int .i64 (u : Int))) none none).run Try.prog W = .ok (.slice (some ⟨b, u, none⟩) (cap - u) (cap - u)) W := by
  have ht' : Try.prog.underlying t = some (.slice (Try.prog.elem t)) := by simp [Program.elem, ht]
  have he : Try.prog.elem t = e := by simp [Program.elem, ht]
  rw [run_slice_l W t _ _ _ ht' .i64 _ (by omega) (by omega), he, hz]
  have hne : ¬ cap = u := by omega
  by_cases h0 : u = 0
  · subst h0
    simp [Result.andThen, sliced, Addr.add, hne]
  · simp [Result.andThen, sliced, Addr.add, hne, h0]
theorem slice_str_hi (x : ByteArray) (k : Nat) (hk : k ≤ x.size) (W : World) : (Instr.slice 9 (.string x) none (some (.int .i64 (k : Int))) none).run Try.prog W = .ok (.string (x.extract 0 k)) W := by
  rw [run_slice_string_h W 9 x Try.underlying9 .i64 _ (by omega) (by omega)]
  simp
theorem slice_str_lh (x : ByteArray) (a k : Nat) (ha : a ≤ k) (hk : k ≤ x.size) (W : World) : (Instr.slice 9 (.string x) (some (.int .i64 (a : Int))) (some (.int .i64 (k : Int))) none).run Try.prog W = .ok (.string (x.extract a k)) W := by
  rw [run_slice_string W 9 x .i64 .i64 _ _ Try.underlying9 (by omega) (by omega) (by omega)]
  simp

theorem but_cell {g : Nat} {w w' : World} (h : But g w w') {p : Addr} (hp : p.block ≠ g) : w'.cell? p = w.cell? p := World.cell?_of_block (w := w) (h.block p.block hp)
theorem but_frozen {g : Nat} {w w' : World} (h : But g w w') {p : Addr} (hp : p.block ≠ g) : w'.frozen? p = w.frozen? p := World.frozen?_of_block (w := w) (h.block p.block hp)
theorem ext_list (x : ByteArray) (a k : Nat) : (x.extract a k).data.toList = (x.data.toList.take k).drop a := by
  rw [extract_data, List.drop_take]
theorem drews3 (w : World) (q nq : Nat) : ((w.drewN q).drewN nq).drew = w.drewN (q + nq + 1) := by
  simp only [World.drewN, World.drew, Nat.add_assoc]
theorem below_drewN {B : Nat} {a w : World} (h : Below B a w) (n : Nat) : Below B a (w.drewN n) := ⟨h.os, h.tape, h.output, h.size, h.block⟩
/-- Only blocks from B to L may have turned. -/
structure Keep (B L : Nat) (w w' : World) : Prop where
  below : Below B w w'
  above : ∀ k, L ≤ k → w'.heap[k]? = w.heap[k]?
theorem Keep.refl (B L : Nat) (w : World) : Keep B L w w := ⟨Below.refl _ _, fun _ _ => rfl⟩
theorem Keep.trans {B L : Nat} {a b c : World} (h : Keep B L a b) (k : Keep B L b c) : Keep B L a c := ⟨h.below.trans k.below, fun i hi => (k.above i hi).trans (h.above i hi)⟩
theorem Keep.drewN {B L : Nat} {a w : World} (h : Keep B L a w) (n : Nat) : Keep B L a (w.drewN n) := ⟨⟨h.below.os, h.below.tape, h.below.output, h.below.size, h.below.block⟩, h.above⟩
theorem Keep.cell {B L : Nat} {w w' : World} (h : Keep B L w w') {p : Addr} (hp : L ≤ p.block) : w'.cell? p = w.cell? p := World.cell?_of_block (w := w) (h.above p.block hp)
theorem Keep.frozen {B L : Nat} {w w' : World} (h : Keep B L w w') {p : Addr} (hp : L ≤ p.block) : w'.frozen? p = w.frozen? p := World.frozen?_of_block (w := w) (h.above p.block hp)
/-- 'make([]byte, m)', then 'string(..)' of it. -/
theorem make_zero (m : Nat) (hm : m ≤ 100000) (v : Int) (hv : v = m) : ∀ W : World, (Instr.makeSlice 115 (.int .i64 v) (.int .i64 v)).run Try.prog W = .ok (.slice (some ⟨W.heap.size, 0, none⟩) m m) (W.alloc (.cells (Lib.byteCells (List.replicate m 0)).toArray 5)) := by
  subst hv
  obtain ⟨i0, hi, hz0, hz1, hz2⟩ := info_parts info5
  intro W
  have := run_make_rowN (P := Try.prog) 115 5 i0 (.int .u8 0) Try.underlying115 hi hz0 .i64 .i64 m m (Nat.le_refl _) (by rw [hz2]; omega) (by omega) W
  rw [hz1, made_bytes] at this
  exact this
theorem conv_zero (m : Nat) : ∃ s : ByteArray, s.size = m ∧ ∀ (W : World) (q : Nat), (convert 115 9 (.slice (some ⟨W.heap.size, 0, none⟩) m m)).run Try.prog ((W.drewN q).alloc (.cells (Lib.byteCells (List.replicate m 0)).toArray 5)) = .ok (.string s) ((W.drewN q).alloc (.cells (Lib.byteCells (List.replicate m 0)).toArray 5)) := by
  refine ⟨⟨((((List.replicate m (0 : UInt8)).drop 0).take m)).toArray⟩, by simp [ByteArray.size], fun W q => ?_⟩
  exact conv_row (l := List.replicate m 0) (by
    show (W.heap.push _)[_]? = _
    rw [Array.getElem?_push, if_pos rfl]) 0 m m (by simp)
theorem list_bytes (x : ByteArray) : (⟨x.data.toList.toArray⟩ : ByteArray) = x := by
  apply ByteArray.ext
  simp
theorem mod_two {a n : Nat} (h : a < 2 * n) : a % n = if a < n then a else a - n := by
  split
  · exact Nat.mod_eq_of_lt ‹_›
  · rw [Nat.mod_eq_sub_mod (by omega), Nat.mod_eq_of_lt (by omega)]
theorem mod_parts {a n : Nat} (h : a < 2 * n) : ∃ p, a % n = p ∧ (a < n ∧ p = a ∨ n ≤ a ∧ p = a - n) := by
  rw [mod_two h]
  by_cases h : a < n
  · exact ⟨a, if_pos h, Or.inl ⟨h, rfl⟩⟩
  · exact ⟨a - n, if_neg h, Or.inr ⟨by omega, rfl⟩⟩
theorem splice_get (L : List UInt8) (off : Nat) (cs : List UInt8) (h : off + cs.length ≤ L.length) (j : Nat) :
    (splice L off cs)[j]? = if j < off then L[j]? else if j < off + cs.length then cs[j - off]? else L[j]? := by
  unfold splice
  have h1 : (L.take off).length = off := by simp; omega
  by_cases a : j < off
  · rw [if_pos a, List.getElem?_append_left (by omega), List.getElem?_take_of_lt a]
  · rw [if_neg a, List.getElem?_append_right (by omega), h1]
    by_cases b : j < off + cs.length
    · rw [if_pos b, List.getElem?_append_left (by omega)]
    · rw [if_neg b, List.getElem?_append_right (by omega), List.getElem?_drop]
      congr 1
      omega
theorem block_of_add (a : Addr) (n : Nat) : (a.add n).block = a.block := by unfold Addr.add; split <;> rfl
theorem add_of_add (a : Addr) (i j : Nat) : (a.add i).add j = a.add (i + j) := by
  unfold Addr.add
  by_cases hi : i = 0 <;> by_cases hj : j = 0 <;> simp [hi, hj, Nat.add_assoc]

def Reads (w : World) (B size : Nat) (A : Option Addr) (n : Nat) (xs : List Value) : Prop :=
  xs.length = n * size ∧ (0 < n → ∃ ad, A = some ad ∧ ad.block < B ∧ ∀ j u, xs[j]? = some u → w.cell? (ad.add j) = some u)

section
variable {w w' : World} {B B' size n : Nat} {A : Option Addr} {xs : List Value}
theorem Reads.none_ : Reads w B size A 0 [] := ⟨by simp, fun h => absurd h (by omega)⟩
theorem Reads.at_ {k : Nat} (h : Reads w B 1 A n xs) (hk : k < n) : ∃ ad u, A = some ad ∧ ad.block < B ∧ xs[k]? = some u ∧ w.cell? (ad.add k) = some u := by
  obtain ⟨ad, e, hb, hc⟩ := h.2 (by omega)
  have hl : k < xs.length := by have := h.1; omega
  exact ⟨ad, xs[k], e, hb, List.getElem?_eq_getElem hl, hc k _ (List.getElem?_eq_getElem hl)⟩
theorem Reads.keep (h : Reads w B size A n xs) (hk : ∀ p : Addr, p.block < B → w'.cell? p = w.cell? p) : Reads w' B size A n xs :=
  ⟨h.1, fun hn => by
    obtain ⟨ad, e, hb, hc⟩ := h.2 hn
    exact ⟨ad, e, hb, fun j u hu => (hk _ (by rw [block_of_add]; exact hb)).trans (hc j u hu)⟩⟩
theorem Reads.more (h : Reads w B size A n xs) (hB : B ≤ B') : Reads w B' size A n xs :=
  ⟨h.1, fun hn => by
    obtain ⟨ad, e, hb, hc⟩ := h.2 hn
    exact ⟨ad, e, by omega, hc⟩⟩
theorem Reads.below (h : Reads w B size A n xs) (hb : Below B w w') : Reads w' B size A n xs := h.keep fun _ hp => hb.cell hp
theorem Reads.drew (h : Reads w B size A n xs) : Reads w.drew B size A n xs := h
theorem Reads.drewN (h : Reads w B size A n xs) (k : Nat) : Reads (w.drewN k) B size A n xs := h
theorem Reads.alloc (h : Reads w B size A n xs) (hB : B ≤ w.heap.size) (o : Obj) : Reads (w.alloc o) B size A n xs := h.keep fun p hp => World.cell?_alloc_lt w o p (by omega)
theorem Reads.setCell (h : Reads w B size A n xs) {p : Addr} (hB : B ≤ p.block) (u : Value) : Reads (w.setCell p u) B size A n xs :=
  h.keep fun q hq => World.cell?_setCell_other w p q u (fun e => by subst e; omega)
theorem Reads.grown (h : Reads w B size A n xs) {row : Option Nat} (hg : w.grownBy w' row) (hB : B ≤ w.heap.size) (hr : ∀ g, row = some g → B ≤ g) : Reads w' B size A n xs :=
  h.keep fun p hp => World.cell?_of_block (hg.block p.block (by omega) (fun e => by have := hr _ e.symm; omega))
theorem Reads.cut (h : Reads w B size A n xs) {k cap : Nat} (hk : k ≤ n) (hc : n ≤ cap) :
    Reads w B size (if cap = k then A else A.map (·.add (k * size))) (n - k) (xs.drop (k * size)) := by
  refine ⟨by rw [List.length_drop, h.1, Nat.sub_mul], fun hn => ?_⟩
  obtain ⟨ad, rfl, hb, hcell⟩ := h.2 (by omega)
  rw [if_neg (by omega)]
  refine ⟨ad.add (k * size), rfl, by rw [block_of_add]; exact hb, fun j u hu => ?_⟩
  rw [add_of_add]
  exact hcell _ u (by rw [← hu, List.getElem?_drop])
theorem Reads.of_own {base : Nat} {e : TypeId} {c : Nat} (h : w.ownsRow base e size (.slice A n c) n xs) : Reads w w.heap.size size A n xs := by
  refine ⟨h.1, fun hn => ?_⟩
  obtain ⟨g, cap, hv, _, hlt⟩ := h.form hn
  have hA : A = some ⟨g, 0, none⟩ := by injection hv
  subst hA
  exact ⟨_, rfl, hlt, h.cells (g := g) rfl⟩
end
theorem size_nil {l : ByteArray} (h : l.toList = []) : l.size = 0 := by
  rw [ByteArray.toList_eq] at h
  have := congrArg List.length h
  rw [Array.length_toList] at this
  exact this
theorem toList_nil {l : ByteArray} (h : l.size = 0) : l.toList = [] := by
  rw [ByteArray.toList_eq]
  exact List.eq_nil_of_length_eq_zero (by rw [Array.length_toList]; exact h)
theorem and_low (n : Int) (m : Nat) (hm : m = 15 ∨ m = 7) : ∃ a : Nat, a ≤ m ∧ bits .and .i64 n (m : Int) = (a : Int) := by
  rcases hm with rfl | rfl
  · refine ⟨(n % 16).toNat, by omega, ?_⟩
    have h127 : (BitVec.ofInt 64 15).toNat = 2 ^ 4 - 1 := by decide
    have key : (BitVec.ofInt 64 n &&& BitVec.ofInt 64 15).toNat = (n % ((2 ^ 64 : Nat) : Int)).toNat % 2 ^ 4 := by
      rw [BitVec.toNat_and, BitVec.toNat_ofInt, h127, Nat.and_two_pow_sub_one_eq_mod]
    show IntKind.i64.wrap ((BitVec.ofInt 64 n &&& BitVec.ofInt 64 15).toNat : Nat) = _
    rw [key, IntKind.wrap_i64]
    omega
  · refine ⟨(n % 8).toNat, by omega, ?_⟩
    have h127 : (BitVec.ofInt 64 7).toNat = 2 ^ 3 - 1 := by decide
    have key : (BitVec.ofInt 64 n &&& BitVec.ofInt 64 7).toNat = (n % ((2 ^ 64 : Nat) : Int)).toNat % 2 ^ 3 := by
      rw [BitVec.toNat_and, BitVec.toNat_ofInt, h127, Nat.and_two_pow_sub_one_eq_mod]
    show IntKind.i64.wrap ((BitVec.ofInt 64 n &&& BitVec.ofInt 64 7).toNat : Nat) = _
    rw [key, IntKind.wrap_i64]
    omega
/-- Element k % n of a slice of ints, as the walk wants it. -/
theorem at_mod {w wr : World} {B n k : Nat} {A : Option Addr} {zs : List Int} (h : Reads w B 1 A n (zs.map (Value.int .i64))) (hw : Below B w wr) (hn : 0 < n) :
    ∃ ad q j, A = some ad ∧ j < n ∧ wr.cell? (ad.add j) = some (.int .i64 q) ∧ (k : Int) % (n : Int) = ((j : Nat) : Int) := by
  obtain ⟨ad, z, hA, hb1, hz, hcell⟩ := h.at_ (k := k % n) (Nat.mod_lt _ hn)
  have hcell' : wr.cell? (ad.add (k % n)) = some z := (hw.cell (by rw [block_of_add]; exact hb1)).trans hcell
  rw [List.getElem?_map] at hz
  cases hy : zs[k % n]? with
  | none => simp [hy] at hz
  | some q =>
    simp [hy] at hz
    subst hz
    exact ⟨ad, q, k % n, hA, Nat.mod_lt _ hn, hcell', rfl⟩
theorem size_list (x : ByteArray) : x.data.toList.length = x.size := by simp
set_option maxRecDepth 100000 in
theorem conv_win {w : World} {v : Value} {n : Nat} {bs : List UInt8} (h : Win w 5 1 v n (bCells bs)) : (convert 115 9 v).run Try.prog w = .ok (.string ⟨bs.toArray⟩) w := by
  rcases h.2 with ⟨rfl, rfl⟩ | ⟨g, off, cap, cur, rfl, hg, hnc, hs, hm, hx⟩
  · have : bs = [] := by
      have := h.1
      simp [bCells] at this
      exact this
    subst this
    have ht : (Try.prog.underlying 115, Try.prog.underlying 5, Try.prog.underlying 9) = (some (.slice 5), some (.int .u8), some .string) := by kernel_rfl
    simp only [Prod.mk.injEq] at ht
    simp [convert, run_underlying ht.1, run_underlying ht.2.1, run_underlying ht.2.2, Conv.bytesToString]
    rfl
  · have hl : bs.length = n := by have := h.1; simpa [bCells] using this
    have hby : Lib.Bytes w g off ⟨bs.toArray⟩ := by
      intro i hi
      have hi' : i < bs.length := by simpa [ByteArray.size] using hi
      have hu : (bCells bs)[i]? = some (.int .u8 bs[i].toNat) := by simp [bCells, hi']
      rw [← hx, List.getElem?_take_of_lt (by omega), List.getElem?_drop] at hu
      simp only [World.cell?, hg]
      have hb : (⟨bs.toArray⟩ : ByteArray)[i] = bs[i] := rfl
      rw [hb]
      simpa using hu
    have := run_convert_window (P := Try.prog) w 115 5 9 Try.underlying115 Try.underlying5 Try.underlying9 g off ⟨bs.toArray⟩ hby 0 n cap (by simp [ByteArray.size]; omega)
    rw [Nat.add_zero] at this
    rw [this]
    congr 2
    apply ByteArray.ext
    apply Array.toList_inj.1
    rw [extract_data]
    show List.take _ bs = bs
    exact List.take_of_length_le (by omega)
/-- Element k of a slice of ints that came in. -/
theorem at_k {w wr : World} {B n k : Nat} {A : Option Addr} {zs : List Int} (h : Reads w B 1 A n (zs.map (Value.int .i64))) (hw : Below B w wr) (hn : k < n) :
    ∃ ad q, A = some ad ∧ wr.cell? (ad.add k) = some (.int .i64 q) := by
  obtain ⟨ad, z, hA, hb1, hz, hcell⟩ := h.at_ (k := k) hn
  have hcell' : wr.cell? (ad.add k) = some z := (hw.cell (by rw [block_of_add]; exact hb1)).trans hcell
  rw [List.getElem?_map] at hz
  cases hy : zs[k]? with
  | none => simp [hy] at hz
  | some q =>
    simp [hy] at hz
    subst hz
    exact ⟨ad, q, hA, hcell'⟩
theorem bits_range (n m : Int) (k : Nat) (hk : k < 2 ^ 63) (hm : m = k) : ∃ a : Nat, a ≤ k ∧ bits .and .i64 n m = (a : Int) := by
  subst hm
  have e1 : (BitVec.ofInt 64 (k : Int)).toNat = k := by rw [BitVec.toNat_ofInt]; omega
  refine ⟨(BitVec.ofInt 64 n &&& BitVec.ofInt 64 k).toNat, ?_, ?_⟩
  · rw [BitVec.toNat_and, e1]
    exact Nat.and_le_right
  · show IntKind.i64.wrap ((BitVec.ofInt 64 n &&& BitVec.ofInt 64 k).toNat : Nat) = _
    have : (BitVec.ofInt 64 n &&& BitVec.ofInt 64 k).toNat ≤ k := by
      rw [BitVec.toNat_and, e1]
      exact Nat.and_le_right
    rw [IntKind.wrap_i64]
    omega
theorem slice_str_lo (x : ByteArray) (a : Nat) (ha : a ≤ x.size) (W : World) : (Instr.slice 9 (.string x) (some (.int .i64 (a : Int))) none none).run Try.prog W = .ok (.string (x.extract a x.size)) W := by
  rw [run_slice_string_l W 9 x Try.underlying9 .i64 _ (by omega) (by omega)]
  simp
theorem size_of (l : List UInt8) : (⟨l.toArray⟩ : ByteArray).size = l.length := by simp [ByteArray.size]
theorem cat_of (l k : List UInt8) : (⟨l.toArray⟩ : ByteArray) ++ ⟨k.toArray⟩ = ⟨(l ++ k).toArray⟩ := by
  apply ByteArray.ext
  simp
theorem conv_new (W : World) (l : List UInt8) (cs : Array Value) (k : Nat) (hk : l.length = k) (hc : cs = (Lib.byteCells l).toArray) (x : ByteArray) (hx : x = ⟨l.toArray⟩) :
    (convert 115 9 (.slice (some ⟨W.heap.size, 0, none⟩) k k)).run Try.prog (W.alloc (.cells cs 5)) = .ok (.string x) (W.alloc (.cells cs 5)) := by
  subst hc hk hx
  have := conv_row (w := W.alloc (.cells (Lib.byteCells l).toArray 5)) (g := W.heap.size) (l := l) (heap_alloc_new W _) 0 l.length l.length (by omega)
  rw [this]
  simp
theorem wrap_u64_of (n : Int) (h0 : 0 ≤ n) (h1 : n < 18446744073709551616) : IntKind.u64.wrap n = n := by
  simp [IntKind.wrap, IntKind.bits, IntKind.signed]
  omega
theorem wrap_u8_of (n : Int) (h0 : 0 ≤ n) (h1 : n < 256) : IntKind.u8.wrap n = n := by
  simp [IntKind.wrap, IntKind.bits, IntKind.signed]
  omega
theorem wrap32 (n : Int) (h : 0 ≤ n) (h1 : n ≤ 1114111) : IntKind.i32.wrap n = n := by rw [IntKind.wrap_i32]; omega
end Go.Proofs.Ytkfidnfnehnhoaa
