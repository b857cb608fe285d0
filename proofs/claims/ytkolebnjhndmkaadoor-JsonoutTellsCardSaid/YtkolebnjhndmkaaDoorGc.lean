/-
  CONTRACTS of package event and of the book's lists of parts; the document's own stack.
-/
import Derived.Test.YtkolebnjhndmkaaDoorGa
import Derived.Below
import Derived.RowKit
import Derived.Test.YtkolebnjhndmkaaDoorProg
import Derived.WalkKit
import Derived.WalkLawsBesides
import Derived.WalkSpells
import Derived.Laws.StructEq
import Derived.Lib.Hide
import Derived.Deep.RegionWith
import Derived.Deep.QuietTactic
import Derived.BigQuiet
import Derived.Handy
import Derived.Deep.DeepCutAuto
import Derived.Deep.RegionLaw
import Derived.Defers
import Derived.Recover
/-
  A SLICE OF api.Ev: its elements as parts of EvPure. (What comes in is opened by XEvs.lean.part, in the rows.)
-/
namespace Go.Proofs.YtkolebnjhndmkaaDoor
open Go.RowKit
open Go.Lib
/-- The five cells of a part. -/
def evCells (e : Ev) : List Value := [.int .i64 e.k, .bool e.y, .int .u64 e.m, .string e.t, .int .i64 e.c]
/-- What a part's numbers may be. -/
def EvOk (e : Ev) : Prop := (-9223372036854775808 ≤ e.k ∧ e.k ≤ 9223372036854775807) ∧ e.m < 18446744073709551616 ∧ (-9223372036854775808 ≤ e.c ∧ e.c ≤ 9223372036854775807) ∧ e.t.size ≤ 9223372036854775807
/-- The elements of a slice that came in. -/
def EvsAt (w : World) (B : Nat) (A : Option Addr) (n : Nat) (E : Nat → Ev) : Prop :=
  0 < n → ∃ b off, A = some ⟨b, off, none⟩ ∧ b < B ∧ ∀ i, i < n → ∀ j u, (evCells (E i))[j]? = some u → w.cell? ⟨b, off + i * 5 + j, none⟩ = some u
theorem EvsAt.keep {w w' : World} {B n : Nat} {A : Option Addr} {E : Nat → Ev} (h : EvsAt w B A n E) (hk : ∀ p : Addr, p.block < B → w'.cell? p = w.cell? p) : EvsAt w' B A n E := fun hn => by
  obtain ⟨b, off, hA, hb, hc⟩ := h hn
  exact ⟨b, off, hA, hb, fun i hi j u hu => (hk _ hb).trans (hc i hi j u hu)⟩
theorem EvsAt.below {w w' : World} {B n : Nat} {A : Option Addr} {E : Nat → Ev} (h : EvsAt w B A n E) (hb : Below B w w') : EvsAt w' B A n E := h.keep fun _ hp => hb.cell hp
end Go.Proofs.YtkolebnjhndmkaaDoor
/-
  GENERAL (of the program the type api.Ev alone): a part as a plain one; a block and all that it holds; frames by steps.
-/
namespace Go.Proofs.YtkolebnjhndmkaaDoor
open Go.RowKit
open Go.Lib
/-- A part, as a plain one. -/
def evV (e : Ev) : Value := .agg #[.int .i64 e.k, .bool e.y, .int .u64 e.m, .string e.t, .int .i64 e.c]
/-- The cells of a plain part's block. -/
theorem Blk.ev {w : World} {b : Nat} {k : Int} {y : Bool} {m : Int} {t : ByteArray} {c : Int} {T : TypeId} (h : Blk w b #[.int .i64 k, .bool y, .int .u64 m, .string t, .int .i64 c] T) :
    (w.cell? ⟨b, 0, none⟩ = some (.int .i64 k) ∧ w.cell? ⟨b, 1, none⟩ = some (.bool y) ∧ w.cell? ⟨b, 2, none⟩ = some (.int .u64 m) ∧ w.cell? ⟨b, 3, none⟩ = some (.string t) ∧ w.cell? ⟨b, 4, none⟩ = some (.int .i64 c)) ∧
    (w.frozen? ⟨b, 0, none⟩ = false ∧ w.frozen? ⟨b, 1, none⟩ = false ∧ w.frozen? ⟨b, 2, none⟩ = false ∧ w.frozen? ⟨b, 3, none⟩ = false ∧ w.frozen? ⟨b, 4, none⟩ = false) :=
  ⟨⟨h.cell 0, h.cell 1, h.cell 2, h.cell 3, h.cell 4⟩, ⟨h.froz 0, h.froz 1, h.froz 2, h.froz 3, h.froz 4⟩⟩
/-- What a plain part's call makes of a value that is none. -/
def evZ : Ev := ⟨0, false, 0, ⟨#[]⟩, 0⟩
end Go.Proofs.YtkolebnjhndmkaaDoor
/-
  NO PROGRAM NEEDED: boxes (open containers) as cells.
-/
namespace Go.Proofs.YtkolebnjhndmkaaDoor
open Go.RowKit
open Go.Lib
/-- An open container's cells. -/
def bxL (b : Bx) : List Value := [.bool b.map, .int .i64 b.c, .int .i64 (b.have_ : Int)]
def bxsL : List Bx → List Value
  | [] => []
  | b :: r => bxsL r ++ bxL b
theorem bxsL_length : ∀ s : List Bx, (bxsL s).length = s.length * 3
  | [] => rfl
  | b :: r => by rw [bxsL, List.length_append, bxsL_length r]; simp [bxL]; omega
theorem bxsL_one : ∀ (s : List Bx) (u : Value), u ∈ bxsL s → u.oneCell' = true
  | [], u, h => by simp [bxsL] at h
  | b :: r, u, h => by
    rw [bxsL, List.mem_append] at h
    rcases h with h | h
    · exact bxsL_one r u h
    · simp [bxL] at h
      rcases h with rfl | rfl | rfl <;> rfl
end Go.Proofs.YtkolebnjhndmkaaDoor
/-
  GENERAL (of the program the types api.Ev, []api.Ev alone): lists of parts in memory: what came in, what a call makes and grows.
-/
namespace Go.Proofs.YtkolebnjhndmkaaDoor
open Go.RowKit
open Go.Lib
/-- The parts ahead of a place. -/
def pre (E : Nat → Ev) (j : Nat) : List Ev := (List.range j).map E
theorem pre_succ (E : Nat → Ev) (j : Nat) : pre E (j + 1) = pre E j ++ [E j] := by simp [pre, List.range_succ]
theorem pre_split (E : Nat → Ev) (j k : Nat) : ∃ r, pre E (j + k) = pre E j ++ r := by
  induction k with
  | zero => exact ⟨[], by simp⟩
  | succ k ih =>
    obtain ⟨r, hr⟩ := ih
    exact ⟨r ++ [E (j + k)], by rw [← Nat.add_assoc, pre_succ, hr, List.append_assoc]⟩
theorem wrap_succ {j : Nat} (h : j ≤ 1000000) : RowKit.wrap64 ((j : Int) + 1) = (j : Int) + 1 := by
  unfold RowKit.wrap64
  omega
theorem EvsAt.cells {w : World} {B n : Nat} {A : Option Addr} {E : Nat → Ev} (h : EvsAt w B A n E) {i : Nat} (hi : i < n) : ∃ b off, A = some ⟨b, off, none⟩ ∧ b < B ∧
    w.cell? ⟨b, off + i * 5, none⟩ = some (.int .i64 (E i).k) ∧ w.cell? ⟨b, off + i * 5 + 1, none⟩ = some (.bool (E i).y) ∧ w.cell? ⟨b, off + i * 5 + 2, none⟩ = some (.int .u64 (E i).m) ∧
    w.cell? ⟨b, off + i * 5 + 3, none⟩ = some (.string (E i).t) ∧ w.cell? ⟨b, off + i * 5 + 4, none⟩ = some (.int .i64 (E i).c) := by
  obtain ⟨b, off, rfl, hb, hc⟩ := h (by omega)
  exact ⟨b, off, rfl, hb, hc i hi 0 _ rfl, hc i hi 1 _ rfl, hc i hi 2 _ rfl, hc i hi 3 _ rfl, hc i hi 4 _ rfl⟩
def evsC : List Ev → List Value
  | [] => []
  | e :: r => evCells e ++ evsC r
theorem evsC_append (L K : List Ev) : evsC (L ++ K) = evsC L ++ evsC K := by
  induction L with
  | nil => rfl
  | cons e L ih => simp only [List.cons_append, evsC, ih, List.append_assoc]
theorem evsC_length (L : List Ev) : (evsC L).length = L.length * 5 := by
  induction L with
  | nil => rfl
  | cons e L ih =>
    rw [evsC, List.length_append, ih]
    simp [evCells]
    omega
theorem evsC_one (L : List Ev) : ∀ u ∈ evsC L, u.oneCell' = true := by
  induction L with
  | nil => intro u h; simp [evsC] at h
  | cons e L ih =>
    intro u h
    rw [evsC, List.mem_append] at h
    rcases h with h | h
    · simp [evCells] at h
      rcases h with rfl | rfl | rfl | rfl | rfl <;> rfl
    · exact ih u h
def getE (L : List Ev) (i : Nat) : Ev := L[i]?.getD evZ
theorem pre_getE (L : List Ev) : pre (getE L) L.length = L := by
  apply List.ext_getElem
  · simp [pre]
  · intro i h1 h2
    simp [pre, getE, h2]
theorem evsC_get (L : List Ev) : ∀ (i j : Nat), i < L.length → j < 5 → (evsC L)[i * 5 + j]? = (evCells (getE L i))[j]? := by
  induction L with
  | nil => intro i j h; simp at h
  | cons e L ih =>
    intro i j hi hj
    rw [evsC]
    cases i with
    | zero =>
      rw [List.getElem?_append_left (by simp [evCells]; omega)]
      simp [getE]
    | succ i =>
      rw [List.getElem?_append_right (by simp [evCells]; omega)]
      have h1 : (i + 1) * 5 + j - (evCells e).length = i * 5 + j := by simp [evCells]; omega
      rw [h1, ih i j (by simpa using hi) hj]
      simp [getE]
theorem pre_length (E : Nat → Ev) (n : Nat) : (pre E n).length = n := by simp [pre]
theorem getE_pre (E : Nat → Ev) (n i : Nat) (h : i < n) : getE (pre E n) i = E i := by simp [getE, pre, h]
/-- What came in is a source for append. -/
theorem EvsAt.src {P : Program} {w : World} {B n c : Nat} {A : Option Addr} {E : Nat → Ev} (h : EvsAt w B A n E) {tx e' : TypeId} (hk : P.underlying tx = some (.slice e')) (hA : n = 0 → A = none) : Src P 5 tx (.slice A n c) n (evsC (pre E n)) w := by
  by_cases h0 : n = 0
  · subst h0
    rw [hA rfl]
    exact Src.ofNil w hk c
  · obtain ⟨b, off, rfl, hb, hc⟩ := h (by omega)
    refine Src.ofSlice w hk _ n c _ (by rw [evsC_length, pre_length]) (fun j u hu => ?_) (evsC_one _)
    have hj : j < n * 5 := by have := (List.getElem?_eq_some_iff.1 hu).1; rwa [evsC_length, pre_length] at this
    have h1 : j = j / 5 * 5 + j % 5 := by omega
    have h2 : j / 5 < n := by omega
    rw [h1, evsC_get _ _ _ (by rw [pre_length]; exact h2) (by omega), getE_pre E n _ h2] at hu
    rw [add_flat]
    have := hc (j / 5) h2 (j % 5) u hu
    rwa [Nat.add_assoc, ← h1] at this
/-- A list of parts that a call made. -/
theorem evs_win {w : World} {a : Option Addr} {n m cap : Nat} {T : TypeId} {L : List Ev} (h : Win w T 5 (.slice a m cap) m (evsC L)) (hn : n ≤ L.length) : EvsAt w w.heap.size a n (getE L) := fun h0 => by
  have hm : 0 < m := by
    have h1 := h.1
    rw [evsC_length] at h1
    omega
  obtain ⟨g, off, cap', hv, _, _, hg, _, hc⟩ := h.form hm
  cases hv
  refine ⟨g, off, rfl, hg, fun i hi j u hu => ?_⟩
  have hj : j < 5 := (List.getElem?_eq_some_iff.1 hu).1
  have := (hc (i * 5 + j) u (by rw [evsC_get L i j (by omega) hj]; exact hu)).1
  rwa [← Nat.add_assoc] at this
theorem pre_ext {E F : Nat → Ev} {n : Nat} (h : ∀ i, i < n → E i = F i) : pre E n = pre F n := by
  unfold pre
  exact List.map_congr_left fun i hi => h i (List.mem_range.1 hi)
theorem ok_getE {L : List Ev} (h : ∀ e ∈ L, EvOk e) (i : Nat) (hi : i < L.length) : EvOk (getE L i) := by
  have : getE L i ∈ L := by
    simp only [getE, List.getElem?_eq_getElem hi, Option.getD_some]
    exact List.getElem_mem hi
  exact h _ this
theorem ok_small (k : Int) (y : Bool) (m : Nat) (t : ByteArray) (c : Int) (hk : -100 ≤ k ∧ k ≤ 100) (hm : m ≤ 100) (ht : t.size ≤ 100) (hc : -100 ≤ c ∧ c ≤ 100) : EvOk ⟨k, y, m, t, c⟩ :=
  ⟨⟨by show _ ≤ k; omega, by show k ≤ _; omega⟩, by show m < _; omega, ⟨by show _ ≤ c; omega, by show c ≤ _; omega⟩, by show t.size ≤ _; omega⟩
theorem win_list (w : World) (L : List Ev) (T : TypeId) (m : Nat) (hm : L.length = m) (h0 : m ≤ 900) : Win (w.alloc (.cells (evsC L).toArray T)) T 5 (.slice (some ⟨w.heap.size, 0, none⟩) m m) m (evsC L) := by
  have hl := evsC_length L
  rw [hm] at hl
  exact ⟨hl, .inr ⟨w.heap.size, 0, m, _, rfl, heap_alloc_new w _, Nat.le_refl _, by simp [hl], by unfold maxLen; omega, by simp [← hl]⟩⟩
/-- What came in is a source for append. -/
theorem EvsAt.from {P : Program} {w : World} {B n c : Nat} {A : Option Addr} {E : Nat → Ev} (h : EvsAt w B A n E) {tx e' : TypeId} (hk : P.underlying tx = some (.slice e')) : Src P 5 tx (.slice A n c) n (evsC (pre E n)) w := by
  by_cases h0 : n = 0
  · subst h0
    cases A with
    | none => exact Src.ofNil w hk c
    | some a => exact Src.ofSlice w hk a 0 c _ (by simp [pre, evsC]) (fun j u hu => by simp [pre, evsC] at hu) (evsC_one _)
  · exact h.src hk (fun h1 => absurd h1 h0)
theorem info_ev : (Tryd.prog.info? 34).map (fun i => (i.zero, i.size, i.bytes)) = some (some (.agg #[.int .i64 0, .bool false, .int .u64 0, .string ⟨#[]⟩, .int .i64 0]), 5, 48) := by kernel_rfl
/-- A list that a call made, of blocks that were not there. -/
def Made (w0 w : World) (v : Value) (n : Nat) (L : List Ev) : Prop := Below w0.heap.size w0 w ∧ Win w 34 5 v n (evsC L) ∧ ∀ k ∈ Value.owner v, w0.heap.size ≤ k
theorem Made.go {w0 w w' : World} {v : Value} {n : Nat} {L : List Ev} (h : Made w0 w v n L) (k : Below w.heap.size w w') : Made w0 w' v n L :=
  ⟨up_trans h.1 k, h.2.1.keep fun g hg => k.block g (h.2.1.lt g hg), h.2.2⟩
/-- More of them. -/
theorem made_more {w0 wA w w2 : World} {v v' : Value} {n m : Nat} {L K : List Ev} (h : Made w0 wA v n L) (hA : Below wA.heap.size wA w) (hW : Win w2 34 5 v' (n + m) (evsC L ++ evsC K)) (hG : w.grownBy w2 v.ownBlock)
    (hO : v'.ownBlock = v.ownBlock ∨ v'.ownBlock = some w.heap.size ∧ w.heap.size < w2.heap.size) : Made w0 w2 v' (n + m) (L ++ K) := by
  have hw0 : w0.heap.size ≤ w.heap.size := Nat.le_trans h.1.size hA.size
  refine ⟨(up_trans h.1 hA).grown hG hw0 (fun k hk => h.2.2 k ((ob_iff _ _).1 hk)), by rw [evsC_append]; exact hW, fun k hk => ?_⟩
  rcases hO with e | ⟨e, _⟩
  · exact h.2.2 k ((ob_iff _ _).1 (e ▸ (ob_iff _ _).2 hk))
  · have := (ob_iff _ _).2 hk
    rw [e] at this
    cases this
    exact hw0
theorem made_nil (w : World) : Made w w (.slice none 0 0) 0 [] := ⟨Below.refl _ _, Win.nil_ _ _ _, fun k hk => by simp [Value.owner] at hk⟩
theorem evs_one (e : Ev) : evsC [e] = evCells e := by simp [evsC]
theorem slice_hi {t : TypeId} {g off n cap k : Nat} (ht : Tryd.prog.underlying t = some (.slice 34)) (hk : k ≤ cap) (W : World) :
    (Instr.slice t (.slice (some ⟨g, off, none⟩) n cap) none (some (.int .i64 (k : Int))) none).run Tryd.prog W = .ok (.slice (some ⟨g, off, none⟩) k cap) W := by
  have ht' : Tryd.prog.underlying t = some (.slice (Tryd.prog.elem t)) := by simp [Program.elem, ht]
  have he : Tryd.prog.elem t = 34 := by simp [Program.elem, ht]
  have hz : ∀ W, (Go.sizeOf 34).run Tryd.prog W = .ok 5 W := fun W => by kernel_rfl
  rw [run_slice_h W t _ _ _ ht' .i64 _ (by omega) (by omega), he, hz]
  by_cases h0 : cap = 0 <;> simp [Result.andThen, sliced, h0, add_flat]
theorem EvsAt.grow {w w' : World} {n : Nat} {A : Option Addr} {E : Nat → Ev} (h : EvsAt w w.heap.size A n E) (k : Below w.heap.size w w') : EvsAt w' w'.heap.size A n E := fun h0 => by
  obtain ⟨b, off, hA, hb, hc⟩ := h.below k h0
  exact ⟨b, off, hA, Nat.lt_of_lt_of_le hb k.size, hc⟩
/-- A list that a call wrote out. -/
theorem made_new {w wr : World} (h : Below w.heap.size w wr) (L : List Ev) (m : Nat) (hm : L.length = m) (h0 : m ≤ 900) : Made w (wr.alloc (.cells (evsC L).toArray 34)) (.slice (some ⟨wr.heap.size, 0, none⟩) m m) m L :=
  ⟨up_alloc h _, win_list wr L _ m hm h0, fun k hk => by simp [Value.owner] at hk; subst hk; exact h.size⟩
end Go.Proofs.YtkolebnjhndmkaaDoor
/-
  CONTRACTS of package event's Of, Plain, Same, Size, MustWord; of the document's own May, Tidy, Size: a part as a value, and back.
-/
namespace Go.Proofs.YtkolebnjhndmkaaDoor
open Go.RowKit
open Go.Lib
/-- A part, as a value. -/
def valE (e : Ev) : Value :=
  if e.k = 1 then .iface 4 (.bool e.y) else if e.k = 2 then .iface 62 (.agg #[.bool e.y, .int .u64 e.m]) else if e.k = 3 then .iface 57 (.string e.t)
  else if e.k = 4 then .iface 63 (.string e.t) else if e.k = 5 then .iface 56 (.agg #[.bool false, .int .i64 e.c]) else if e.k = 6 then .iface 56 (.agg #[.bool true, .int .i64 e.c])
  else if e.k = 7 then .iface 59 (.agg #[]) else .nilIface
theorem assert_yes (T u : TypeId) (h : (Tryd.prog.underlying T).map (fun x => match x with | .interface _ => false | _ => true) = some true) (v : Value) (W : World) : (Instr.typeAssert (.iface T v) u T true).run Tryd.prog W = .ok (.tuple #[v, .bool true]) W := by
  cases hu : Tryd.prog.underlying T with
  | none => simp [hu] at h
  | some x => cases x <;> simp [hu] at h <;> simp [Instr.typeAssert, run_underlying hu]
theorem assert_no (T u d : TypeId) (z : Value) (h : (Tryd.prog.underlying T).map (fun x => match x with | .interface _ => false | _ => true) = some true) (hd : d ≠ T) (hz : (Tryd.prog.info? T).map (·.zero) = some (some z)) (v : Value) (W : World) :
    (Instr.typeAssert (.iface d v) u T true).run Tryd.prog W = .ok (.tuple #[z, .bool false]) W := by
  obtain ⟨j, hj, hz'⟩ := Option.map_eq_some_iff.1 hz
  cases hu : Tryd.prog.underlying T with
  | none => simp [hu] at h
  | some x => cases x <;> simp [hu] at h <;> simp [Instr.typeAssert, run_underlying hu, hd, zeroValue, typeInfo, hj, hz']
theorem not_bool (d : TypeId) (hd : d ≠ 4) (v : Value) (W : World) : (Instr.typeAssert (.iface d v) 20 4 true).run Tryd.prog W = .ok (.tuple #[.bool false, .bool false]) W := assert_no _ _ d _ (by kernel_rfl) hd (by kernel_rfl) v W
theorem not_whole (d : TypeId) (hd : d ≠ 62) (v : Value) (W : World) : (Instr.typeAssert (.iface d v) 20 62 true).run Tryd.prog W = .ok (.tuple #[.agg #[.bool false, .int .u64 0], .bool false]) W := assert_no _ _ d _ (by kernel_rfl) hd (by kernel_rfl) v W
theorem not_word (d : TypeId) (hd : d ≠ 57) (v : Value) (W : World) : (Instr.typeAssert (.iface d v) 20 57 true).run Tryd.prog W = .ok (.tuple #[.string ⟨#[]⟩, .bool false]) W := assert_no _ _ d _ (by kernel_rfl) hd (by kernel_rfl) v W
theorem not_blob (d : TypeId) (hd : d ≠ 63) (v : Value) (W : World) : (Instr.typeAssert (.iface d v) 20 63 true).run Tryd.prog W = .ok (.tuple #[.string ⟨#[]⟩, .bool false]) W := assert_no _ _ d _ (by kernel_rfl) hd (by kernel_rfl) v W
theorem not_begin (d : TypeId) (hd : d ≠ 56) (v : Value) (W : World) : (Instr.typeAssert (.iface d v) 20 56 true).run Tryd.prog W = .ok (.tuple #[.agg #[.bool false, .int .i64 0], .bool false]) W := assert_no _ _ d _ (by kernel_rfl) hd (by kernel_rfl) v W
theorem not_close (d : TypeId) (hd : d ≠ 59) (v : Value) (W : World) : (Instr.typeAssert (.iface d v) 20 59 true).run Tryd.prog W = .ok (.tuple #[.agg #[], .bool false]) W := assert_no _ _ d _ (by kernel_rfl) hd (by kernel_rfl) v W
theorem is_bool (v : Value) (W : World) : (Instr.typeAssert (.iface 4 v) 20 4 true).run Tryd.prog W = .ok (.tuple #[v, .bool true]) W := assert_yes _ _ (by kernel_rfl) v W
theorem is_whole (v : Value) (W : World) : (Instr.typeAssert (.iface 62 v) 20 62 true).run Tryd.prog W = .ok (.tuple #[v, .bool true]) W := assert_yes _ _ (by kernel_rfl) v W
theorem is_word (v : Value) (W : World) : (Instr.typeAssert (.iface 57 v) 20 57 true).run Tryd.prog W = .ok (.tuple #[v, .bool true]) W := assert_yes _ _ (by kernel_rfl) v W
theorem is_blob (v : Value) (W : World) : (Instr.typeAssert (.iface 63 v) 20 63 true).run Tryd.prog W = .ok (.tuple #[v, .bool true]) W := assert_yes _ _ (by kernel_rfl) v W
theorem is_begin (v : Value) (W : World) : (Instr.typeAssert (.iface 56 v) 20 56 true).run Tryd.prog W = .ok (.tuple #[v, .bool true]) W := assert_yes _ _ (by kernel_rfl) v W
theorem is_close (v : Value) (W : World) : (Instr.typeAssert (.iface 59 v) 20 59 true).run Tryd.prog W = .ok (.tuple #[v, .bool true]) W := assert_yes _ _ (by kernel_rfl) v W
theorem nil_not (d : TypeId) (v : Value) (W : World) : (binOp .eql 20 (.iface d v) .nilIface).run Tryd.prog W = .ok (.bool false) W := by kernel_rfl
theorem nil_is (W : World) : (binOp .eql 20 .nilIface .nilIface).run Tryd.prog W = .ok (.bool true) W := by kernel_rfl
theorem may_count (n : Int) (w : World) : Calls Tryd.prog 22 #[.int .i64 n] w fun e w' => e = .returned (.bool (decide (-1 ≤ n))) ∧ w' = w := by
  go_enter Tryd.func22, Tryd.ntmps22
  go_wp2
  go_ret
  exact ⟨rfl, rfl⟩
set_option maxHeartbeats 1000000 in
theorem of_any (e : Ev) (w : World) : Calls Tryd.prog 10 #[evV e] w fun r w' => r = .returned (.tuple #[if mayE e then valE e else .nilIface, .bool (decide (mayE e))]) ∧ Below w.heap.size w w' := by
  obtain ⟨k, y, m, t, c⟩ := e
  have hb := Lib.hid ((Below.refl w.heap.size w).alloc (Nat.le_refl _) (.cells #[.int .i64 k, .bool y, .int .u64 m, .string t, .int .i64 c] 34))
  have q : ∀ n : Int, k ≠ n → (k == n) = false := fun n h => by simpa using h
  rcases kinds k with (rfl | rfl | rfl | rfl | rfl | rfl | rfl | rfl) | h
  all_goals simp only [evV, valE, mayE]
  case inr =>
    have q0 := q 0 (by omega)
    have q1 := q 1 (by omega)
    have q2 := q 2 (by omega)
    have q3 := q 3 (by omega)
    have q4 := q 4 (by omega)
    have q5 := q 5 (by omega)
    have q6 := q 6 (by omega)
    have q7 := q 7 (by omega)
    have hn : ¬ (0 ≤ k ∧ k ≤ 7 ∧ (k = 5 ∨ k = 6 → -1 ≤ c)) := fun hh => h ⟨hh.1, hh.2.1⟩
    have HN := Lib.hid hn
    clear h q hn
    go_enter Tryd.func10, Tryd.ntmps10
    go_wp2
    go_ret2
    first
    | exact ⟨rfl, hb.out⟩
    | exact ⟨by rw [if_neg HN.out, decide_eq_false HN.out]; rfl, hb.out⟩
  all_goals clear q
  all_goals
    go_enter Tryd.func10, Tryd.ntmps10
    go_wp2
    all_goals go_ret2
    all_goals first
    | exact ⟨rfl, hb.out⟩
    | exact ⟨by simp, hb.out⟩
    | exact ⟨by simp; omega, hb.out⟩
set_option maxHeartbeats 1000000 in
theorem plain_begin (b : Bool) (c : Int) (w : World) : Calls Tryd.prog 57 #[.agg #[.bool b, .int .i64 c]] w fun r w' => r = .returned (.tuple #[if -1 ≤ c then evV ⟨if b then 6 else 5, false, 0, ⟨#[]⟩, c⟩ else evV evZ, .bool (decide (-1 ≤ c))]) ∧ Below w.heap.size w w' := by
  by_cases h : -1 ≤ c
  · have h1 : (-1 ≤ c) = True := by simp [h]
    cases b
    all_goals
      go_enter Tryd.func57, Tryd.ntmps57
      go_wp2
      all_goals simp [bodyPost, results, Tryd.results57, go_sem, evV]
      all_goals exact ((Below.refl _ _).alloc (Nat.le_refl _) _).alloc (by simp) _
  · have h1 : (-1 ≤ c) = False := by simp; omega
    go_enter Tryd.func57, Tryd.ntmps57
    go_wp2
    all_goals simp [bodyPost, results, Tryd.results57, go_sem, evV, evZ]
    all_goals exact ((Below.refl _ _).alloc (Nat.le_refl _) _).alloc (by simp) _
set_option maxHeartbeats 2000000 in
theorem plain_in_begin (b : Bool) (c : Int) (w : World) : Calls Tryd.prog 48 #[.iface 56 (.agg #[.bool b, .int .i64 c])] w fun r w' => r = .returned (.tuple #[if -1 ≤ c then evV ⟨if b then 6 else 5, false, 0, ⟨#[]⟩, c⟩ else evV evZ, .bool (decide (-1 ≤ c))]) ∧ Below w.heap.size w w' := by
  have n0 := nil_not
  have n1 := nil_is
  have a1 := is_bool
  have a2 := is_whole
  have a3 := is_word
  have a4 := is_blob
  have a5 := is_begin
  have a6 := is_close
  have b1 := fun d h => not_bool d h
  have b2 := fun d h => not_whole d h
  have b3 := fun d h => not_word d h
  have b4 := fun d h => not_blob d h
  have b5 := fun d h => not_begin d h
  obtain ⟨X, hX⟩ : ∃ X : Ev, X = if -1 ≤ c then ⟨if b then 6 else 5, false, 0, ⟨#[]⟩, c⟩ else evZ := ⟨_, rfl⟩
  have hV : (if -1 ≤ c then evV ⟨if b then 6 else 5, false, 0, ⟨#[]⟩, c⟩ else evV evZ) = evV X := by rw [hX]; split <;> rfl
  have hP : ∀ w, Calls Tryd.prog 57 #[.agg #[.bool b, .int .i64 c]] w fun r w' => r = .returned (.tuple #[evV X, .bool (decide (-1 ≤ c))]) ∧ Below w.heap.size w w' := fun w => by
    have := plain_begin b c w
    rw [hV] at this
    exact this
  rw [hV]
  clear hX hV
  generalize decide (-1 ≤ c) = D at *
  obtain ⟨k, y, m, t, c'⟩ := X
  have HP := Lib.hid hP
  clear hP
  go_enter Tryd.func48, Tryd.ntmps48
  go_wp2_with fail
  refine (HP.out _).mono ?_
  rintro e w1 ⟨rfl, hb⟩
  obtain ⟨⟨z0, z1, z2, z3, z4⟩, ⟨y0, y1, y2, y3, y4⟩⟩ := ((((blk_new w _ _).alloc _).alloc _).go hb).ev
  have h1 := Lib.hid hb
  clear hb
  simp only [evV]
  go_wp2
  simp [bodyPost, results, Tryd.results48, go_sem, z0, z1, z2, z3, z4]
  refine ⟨rfl, up_set5 ?_ _ _ _ _ _⟩
  exact up_trans (up_alloc (up_alloc (up_alloc (Below.refl _ _) _) _) _) h1.out
set_option maxHeartbeats 2000000 in
theorem plain_in (e : Ev) (he : mayE e) (w : World) : Calls Tryd.prog 48 #[valE e] w fun r w' => r = .returned (.tuple #[evV (tidyE e), .bool true]) ∧ Below w.heap.size w w' := by
  have n0 := nil_not
  have n1 := nil_is
  have a1 := is_bool
  have a2 := is_whole
  have a3 := is_word
  have a4 := is_blob
  have a5 := is_begin
  have a6 := is_close
  have b1 := fun d h => not_bool d h
  have b2 := fun d h => not_whole d h
  have b3 := fun d h => not_word d h
  have b4 := fun d h => not_blob d h
  have b5 := fun d h => not_begin d h
  obtain ⟨k, y, m, t, c⟩ := e
  have hk : k = 5 ∨ k = 6 ∨ k = 0 ∨ k = 1 ∨ k = 2 ∨ k = 3 ∨ k = 4 ∨ k = 7 := by
    have h1 : 0 ≤ k := he.1
    have h2 : k ≤ 7 := he.2.1
    omega
  have hc : k = 5 ∨ k = 6 → -1 ≤ c := he.2.2
  clear he
  rcases hk with rfl | rfl | hk
  · have h := plain_in_begin false c w
    rw [if_pos (hc (by decide)), decide_eq_true (hc (by decide))] at h
    exact h
  · have h := plain_in_begin true c w
    rw [if_pos (hc (by decide)), decide_eq_true (hc (by decide))] at h
    exact h
  clear hc
  rcases hk with rfl | rfl | rfl | rfl | rfl | rfl
  all_goals simp only [valE, tidyE]
  all_goals
    go_enter Tryd.func48, Tryd.ntmps48
    go_wp2
  all_goals try simp [bodyPost, results, Tryd.results48, go_sem, evV]
  all_goals repeat (first | exact Below.refl _ _ | assumption | refine up_alloc ?_ _)
set_option maxHeartbeats 2000000 in
theorem plain_in_other (d : TypeId) (h1 : d ≠ 4) (h2 : d ≠ 62) (h3 : d ≠ 57) (h4 : d ≠ 63) (h5 : d ≠ 56) (h6 : d ≠ 59) (v : Value) (w : World) :
    Calls Tryd.prog 48 #[.iface d v] w fun r w' => r = .returned (.tuple #[evV evZ, .bool false]) ∧ Below w.heap.size w w' := by
  have n0 := nil_not
  have b1 := not_bool d h1
  have b2 := not_whole d h2
  have b3 := not_word d h3
  have b4 := not_blob d h4
  have b5 := not_begin d h5
  have b6 := not_close d h6
  clear h1 h2 h3 h4 h5 h6
  go_enter Tryd.func48, Tryd.ntmps48
  go_wp2
  all_goals try simp [bodyPost, results, Tryd.results48, go_sem, evV, evZ]
  all_goals repeat (first | exact Below.refl _ _ | assumption | refine up_alloc ?_ _)
/-- event.Plain, by what plainIn makes of a value. -/
theorem plain_by (v : Value) (X : Ev) (D : Bool) (hP : ∀ w, Calls Tryd.prog 48 #[v] w fun r w' => r = .returned (.tuple #[evV X, .bool D]) ∧ Below w.heap.size w w') (w : World) :
    Calls Tryd.prog 36 #[v] w fun r w' => r = .returned (.tuple #[evV X, .bool D]) ∧ Below w.heap.size w w' := by
  obtain ⟨k, y, m, t, c'⟩ := X
  have HP := Lib.hid hP
  clear hP
  go_enter Tryd.func36, Tryd.ntmps36
  go_wp2_with fail
  refine (HP.out _).mono ?_
  rintro e w1 ⟨rfl, hb⟩
  obtain ⟨⟨z0, z1, z2, z3, z4⟩, ⟨y0, y1, y2, y3, y4⟩⟩ := ((blk_new w _ _).go hb).ev
  have h1 := Lib.hid hb
  clear hb
  simp only [evV]
  go_wp2
  simp [bodyPost, results, Tryd.results36, go_sem, z0, z1, z2, z3, z4]
  refine ⟨rfl, up_set5 ?_ _ _ _ _ _⟩
  exact up_trans (up_alloc (Below.refl _ _) _) h1.out
theorem plain_any (e : Ev) (he : mayE e) (w : World) : Calls Tryd.prog 36 #[valE e] w fun r w' => r = .returned (.tuple #[evV (tidyE e), .bool true]) ∧ Below w.heap.size w w' :=
  plain_by _ _ _ (plain_in e he) w
theorem plain_other (d : TypeId) (h1 : d ≠ 4) (h2 : d ≠ 62) (h3 : d ≠ 57) (h4 : d ≠ 63) (h5 : d ≠ 56) (h6 : d ≠ 59) (v : Value) (w : World) :
    Calls Tryd.prog 36 #[.iface d v] w fun r w' => r = .returned (.tuple #[evV evZ, .bool false]) ∧ Below w.heap.size w w' :=
  plain_by _ _ _ (plain_in_other d h1 h2 h3 h4 h5 h6 v) w
end Go.Proofs.YtkolebnjhndmkaaDoor
/-
  CONTRACT of truchmanref1.May.
-/
namespace Go.Proofs.YtkolebnjhndmkaaDoor
open Go.RowKit
open Go.Lib
theorem may_any (e : Ev) (w : World) : Calls Tryd.prog 15 #[evV e] w fun r w' => r = .returned (.bool (decide (mayE e))) ∧ Below w.heap.size w w' := by
  obtain ⟨k, y, m, t, c⟩ := e
  have h1 := Lib.hid (up_alloc (Below.refl w.heap.size w) (.cells #[.int .i64 k, .bool y, .int .u64 m, .string t, .int .i64 c] 34))
  have q : ∀ n : Int, k ≠ n → (k != n) = true := fun n h => by simpa using h
  simp only [evV]
  by_cases h0 : 0 ≤ k
  · have t0 : (0 ≤ k) = True := by simp [h0]
    by_cases h7 : k ≤ 7
    · have t7 : (k ≤ 7) = True := by simp [h7]
      by_cases h5 : k = 5
      · subst h5
        have hmm : mayE ⟨5, y, m, t, c⟩ ↔ -1 ≤ c := by unfold mayE; simp
        rw [decide_eq_decide.2 hmm]
        by_cases hc : -1 ≤ c
        · have hc1 : (-1 ≤ c) = True := by simp [hc]
          rw [decide_eq_true hc]
          clear hc hmm q t0 t7 h0 h7
          go_enter Tryd.func15, Tryd.ntmps15
          go_wp2
          go_ret
          exact ⟨rfl, h1.out⟩
        · have hc1 : (-1 ≤ c) = False := by simp; omega
          rw [decide_eq_false hc]
          clear hc hmm q t0 t7 h0 h7
          go_enter Tryd.func15, Tryd.ntmps15
          go_wp2
          go_ret
          exact ⟨rfl, h1.out⟩
      · by_cases h6 : k = 6
        · subst h6
          have hmm : mayE ⟨6, y, m, t, c⟩ ↔ -1 ≤ c := by unfold mayE; simp
          rw [decide_eq_decide.2 hmm]
          by_cases hc : -1 ≤ c
          · have hc1 : (-1 ≤ c) = True := by simp [hc]
            rw [decide_eq_true hc]
            clear hc hmm q t0 t7 h0 h7
            go_enter Tryd.func15, Tryd.ntmps15
            go_wp2
            go_ret
            exact ⟨rfl, h1.out⟩
          · have hc1 : (-1 ≤ c) = False := by simp; omega
            rw [decide_eq_false hc]
            clear hc hmm q t0 t7 h0 h7
            go_enter Tryd.func15, Tryd.ntmps15
            go_wp2
            go_ret
            exact ⟨rfl, h1.out⟩
        · have hm : mayE ⟨k, y, m, t, c⟩ := ⟨h0, h7, fun h => by simp only at h; omega⟩
          rw [decide_eq_true hm]
          have q5 := q 5 h5
          have q6 := q 6 h6
          clear q h5 h6 h0 h7 hm
          go_enter Tryd.func15, Tryd.ntmps15
          go_wp2
          all_goals go_ret
          all_goals exact ⟨rfl, h1.out⟩
    · have t7 : (k ≤ 7) = False := by simp; omega
      rw [decide_eq_false (fun h => h7 h.2.1)]
      clear q h0 h7
      go_enter Tryd.func15, Tryd.ntmps15
      go_wp2
      all_goals go_ret
      all_goals exact ⟨rfl, h1.out⟩
  · have t0 : (0 ≤ k) = False := by simp; omega
    rw [decide_eq_false (fun h => h0 h.1)]
    clear q h0
    go_enter Tryd.func15, Tryd.ntmps15
    go_wp2
    all_goals go_ret
    all_goals exact ⟨rfl, h1.out⟩
end Go.Proofs.YtkolebnjhndmkaaDoor
/-
  TWO PLAIN PARTS held against each other, by == and !=.
-/
namespace Go.Proofs.YtkolebnjhndmkaaDoor
open Go.RowKit
open Go.Lib
/-- Two plain parts, cell by cell. -/
def sameE (X Y : Ev) : Bool := (X.k == Y.k) && (X.y == Y.y) && (X.m == Y.m) && (X.t.toList == Y.t.toList) && (X.c == Y.c)
theorem bytes_eq {a b : ByteArray} (h : a.toList = b.toList) : a = b := by
  apply ByteArray.ext
  simp only [ByteArray.toList_eq] at h
  exact Array.ext' h
theorem sameE_iff (X Y : Ev) : sameE X Y = true ↔ X = Y := by
  obtain ⟨k, y, m, t, c⟩ := X
  obtain ⟨k', y', m', t', c'⟩ := Y
  simp only [sameE, Bool.and_eq_true, beq_iff_eq, Ev.mk.injEq]
  constructor
  · rintro ⟨⟨⟨⟨h1, h2⟩, h3⟩, h4⟩, h5⟩
    exact ⟨h1, h2, h3, bytes_eq h4, h5⟩
  · rintro ⟨h1, h2, h3, h4, h5⟩
    exact ⟨⟨⟨⟨h1, h2⟩, h3⟩, by rw [h4]⟩, h5⟩
theorem sameE_refl (X : Ev) : sameE X X = true := (sameE_iff X X).2 rfl
theorem sameE_comm (X Y : Ev) : sameE X Y = sameE Y X := by
  rw [Bool.eq_iff_iff, sameE_iff, sameE_iff]
  exact eq_comm
theorem sameE_ne {X Y : Ev} (h : X ≠ Y) : sameE X Y = false := by
  cases hs : sameE X Y with
  | false => rfl
  | true => exact absurd ((sameE_iff X Y).1 hs) h
theorem natb (a b : Nat) : (((a : Int)) == (b : Int)) = (a == b) := by
  rw [Bool.eq_iff_iff, beq_iff_eq, beq_iff_eq]
  omega
theorem ev_eql (X Y : Ev) (W : World) : (binOp .eql 34 (evV X) (evV Y)).run Tryd.prog W = .ok (.bool (sameE X Y)) W := by
  have hp : Tryd.prog.stoodInHeld 34 = false := by kernel_rfl
  have hs : Tryd.prog.underlying 34 = some (.struct (Tryd.prog.fieldsOf 34)) := by kernel_rfl
  simp only [run_eql_struct, evV]
  rw [run_equalIn_agg _ _ _ _ _ hs hp]
  simp [go_sem]
  have h3' : ((X.m : Int) = (Y.m : Int)) ↔ X.m = Y.m := by omega
  simp only [h3']
  by_cases h1 : X.k = Y.k <;> by_cases h2 : X.y = Y.y <;> by_cases h3 : X.m = Y.m <;> by_cases h4 : X.t.toList = Y.t.toList <;> by_cases h5 : X.c = Y.c <;> simp [sameE, h1, h2, h3, h4, h5]
theorem ev_neq (X Y : Ev) (W : World) : (binOp .neq 34 (evV X) (evV Y)).run Tryd.prog W = .ok (.bool (!sameE X Y)) W := by
  have hp : Tryd.prog.stoodInHeld 34 = false := by kernel_rfl
  have hs : Tryd.prog.underlying 34 = some (.struct (Tryd.prog.fieldsOf 34)) := by kernel_rfl
  simp only [run_neq_struct, evV]
  rw [run_equalIn_agg _ _ _ _ _ hs hp]
  simp [go_sem]
  have h3' : ((X.m : Int) = (Y.m : Int)) ↔ X.m = Y.m := by omega
  simp only [h3']
  by_cases h1 : X.k = Y.k <;> by_cases h2 : X.y = Y.y <;> by_cases h3 : X.m = Y.m <;> by_cases h4 : X.t.toList = Y.t.toList <;> by_cases h5 : X.c = Y.c <;> simp [sameE, h1, h2, h3, h4, h5]
end Go.Proofs.YtkolebnjhndmkaaDoor
/-
  CONTRACT of truchmanbook.SameEvs: two lists that hold the same.
-/
namespace Go.Proofs.YtkolebnjhndmkaaDoor
open Go.RowKit
open Go.Lib
/-- Two lists that hold the same. -/
theorem same_evs (A A' : Option Addr) (n cp cp' : Nat) (E : Nat → Ev) (w : World) (hn : n ≤ 900) (hE : EvsAt w w.heap.size A n E) (hE' : EvsAt w w.heap.size A' n E) :
    Calls Tryd.prog 31 #[.slice A n cp, .slice A' n cp'] w fun r w' => r = .returned (.bool true) ∧ Below w.heap.size w w' := by
  have HE := Lib.hid hE
  have HE' := Lib.hid hE'
  clear hE hE'
  go_enter Tryd.func31, Tryd.ntmps31
  go_wp2
  go_loopw [5] (fun i wr => ∃ j : Nat, i = .int .i64 j ∧ j ≤ n ∧ Hid (Below w.heap.size w wr)) (fun i _ => n - (RowKit.intOf i).toNat)
  case atStart => exact ⟨0, rfl, by omega, Lib.hid (Below.refl _ _)⟩
  case round =>
    obtain ⟨j, rfl, hjn, HB⟩ := hrel
    by_cases hlt : j < n
    · obtain ⟨b, off, rfl, hb, x0, x1, x2, x3, x4⟩ := (HE.out.below HB.out).cells hlt
      obtain ⟨b', off', rfl, hb', y0, y1, y2, y3, y4⟩ := (HE'.out.below HB.out).cells hlt
      have he := fun W => ev_eql (E j) (E j) W
      rw [sameE_refl] at he
      generalize E j = e at *
      obtain ⟨k, y, m, t, c⟩ := e
      simp only [evV] at he x0 x1 x2 x3 x4 y0 y1 y2 y3 y4
      go_wp2
      go_quiet (fail)
      go_wp2
      go_roundw
      case rel => exact ⟨j + 1, rfl, hlt, Lib.hid (below_drN HB.out _)⟩
      case measure => simp [RowKit.intOf]; omega
    · obtain rfl : j = n := by omega
      go_wp2
      go_ret
      exact ⟨rfl, HB.out⟩
end Go.Proofs.YtkolebnjhndmkaaDoor
/-
  CONTRACTS of package truchmanbook: copyEvs, LentEvs, StaysEvs.
-/
namespace Go.Proofs.YtkolebnjhndmkaaDoor
open Go.RowKit
open Go.Lib
set_option maxHeartbeats 1000000 in
theorem ev_copy (A : Option Addr) (n cp : Nat) (E : Nat → Ev) (w : World) (hn : n ≤ 200) (hE : EvsAt w w.heap.size A n E) :
    Calls Tryd.prog 28 #[.slice A n cp] w fun r w' => ∃ v, r = .returned v ∧ Made w w' v n (pre E n) := by
  have HE := Lib.hid hE
  clear hE
  go_enter Tryd.func28, Tryd.ntmps28
  go_wp2_with (at_builtin; refine wpList_append_win rfl _ _ _ rfl Tryd.underlying22 info_ev rfl rfl (Win.nil_ _ _ _) _ rfl n _ (HE.out.from Tryd.underlying22) ?e1 ?e2 ?_)
  case e1 => unfold maxLen; omega
  case e2 => omega
  intro v2 w2 hW2 hG2 hO2
  have HM : Hid (Made w w2 v2 n (pre E n)) := Lib.hid (by
    have h := made_more (K := pre E n) (m := n) (made_nil w) (Below.refl _ _) (by simpa [evsC] using hW2.out) hG2.out (by simpa using hO2.out)
    simpa using h)
  clear hW2 hG2 hO2
  go_wp2
  go_ret
  exact ⟨_, rfl, HM.out⟩
def evMark : Ev := ⟨0, false, 0, ⟨#[]⟩, -77⟩
set_option maxHeartbeats 1000000 in
theorem lent_any (A : Option Addr) (n cp : Nat) (E : Nat → Ev) (w : World) (hn : n ≤ 200) (hE : EvsAt w w.heap.size A n E) :
    Calls Tryd.prog 16 #[.slice A n cp] w fun r w' => ∃ g off cap, r = .returned (.slice (some ⟨g, off, none⟩) n cap) ∧ n + 1 ≤ cap ∧ cap ≤ 9223372036854775807 ∧ Made w w' (.slice (some ⟨g, off, none⟩) (n + 1) cap) (n + 1) (pre E n ++ [evMark]) := by
  have HE := Lib.hid hE
  clear hE
  go_enter Tryd.func16, Tryd.ntmps16
  go_wp2_with fail
  refine (ev_copy A n cp E _ hn HE.out).mono ?_
  rintro e w1 ⟨v1, rfl, h1⟩
  have H1 := Lib.hid h1
  clear h1
  obtain ⟨a1, c1, rfl, _, _⟩ := H1.out.2.1.slice_form
  go_wp2_with (at_builtin; refine wpList_append_win rfl _ _ _ rfl Tryd.underlying22 info_ev rfl rfl (H1.out.2.1.alloc _) _ rfl 1 _ (src_new _ Tryd.underlying22 5 1 (evCells evMark) 34 _ rfl (by rw [← evs_one]; exact evsC_one _) (heap_alloc_new w1 _)) ?e1 ?e2 ?_)
  case e1 => unfold maxLen; omega
  case e2 => omega
  intro v2 w2 hW2 hG2 hO2
  have hM : Made w w2 v2 (n + 1) (pre E n ++ [evMark]) := made_more (K := [evMark]) (m := 1) H1.out (up_alloc (Below.refl _ _) _) (by simpa [evs_one] using hW2.out) hG2.out (by simpa using hO2.out)
  obtain ⟨g, off, cap, rfl, h1, h2, _, _, _⟩ := hM.2.1.form (by omega)
  have HM := Lib.hid hM
  clear hW2 hG2 hO2 hM
  have hs := fun W => slice_hi (g := g) (off := off) (n := n + 1) (cap := cap) (k := n) Tryd.underlying22 (by omega) W
  go_wp2
  go_ret
  exact ⟨g, off, cap, rfl, h1, h2, HM.out⟩
set_option maxHeartbeats 1000000 in
theorem stays_any (g off cap : Nat) (A' : Option Addr) (n cp' : Nat) (E : Nat → Ev) (w : World) (hn : n ≤ 200) (hc : n + 1 ≤ cap) (hW : Win w 34 5 (.slice (some ⟨g, off, none⟩) (n + 1) cap) (n + 1) (evsC (pre E n ++ [evMark]))) (hE' : EvsAt w w.heap.size A' n E) :
    Calls Tryd.prog 18 #[.slice (some ⟨g, off, none⟩) n cap, .slice A' n cp'] w fun r w' => r = .returned (.bool true) ∧ Below w.heap.size w w' := by
  have hE : EvsAt w w.heap.size (some ⟨g, off, none⟩) n E := fun h0 => by
    have h1 := evs_win (n := n) hW (by simp [pre_length])
    obtain ⟨b, o, hv, hb, hx⟩ := h1 h0
    refine ⟨b, o, hv, hb, fun i hi j u hu => hx i hi j u ?_⟩
    rw [show getE (pre E n ++ [evMark]) i = E i by simp [getE, pre, List.getElem?_append, hi]]
    exact hu
  have hS := fun cp => same_evs (some ⟨g, off, none⟩) A' n cp cp' E w (by omega) hE hE'
  have HS := Lib.hid hS
  have hlast : EvsAt w w.heap.size (some ⟨g, off, none⟩) (n + 1) (getE (pre E n ++ [evMark])) := evs_win hW (by simp [pre_length])
  obtain ⟨b, o, hv, hb, x0, x1, x2, x3, x4⟩ := hlast.cells (show n < n + 1 by omega)
  simp only [Option.some.injEq, Addr.mk.injEq, and_true] at hv
  obtain ⟨rfl, rfl⟩ := hv
  rw [show getE (pre E n ++ [evMark]) n = evMark by simp [getE, pre]] at x4
  simp only [evMark] at x4
  have X4 : Hid (∀ w', Below w.heap.size w w' → w'.cell? ⟨g, off + n * 5 + 4, none⟩ = some (.int .i64 (-77))) := Lib.hid fun w' h => (h.cell hb).trans x4
  have hs := fun W => slice_hi (g := g) (off := off) (n := n) (cap := cap) (k := n + 1) Tryd.underlying22 (by omega) W
  clear hS hlast x0 x1 x2 x3 x4 hE hE' hW
  go_enter Tryd.func18, Tryd.ntmps18
  go_wp2_with fail
  refine (HS.out _).mono ?_
  rintro e w1 ⟨rfl, b1⟩
  have x4 := X4.out _ b1
  have B1 := Lib.hid b1
  clear b1
  go_wp2
  go_ret
  exact ⟨rfl, B1.out⟩
end Go.Proofs.YtkolebnjhndmkaaDoor
/-
  THE DOCUMENT'S OWN STACK: open containers as a list of truchmanref1.Box.
-/
namespace Go.Proofs.YtkolebnjhndmkaaDoor
open Go.RowKit
open Go.Lib
/-- The open containers, as a list of boxes. -/
structure Stk (M B : Nat) (w : World) (s : List Bx) (v : Value) : Prop where
  win : Win w 68 3 v s.length (bxsL s)
  vB : ∀ k ∈ Value.owner v, B ≤ k
  ok : ∀ b ∈ s, (-1 ≤ b.c ∧ b.c ≤ 9223372036854775807) ∧ b.have_ ≤ M
  deep : s.length ≤ 800
  most : M ≤ 1000
/-- Of the blocks below B only b may have turned. -/
structure Bew (B b : Nat) (w w' : World) : Prop where
  os : w'.os = w.os
  tape : w'.tape = w.tape
  output : w'.output = w.output
  size : w.heap.size ≤ w'.heap.size
  block : ∀ k, k < B → k ≠ b → w'.heap[k]? = w.heap[k]?
theorem _root_.Go.RowKit.Below.bew {B b : Nat} {w w' : World} (h : Below B w w') : Bew B b w w' := ⟨h.os, h.tape, h.output, h.size, fun k hk _ => h.block k hk⟩
theorem Bew.trans {B b : Nat} {w w1 w2 : World} (h : Bew B b w w1) (k : Bew B b w1 w2) : Bew B b w w2 :=
  ⟨k.os.trans h.os, k.tape.trans h.tape, k.output.trans h.output, Nat.le_trans h.size k.size, fun i hi hb => (k.block i hi hb).trans (h.block i hi hb)⟩
theorem Bew.set {B b : Nat} {w w' : World} (h : Bew B b w w') (i : Nat) (v : Value) : Bew B b w (w'.setCell ⟨b, i, none⟩ v) :=
  ⟨h.os, h.tape, h.output, Nat.le_trans h.size (by simp [World.setCell]), fun k hk hb => (Below.heap_setCell w' ⟨b, i, none⟩ v k (fun e => hb e)).trans (h.block k hk hb)⟩
theorem Bew.setFar {B b : Nat} {w w' : World} (h : Bew B b w w') {p : Addr} (hp : B ≤ p.block) (v : Value) : Bew B b w (w'.setCell p v) :=
  ⟨h.os, h.tape, h.output, Nat.le_trans h.size (by simp [World.setCell]), fun k hk hb => (Below.heap_setCell w' p v k (fun e => by subst e; omega)).trans (h.block k hk hb)⟩
theorem Bew.mono {B C b : Nat} {w w' : World} (h : Bew B b w w') (hC : C ≤ B) : Bew C b w w' := ⟨h.os, h.tape, h.output, h.size, fun k hk hb => h.block k (Nat.lt_of_lt_of_le hk hC) hb⟩
theorem Bew.below {B C b : Nat} {w w' : World} (h : Bew B b w w') (hC : C ≤ B) (hb : C ≤ b) : Below C w w' := ⟨h.os, h.tape, h.output, h.size, fun k hk => h.block k (Nat.lt_of_lt_of_le hk hC) (by omega)⟩
/-- What append made is nobody's but its own. -/
theorem Stk.zero {M B : Nat} {w : World} {s : List Bx} {v : Value} (h : Stk M B w s v) : Stk M 0 w s v := ⟨h.win, fun _ _ => Nat.zero_le _, h.ok, h.deep, h.most⟩
theorem Stk.go {M B : Nat} {w w' : World} {s : List Bx} {v : Value} (h : Stk M B w s v) (k : Below w.heap.size w w') : Stk M B w' s v :=
  ⟨h.win.keep fun g hg => k.block g (h.win.lt g hg), h.vB, h.ok, h.deep, h.most⟩
theorem Stk.last {M B : Nat} {w : World} {b : Bx} {r : List Bx} {v : Value} (h : Stk M B w (b :: r) v) :
    ∃ g off N cap, v = .slice (some ⟨g, off, none⟩) N cap ∧ N = r.length + 1 ∧ N ≤ 9223372036854775807 ∧
      (w.cell? ⟨g, off + r.length * 3, none⟩ = some (.bool b.map) ∧ w.cell? ⟨g, off + r.length * 3 + 1, none⟩ = some (.int .i64 b.c) ∧ w.cell? ⟨g, off + r.length * 3 + 2, none⟩ = some (.int .i64 (b.have_ : Int))) ∧
      (w.frozen? ⟨g, off + r.length * 3, none⟩ = false ∧ w.frozen? ⟨g, off + r.length * 3 + 1, none⟩ = false ∧ w.frozen? ⟨g, off + r.length * 3 + 2, none⟩ = false) := by
  obtain ⟨g, off, cap, rfl, h1, h2, _, _, h3⟩ := h.win.form (by simp)
  have hl := bxsL_length r
  have hx : ∀ j u, (bxL b)[j]? = some u → w.cell? ⟨g, off + (r.length * 3 + j), none⟩ = some u ∧ w.frozen? ⟨g, off + (r.length * 3 + j), none⟩ = false := fun j u hu => by
    refine h3 _ u ?_
    rw [bxsL, ← hl, List.getElem?_append_right (by omega), Nat.add_sub_cancel_left]
    exact hu
  have x0 := hx 0 _ rfl
  have x1 := hx 1 _ rfl
  have x2 := hx 2 _ rfl
  simp only [← Nat.add_assoc, Nat.add_zero] at x0 x1 x2
  refine ⟨g, off, _, cap, rfl, by simp, ?_, ⟨x0.1, x1.1, x2.1⟩, ⟨x0.2, x1.2, x2.2⟩⟩
  unfold maxLen at h2
  simp only [List.length_cons] at h1 ⊢
  omega
theorem Stk.up {M B : Nat} {w : World} {s : List Bx} {v : Value} (h : Stk M B w s v) (hM : M + 1 ≤ 1000) : Stk (M + 1) B w s v :=
  ⟨h.win, h.vB, fun b hb => ⟨(h.ok b hb).1, Nat.le_succ_of_le (h.ok b hb).2⟩, h.deep, hM⟩
theorem Stk.inc {M B : Nat} {w : World} {b : Bx} {r : List Bx} {g off cap N : Nat} (h : Stk M B w (b :: r) (.slice (some ⟨g, off, none⟩) N cap)) (hM : M + 1 ≤ 1000) (hN : N = r.length + 1) :
    Stk (M + 1) B (w.setCell ⟨g, off + r.length * 3 + 2, none⟩ (.int .i64 ((b.have_ : Int) + 1))) (incB (b :: r)) (.slice (some ⟨g, off, none⟩) N cap) ∧ B ≤ g := by
  subst hN
  have hw := h.win.store (r.length * 3 + 2) (by rw [bxsL_length]; simp; omega) (.int .i64 ((b.have_ : Int) + 1))
  have hx : (bxsL (b :: r)).set (r.length * 3 + 2) (.int .i64 ((b.have_ : Int) + 1)) = bxsL (incB (b :: r)) := by
    simp only [bxsL, incB]
    rw [← bxsL_length, List.set_append, if_neg (by omega), Nat.add_sub_cancel_left]
    rfl
  rw [hx, ← Nat.add_assoc] at hw
  refine ⟨⟨hw, h.vB, fun x hx => ?_, h.deep, hM⟩, h.vB g (by simp [Value.owner])⟩
  simp only [incB, List.mem_cons] at hx
  rcases hx with rfl | hx
  · have := h.ok b (by simp)
    exact ⟨this.1, by simp only; omega⟩
  · have := h.ok x (List.mem_cons_of_mem _ hx)
    exact ⟨this.1, by omega⟩
/-- A slice that append made of old elements and new ones. -/
theorem stk_new {M B : Nat} {w w2 : World} {s : List Bx} {v v' : Value} (hB : B ≤ w.heap.size) (hv : ∀ k ∈ Value.owner v, B ≤ k) {n : Nat} {xs : List Value} (hn : n = s.length) (hx : xs = bxsL s)
    (hW : Win w2 68 3 v' n xs) (hG : w.grownBy w2 v.ownBlock) (hO : v'.ownBlock = v.ownBlock ∨ v'.ownBlock = some w.heap.size ∧ w.heap.size < w2.heap.size)
    (ok : ∀ b ∈ s, (-1 ≤ b.c ∧ b.c ≤ 9223372036854775807) ∧ b.have_ ≤ M) (deep : s.length ≤ 800) (most : M ≤ 1000) : Stk M B w2 s v' ∧ Below B w w2 := by
  subst hn hx
  refine ⟨⟨hW, fun k hk => ?_, ok, deep, most⟩, (Below.refl B w).grown hG hB fun k hk => hv k ((ob_iff _ _).1 hk)⟩
  rcases hO with e | ⟨e, _⟩
  · exact hv k ((ob_iff _ _).1 (e ▸ (ob_iff _ _).2 hk))
  · have := (ob_iff _ _).2 hk
    rw [e] at this
    cases this
    exact hB
theorem info_rbox : (Tryd.prog.info? 68).map (fun i => (i.zero, i.size, i.bytes)) = some (some (.agg #[.bool false, .int .i64 0, .int .i64 0]), 3, 24) := by kernel_rfl
end Go.Proofs.YtkolebnjhndmkaaDoor
