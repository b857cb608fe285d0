/-
  THE WALKS of package ring's functions and of chapter 2's laws at one commit: what each call does to the world, the ring told as its bytes. No condition but what each theorem's premises say.
-/
import Derived.Test.YteaejjnbficofaaProg
import Derived.WalkKit
import Derived.WalkSpells
import Derived.WalkLawsBesides
import Derived.Deep.QuietTactic
import Derived.BigQuiet
import Derived.Lib.Hide
import Derived.Lib.BufferWrite
import Derived.Lib.SlBuf
import Derived.Lib.SlBytesRow
import Derived.Laws.MakeOwn
import Derived.Laws.CopyOwn
import Derived.StillTailTactics
import Derived.Handy
import Derived.Deep.Light
import Derived.Deep.AppendLies
import Derived.Deep.RegionWith
import Derived.Outline
namespace Go.Proofs.Yteaejjnbficofaa
open Go.RowKit
open Go.Lib
theorem run_make_rowN {P : Program} (t e : TypeId) (i : TypeInfo) (z : Value) (ht : P.underlying t = some (.slice e)) (hi : P.info? e = some i) (hz : i.zero = some z)
    (kl kc : IntKind) (n c : Nat) (hnc : n ≤ c) (hbytes : i.bytes * c ≤ 281474976710656) (h63 : c ≤ 9223372036854775807) (w : World) :
    (Instr.makeSlice t (.int kl (n : Int)) (.int kc (c : Int))).run P w = .ok (.slice (some ⟨w.heap.size, 0, none⟩) n c) (w.alloc (.cells (madeCells z.cells (c * i.size)) e)) := by
  have hb : (i.bytes : Int) * (c : Int) ≤ 281474976710656 := by
    have h : ((i.bytes * c : Nat) : Int) ≤ 281474976710656 := by omega
    rwa [Int.natCast_mul] at h
  have hr := run_make (P := P) w t e i z ht hi hz kl kc n c (by omega) (by omega) hb (by omega)
  simp only [Int.toNat_natCast] at hr
  exact hr
theorem info5 : (Try.prog.info? 5).map (fun i => (i.zero, i.size, i.bytes)) = some (some (.int .u8 0), 1, 1) := by kernel_rfl
theorem made_bytes (n : Nat) : madeCells (Value.cells (.int .u8 0)) (n * 1) = (byteCells (List.replicate n 0)).toArray := by
  apply Array.toList_inj.1
  simp [madeCells, byteCells]
  apply List.ext_getElem
  · simp
  · intro i h1 h2
    simp [Value.cells, Nat.mod_one]
set_option maxHeartbeats 400000 in
theorem new_any (n : Int) (k : Nat) (w : World) (h : k ≤ 10000) (hk : min (max n 0) 10000 = (k : Int)) :
    Calls Try.prog 9 #[.int .i64 n] w fun e w' => e = .returned (.pointer (some ⟨w.heap.size + 1, 0, none⟩)) ∧
      (w.alloc (.cells (byteCells (List.replicate k 0)).toArray 5)).alloc (.cells #[.slice (some ⟨w.heap.size, 0, none⟩) k k, .int .i64 0, .int .i64 0] 39) = w' := by
  obtain ⟨i0, hi, hz0, hz1, hz2⟩ := info_parts info5
  have hmk : ∀ W : World, (Instr.makeSlice 34 (.int .i64 (k : Int)) (.int .i64 (k : Int))).run Try.prog W = _ := fun W => run_make_rowN (P := Try.prog) 34 5 i0 (.int .u8 0) Try.underlying34 hi hz0 .i64 .i64 k k (Nat.le_refl _) (by rw [hz2]; omega) (by omega) W
  rw [hz1, made_bytes, ← hk] at hmk
  clear hi hz0 hz1 hz2 hk
  go_enter Try.func9, Try.ntmps9
  go_wp2
  go_ret
  exact ⟨rfl, rfl⟩
set_option maxHeartbeats 400000 in
theorem len_any (b n f c : Nat) (g : Option Addr) (w : World) (hb : w.heap[b]? = some (.cells #[.slice g n n, .int .i64 f, .int .i64 c] 39 (0, 0))) :
    Calls Try.prog 14 #[.pointer (some ⟨b, 0, none⟩)] w fun e w' => e = .returned (.int .i64 c) ∧ w = w' := by
  have hc : w.cell? ⟨b, 2, none⟩ = some (.int .i64 c) := by simp [World.cell?, hb]
  clear hb
  go_enter Try.func14, Try.ntmps14
  go_wp2
  go_ret
  exact ⟨rfl, rfl⟩
set_option maxHeartbeats 400000 in
theorem len_nil (w : World) :
    Calls Try.prog 14 #[.pointer none] w fun e w' => e = .returned (.int .i64 0) ∧ w = w' := by
  go_enter Try.func14, Try.ntmps14
  go_wp2
  go_ret
  exact ⟨rfl, rfl⟩
set_option maxHeartbeats 400000 in
theorem room_any (b n f c : Nat) (g : Option Addr) (w : World) (hb : w.heap[b]? = some (.cells #[.slice g n n, .int .i64 f, .int .i64 c] 39 (0, 0))) (hn : n ≤ 10000) (hcn : c ≤ n) :
    Calls Try.prog 15 #[.pointer (some ⟨b, 0, none⟩)] w fun e w' => e = .returned (.int .i64 (n - c : Nat)) ∧ ∃ q, w' = w.drewN q := by
  have hc : w.cell? ⟨b, 2, none⟩ = some (.int .i64 c) := by simp [World.cell?, hb]
  have hs : w.cell? ⟨b, 0, none⟩ = some (.slice g n n) := by simp [World.cell?, hb]
  clear hb
  go_enter Try.func15, Try.ntmps15
  go_wp2
  go_quiet (fail)
  go_wp2
  go_ret
  exact ⟨by rw [show ((n - c : Nat) : Int) = (n : Int) - c by omega]; rfl, _, rfl⟩
set_option maxHeartbeats 400000 in
theorem room_nil (w : World) :
    Calls Try.prog 15 #[.pointer none] w fun e w' => e = .returned (.int .i64 0) ∧ w = w' := by
  go_enter Try.func15, Try.ntmps15
  go_wp2
  go_ret
  exact ⟨rfl, rfl⟩
set_option maxHeartbeats 400000 in
theorem drop_zero (p : Value) (w : World) :
    Calls Try.prog 16 #[p, .int .i64 0] w fun e w' => e = .returned (.tuple #[]) ∧ w = w' := by
  go_enter Try.func16, Try.ntmps16
  go_wp2
  refine bodyPost_ret (results_none rfl _ _ _) rfl ?_
  exact ⟨rfl, rfl⟩
open Go in
theorem wp_region_tail {P : Program} {id : Nat} {Q : Exit → Act → World → Prop} {a : Act} {w : World} {l : List Oper} (n : Nat) (hm : P.follows .mixedOrders = true) (hB : Region.lexTailB .any l.toArray n = true)
    (h : wpStill P l.toArray w.drew (fun a' => wpList P l.toArray Q (l.drop n) a' w.drew) (l.take n) a) : (Code.region id l.toArray true).wp P Q a w :=
  wp_region_still_tail n hm hB h
set_option maxHeartbeats 400000 in
theorem drop_any (b n f c k : Nat) (g : Option Addr) (w : World) (hb : w.heap[b]? = some (.cells #[.slice g n n, .int .i64 f, .int .i64 c] 39 (0, 0))) (hn : n ≤ 10000) (hcn : c ≤ n) (hk : k ≤ c) (hk0 : 0 < k) (hf : f < n) :
    Calls Try.prog 16 #[.pointer (some ⟨b, 0, none⟩), .int .i64 k] w fun e w' => e = .returned (.tuple #[]) ∧ ((w.setCell ⟨b, 1, none⟩ (.int .i64 (((f : Int) + k) % n))).setCell ⟨b, 2, none⟩ (.int .i64 ((c : Int) - k))).drew = w' := by
  have hc : w.cell? ⟨b, 2, none⟩ = some (.int .i64 c) := by simp [World.cell?, hb]
  have hs : w.cell? ⟨b, 0, none⟩ = some (.slice g n n) := by simp [World.cell?, hb]
  have hf : w.cell? ⟨b, 1, none⟩ = some (.int .i64 f) := by simp [World.cell?, hb]
  have hz1 : w.frozen? ⟨b, 1, none⟩ = false := by simp [World.frozen?, hb]
  have hz2 : w.frozen? ⟨b, 2, none⟩ = false := by simp [World.frozen?, hb]
  have hk1 : ((k : Int) == 0) = false := by simp; omega
  clear hb
  go_enter Try.func16, Try.ntmps16
  go_wp2
  have e1 : IntKind.i64.wrap ((f : Int) + (k : Int)) = (f : Int) + k := IntWalk.i64_in _ (by omega)
  have e2 : ¬ n = 0 := by omega
  have e3 : ((f : Int) + k).tmod n = ((f + k) % n : Nat) := by rw [Int.tmod_eq_emod_of_nonneg (by omega)]; simp
  refine wp_region_tail 15 (by kernel_rfl) (by kernel_rfl) ?_
  simp only [List.take_succ_cons, List.take_zero, List.drop_succ_cons, List.drop_zero]
  repeat still_step
  refine wpStill_nil ?_
  clear e1 e2 e3
  go_wp2
  go_end0
  exact ⟨rfl, rfl⟩

set_option maxHeartbeats 400000 in
theorem peek_none (b n f c : Nat) (m : Int) (g : Option Addr) (w : World) (hb : w.heap[b]? = some (.cells #[.slice g n n, .int .i64 f, .int .i64 c] 39 (0, 0))) (hm : m ≤ 0 ∨ c = 0) :
    Calls Try.prog 12 #[.pointer (some ⟨b, 0, none⟩), .int .i64 m] w fun e w' => e = .returned (.string ⟨#[]⟩) ∧ w = w' := by
  have H := Lib.hid hb
  have h1 : min m (c : Int) ≤ 0 := by omega
  clear hb hm
  go_enter Try.func12, Try.ntmps12
  go_wp2_with fail
  refine (len_any _ _ _ _ _ _ H.out).mono ?_
  rintro e w' ⟨rfl, rfl⟩
  go_wp2
  go_ret
  exact ⟨rfl, rfl⟩

theorem run_slice_hi (W : World) (t e : TypeId) (ht : Try.prog.underlying t = some (.slice e)) (hz : ∀ w, (Go.sizeOf e).run Try.prog w = .ok 1 w) (b len cap h : Nat) (hh : h ≤ cap) :
    (Instr.slice t (.slice (some ⟨b, 0, none⟩) len cap) none (some (.int .i64 (h : Int))) none).run Try.prog W = .ok (.slice (some ⟨b, 0, none⟩) h cap) W := by
  go_simp
theorem size5 (w : World) : (Go.sizeOf 5).run Try.prog w = .ok 1 w := by kernel_rfl
theorem bytes_row {w : World} {g : Nat} {l : List UInt8} (hg : w.heap[g]? = some (.cells (byteCells l).toArray 5 (0, 0))) : Lib.Bytes w g 0 ⟨l.toArray⟩ := by
  intro i hi
  have hi' : i < l.length := by simpa [ByteArray.size] using hi
  simp only [World.cell?, hg]
  simp [byteCells, hi']
  rfl
theorem conv_row {w : World} {g : Nat} {l : List UInt8} (hg : w.heap[g]? = some (.cells (byteCells l).toArray 5 (0, 0))) (f a cap : Nat) (h : f + a ≤ l.length) :
    (convert 34 9 (.slice (some ⟨g, f, none⟩) a cap)).run Try.prog w = .ok (.string ⟨((l.drop f).take a).toArray⟩) w := by
  have := run_convert_window (P := Try.prog) w 34 5 9 Try.underlying34 Try.underlying5 Try.underlying9 g 0 ⟨l.toArray⟩ (bytes_row hg) f a cap (by simpa [ByteArray.size] using h)
  rw [Nat.zero_add] at this
  rw [this]
  congr 2
  apply ByteArray.ext
  apply Array.toList_inj.1
  rw [extract_data]
  simp
theorem ba_append (x y : List UInt8) : ((⟨x.toArray⟩ : ByteArray) ++ (⟨y.toArray⟩ : ByteArray)) = ⟨(x ++ y).toArray⟩ := by
  apply ByteArray.ext
  apply Array.toList_inj.1
  simp
theorem peek_math (l : List UInt8) (f k n a r : Nat) (hl : l.length = n) (hf : f < n) (ha : min (f + k) n = f + a) (hr : k = a + r) :
    (l.drop f).take a ++ (l.drop 0).take r = (l.drop f ++ l).take k := by
  have h2 : (l.drop f).length = n - f := by simp; omega
  rw [List.take_append, h2, List.drop_zero]
  by_cases h : f + k ≤ n
  · obtain rfl : r = 0 := by omega
    rw [show k - (n - f) = 0 by omega, show k = a by omega]
  · rw [List.take_of_length_le (i := a) (by omega), List.take_of_length_le (i := k) (by omega), show k - (n - f) = r by omega]
set_option maxHeartbeats 400000 in
theorem peek_some (b n f c k : Nat) (m : Int) (g : Nat) (l : List UInt8) (w : World) (hb : w.heap[b]? = some (.cells #[.slice (some ⟨g, 0, none⟩) n n, .int .i64 f, .int .i64 c] 39 (0, 0)))
   (hg : w.heap[g]? = some (.cells (byteCells l).toArray 5 (0, 0))) (hl : l.length = n) (hn : n ≤ 10000) (hf : f < n) (hc : c ≤ n) (hm : min m (c : Int) = k) (hk : 0 < k) :
    Calls Try.prog 12 #[.pointer (some ⟨b, 0, none⟩), .int .i64 m] w fun e w' => e = .returned (.string ⟨((l.drop f ++ l).take k).toArray⟩) ∧ ∃ q, w' = w.drewN q := by
  have H := Lib.hid hb
  have Hm := Lib.hid hm
  have hkc : k ≤ c := by omega
  obtain ⟨u, hu⟩ : ∃ u : Nat, min ((f : Int) + k) n = (u : Int) := ⟨min (f + k) n, by omega⟩
  obtain ⟨a, ha⟩ : ∃ a : Nat, u = f + a := ⟨u - f, by omega⟩
  obtain ⟨r, hr⟩ : ∃ r : Nat, k = a + r := ⟨k - a, by omega⟩
  have hS1 : ∀ W : World, (Instr.slice 34 (.slice (some ⟨g, 0, none⟩) n n) (some (.int .i64 (f : Int))) (some (.int .i64 (u : Int))) none).run Try.prog W = .ok (.slice (some ⟨g, f, none⟩) a (n - f)) W := fun W => by
    have := run_slice_window (P := Try.prog) W 34 5 Try.underlying34 size5 g 0 n n f u (by omega) (by omega)
    rw [Nat.zero_add, show u - f = a by omega] at this
    exact this
  have hS2 : ∀ W : World, (Instr.slice 34 (.slice (some ⟨g, 0, none⟩) n n) none (some (.int .i64 (r : Int))) none).run Try.prog W = .ok (.slice (some ⟨g, 0, none⟩) r n) W := fun W => 
    run_slice_hi W 34 5 Try.underlying34 size5 g n n r (by omega)
  have hC1 : ∀ q, (convert 34 9 (.slice (some ⟨g, f, none⟩) a (n - f))).run Try.prog (w.drewN q) = .ok (.string ⟨((l.drop f).take a).toArray⟩) (w.drewN q) := fun q => conv_row (w := w.drewN q) hg _ _ _ (by omega)
  have hC2 : ∀ q, (convert 34 9 (.slice (some ⟨g, 0, none⟩) r n)).run Try.prog (w.drewN q) = .ok (.string ⟨((l.drop 0).take r).toArray⟩) (w.drewN q) := fun q => conv_row (w := w.drewN q) hg _ _ _ (by omega)
  have hM := peek_math l f k n a r hl hf (by omega) hr
  have hM1 := Lib.hid hM
  obtain ⟨X1, hX1⟩ : ∃ X, X = (l.drop f).take a := ⟨_, rfl⟩
  obtain ⟨X2, hX2⟩ : ∃ X, X = (l.drop 0).take r := ⟨_, rfl⟩
  have hXX : X1.length + X2.length < 20000 := by rw [hX1, hX2]; simp; omega
  rw [← hX1] at hC1 hM
  rw [← hX2] at hC2 hM
  rw [← hM]
  have e1 : IntKind.i64.wrap ((f : Int) + (k : Int)) = (f : Int) + k := IntWalk.i64_in _ (by omega)
  have e2 : IntKind.i64.wrap ((k : Int) - (a : Int)) = (r : Int) := by rw [IntWalk.i64_in _ (by omega)]; omega
  have e3 : ((k : Int) - (a : Int)) = (r : Int) := by omega
  have hs : w.cell? ⟨b, 0, none⟩ = some (.slice (some ⟨g, 0, none⟩) n n) := by simp [World.cell?, hb]
  have hf : w.cell? ⟨b, 1, none⟩ = some (.int .i64 f) := by simp [World.cell?, hb]
  clear hb hm hg hM hM1 hX1 hX2 ha hr hl
  have HU := Lib.hid hu
  have E1 := Lib.hid e1
  have E2 := Lib.hid e2
  have E3 := Lib.hid e3
  clear hu e1 e2 e3
  go_enter Try.func12, Try.ntmps12
  go_wp2_with fail
  refine (len_any _ _ _ _ _ _ H.out).mono ?_
  rintro e w' ⟨rfl, rfl⟩
  have hm := Hm.out
  go_wp2
  have hu := HU.out
  have e1 := E1.out
  go_quiet (fail)
  clear hu e1
  have e3 := E3.out
  go_wp2
  go_ret
  exact ⟨congrArg (fun x => Ending.returned (.string x)) (ba_append X1 X2), _, rfl⟩

/-- 'copy(dst, s)' from a string: as many bytes as the shorter of the two has, laid over the row from place o on. -/
theorem run_copy_str {P : Program} (w : World) (dT sT ty elem : TypeId) (g o dLen dCap : Nat) (s : ByteArray) (l : List UInt8) (t : TypeId)
    (hu : P.underlying dT = some (.slice elem)) (hs : (P.info? elem).map (·.size) = some 1) (hg : w.heap[g]? = some (.cells (byteCells l).toArray t (0, 0))) (hfit : o + min s.size dLen ≤ l.length) :
    (Builtin.copy_ #[dT, sT] ty #[.slice (some ⟨g, o, none⟩) dLen dCap, .string s]).run P w =
      .ok (goInt (min s.size dLen : Nat)) (w.setRow g (byteCells (splice l o (s.data.toList.take dLen))).toArray) := by
  have hlen : (byteCells (s.data.toList.take (min s.size dLen))).length = min s.size dLen := by rw [byteCells_length]; simp
  have htk : s.data.toList.take (min s.size dLen) = s.data.toList.take dLen := by
    rw [Nat.min_comm, ← List.take_take, List.take_of_length_le (i := s.size) (by simp)]
  have hst := run_storeCells_at P g o t (byteCells (s.data.toList.take (min s.size dLen))) 0 (byteCells l).toArray w hg (by rw [hlen]; simpa [byteCells_length] using hfit) (byteCells_one _)
  rw [hlen] at hst
  simp only [Nat.add_zero] at hst
  have hrow : (List.take o (byteCells l).toArray.toList ++ byteCells (s.data.toList.take (min s.size dLen)) ++ List.drop (o + min s.size dLen) (byteCells l).toArray.toList) = byteCells (splice l o (s.data.toList.take dLen)) := by
    rw [← htk]
    simp [splice, byteCells, List.map_drop]
  rw [hrow] at hst
  have e2 : List.take (min s.size dLen) (List.map (fun b : UInt8 => Value.int IntKind.u8 ↑b.toNat) s.data.toList) = byteCells (List.take (min s.size dLen) s.data.toList) := by
    simp [byteCells, List.map_take]
  have hmin : Nat.min s.size dLen = min s.size dLen := rfl
  cases hq : P.info? elem with
  | none => simp [hq] at hs
  | some i =>
    simp [Builtin.copy_, run_underlying hu, Builtin.lenOf, Builtin.firstCells, sizeOf, typeInfo, hq, hmin]
    rw [e2, hst]
    simp [Result.andThen]
/-- The world is as it was but for block g. -/
structure But (g : Nat) (w w' : World) : Prop where
  os : w'.os = w.os
  tape : w'.tape = w.tape
  output : w'.output = w.output
  size : w'.heap.size = w.heap.size
  block : ∀ k, k ≠ g → w'.heap[k]? = w.heap[k]?
theorem but_setRow (g : Nat) (w : World) (cs : Array Value) : But g w (w.setRow g cs) := ⟨rfl, rfl, rfl, by simp, fun k hk => setRow_other w g k cs hk⟩
theorem But.below {g B : Nat} {a w w' : World} (h : Below B a w) (hb : But g w w') (hg : B ≤ g) : Below B a w' :=
  h.trans ⟨hb.os, hb.tape, hb.output, by rw [hb.size]; exact Nat.le_refl _, fun k hk => hb.block k (by omega)⟩
theorem wpList_copy_str {P : Program} {w : World} {ops : Array Oper} {rest : List Oper} {o : Oper} {a : Act} {Q : Exit → Act → World → Prop} (hgd : o.guard = none) (d s : Operand) (dT sT : TypeId)
    (ho : o.op = .call { callee := .builtin .copy, args := #[d, s], argTypes := #[dT, sT] }) (elem : TypeId) (hu : P.underlying dT = some (.slice elem)) (hsz : (P.info? elem).map (·.size) = some 1)
    (g off dLen dCap : Nat) (x : ByteArray) (hd : a.eval d = .slice (some ⟨g, off, none⟩) dLen dCap) (hs : a.eval s = .string x)
    (l : List UInt8) (t : TypeId) (hg : w.heap[g]? = some (.cells (byteCells l).toArray t (0, 0))) (hfit : off + min x.size dLen ≤ l.length)
    (h : ∀ w', Hid (w'.heap[g]? = some (.cells (byteCells (splice l off (x.data.toList.take dLen))).toArray t (0, 0))) → Hid (But g w w') → wpList P ops Q rest (a.put o.dst (goInt (min x.size dLen : Nat))) w') :
    wpList P ops Q (o :: rest) a w :=
  Lib.wpList_copy_run w hgd d s dT sT ho _ _ hd hs (run_copy_str w dT sT o.type elem g off dLen dCap x l t hu hsz hg hfit)
    (h _ (setRow_heap w g _ _ t _ hg) (but_setRow _ _ _))
theorem size_one5 : (Try.prog.info? 5).map (·.size) = some 1 := by kernel_rfl
set_option maxHeartbeats 400000 in
theorem put_none (b n f c : Nat) (g : Option Addr) (x : ByteArray) (w : World) (hb : w.heap[b]? = some (.cells #[.slice g n n, .int .i64 f, .int .i64 c] 39 (0, 0))) (hn : n ≤ 10000) (hcn : c ≤ n) (h0 : min x.size (n - c) = 0) :
    Calls Try.prog 10 #[.pointer (some ⟨b, 0, none⟩), .string x] w fun e w' => e = .returned (.int .i64 0) ∧ ∃ q, w' = w.drewN q := by
  have H := Lib.hid hb
  have e0 : min (x.size : Int) ((n - c : Nat) : Int) = 0 := by omega
  have E0 := Lib.hid e0
  clear hb e0 h0
  go_enter Try.func10, Try.ntmps10
  go_wp2_with fail
  refine (room_any _ _ _ _ _ _ H.out hn hcn).mono ?_
  rintro e w' ⟨rfl, q, rfl⟩
  have e0 := E0.out
  go_wp2
  go_ret
  exact ⟨rfl, _, rfl⟩
set_option maxHeartbeats 400000 in
theorem put_nil (x : ByteArray) (w : World) :
    Calls Try.prog 10 #[.pointer none, .string x] w fun e w' => e = .returned (.int .i64 0) ∧ w = w' := by
  have e0 : min (x.size : Int) 0 = 0 := by omega
  go_enter Try.func10, Try.ntmps10
  go_wp2_with fail
  refine (room_nil _).mono ?_
  rintro e w' ⟨rfl, rfl⟩
  go_wp2
  go_ret
  exact ⟨rfl, rfl⟩

theorem run_slice_lo (W : World) (t e : TypeId) (ht : Try.prog.underlying t = some (.slice e)) (hz : ∀ w, (Go.sizeOf e).run Try.prog w = .ok 1 w) (b cap u : Nat) (hu : u < cap) :
    (Instr.slice t (.slice (some ⟨b, 0, none⟩) cap cap) (some (.int .i64 (u : Int))) none none).run Try.prog W = .ok (.slice (some ⟨b, u, none⟩) (cap - u) (cap - u)) W := by
  have ht' : Try.prog.underlying t = some (.slice (Try.prog.elem t)) := by simp [Program.elem, ht]
  have he : Try.prog.elem t = e := by simp [Program.elem, ht]
  rw [run_slice_l W t _ _ _ ht' .i64 _ (by omega) (by omega), he, hz]
  have hne : ¬ cap = u := by omega
  by_cases h0 : u = 0
  · subst h0
    simp [Result.andThen, sliced, Addr.add, hne]
  · simp [Result.andThen, sliced, Addr.add, hne, h0]
theorem slice_str_hi (x : ByteArray) (k : Nat) (hk : k ≤ x.size) (W : World) : (Instr.slice 9 (.string x) none (some (.int .i64 (k : Int))) none).run Try.prog W = .ok (.string (x.extract 0 k)) W := by
  rw [run_slice_string_h W 9 x Try.underlying9 .i64 _ (by omega) (by omega)]
  simp
theorem slice_str_lh (x : ByteArray) (a k : Nat) (ha : a ≤ k) (hk : k ≤ x.size) (W : World) : (Instr.slice 9 (.string x) (some (.int .i64 (a : Int))) (some (.int .i64 (k : Int))) none).run Try.prog W = .ok (.string (x.extract a k)) W := by
  rw [run_slice_string W 9 x .i64 .i64 _ _ Try.underlying9 (by omega) (by omega) (by omega)]
  simp

theorem drews3 (w : World) (q nq : Nat) : ((w.drewN q).drewN nq).drew = w.drewN (q + nq + 1) := by
  simp only [World.drewN, World.drew, Nat.add_assoc]
/-- THE BYTES of a ring: c of the row's, from place f on, round the end. -/
def held (l : List UInt8) (f c : Nat) : List UInt8 := (l.drop f ++ l).take c
theorem mod_two {a n : Nat} (h : a < 2 * n) : a % n = if a < n then a else a - n := by
  split
  · exact Nat.mod_eq_of_lt ‹_›
  · rw [Nat.mod_eq_sub_mod (by omega), Nat.mod_eq_of_lt (by omega)]
theorem held_length (l : List UInt8) (f c : Nat) (hc : c ≤ l.length) : (held l f c).length = c := by
  simp [held]; omega
theorem held_get (l : List UInt8) (f c i : Nat) (hf : f < l.length) (hc : c ≤ l.length) (hi : i < c) : (held l f c)[i]? = l[(f + i) % l.length]? := by
  unfold held
  rw [List.getElem?_take_of_lt hi, mod_two (by omega)]
  have h2 : (l.drop f).length = l.length - f := by simp
  by_cases h : i < l.length - f
  · rw [List.getElem?_append_left (by omega), List.getElem?_drop, if_pos (by omega)]
  · rw [List.getElem?_append_right (by omega), if_neg (by omega)]
    congr 1
    omega
theorem held_drop (l : List UInt8) (f c k : Nat) (hf : f < l.length) (hc : c ≤ l.length) (hk : k ≤ c) : held l ((f + k) % l.length) (c - k) = (held l f c).drop k := by
  have hm : (f + k) % l.length < l.length := Nat.mod_lt _ (by omega)
  apply List.ext_getElem?
  intro i
  by_cases hi : i < c - k
  · rw [held_get _ _ _ _ hm (by omega) hi, List.getElem?_drop, held_get _ _ _ _ hf hc (by omega), Nat.mod_add_mod, Nat.add_assoc]
  · rw [List.getElem?_eq_none (by rw [held_length _ _ _ (by omega)]; omega), List.getElem?_eq_none (by rw [List.length_drop, held_length _ _ _ hc]; omega)]
theorem splice_get (L : List UInt8) (off : Nat) (cs : List UInt8) (h : off + cs.length ≤ L.length) (j : Nat) :
    (splice L off cs)[j]? = if j < off then L[j]? else if j < off + cs.length then cs[j - off]? else L[j]? := by
  unfold splice
  have h1 : (L.take off).length = off := by simp; omega
  by_cases a : j < off
  · rw [if_pos a, List.getElem?_append_left (by omega), List.getElem?_take_of_lt a]
  · rw [if_neg a, List.getElem?_append_right (by omega), h1]
    by_cases b : j < off + cs.length
    · rw [if_pos b, List.getElem?_append_left (by omega)]
    · rw [if_neg b, List.getElem?_append_right (by omega), List.getElem?_drop]
      congr 1
      omega
/-- The row behind Put. -/
def laidOver (l y : List UInt8) (u : Nat) : List UInt8 := splice (splice l u (y.take (l.length - u))) 0 (y.drop (min y.length (l.length - u)))
theorem laidOver_length (l y : List UInt8) (u : Nat) (hu : u < l.length) (hy : y.length ≤ l.length) : (laidOver l y u).length = l.length := by
  have e : (splice l u (y.take (l.length - u))).length = l.length := length_splice _ _ _ (by simp; omega)
  unfold laidOver
  rw [length_splice _ _ _ (by rw [e]; simp; omega), e]
theorem laidOver_get (l y : List UInt8) (u j : Nat) (hu : u < l.length) (hy : y.length ≤ l.length) :
    (laidOver l y u)[j]? = if j + l.length < u + y.length then y[j + l.length - u]? else if u ≤ j ∧ j < u + y.length ∧ j < l.length then y[j - u]? else l[j]? := by
  have e1 : (y.take (l.length - u)).length = min (l.length - u) y.length := by simp
  have e2 : (y.drop (min y.length (l.length - u))).length = y.length - min y.length (l.length - u) := by simp
  have e : (splice l u (y.take (l.length - u))).length = l.length := length_splice _ _ _ (by simp; omega)
  unfold laidOver
  rw [splice_get _ _ _ (by rw [e2, e]; omega), if_neg (by omega), e2]
  by_cases h : j + l.length < u + y.length
  · rw [if_pos h, if_pos (by omega), List.getElem?_drop]
    congr 1
    omega
  · rw [if_neg h, if_neg (by omega), splice_get _ _ _ (by rw [e1]; omega), e1]
    by_cases h3 : u ≤ j ∧ j < u + y.length ∧ j < l.length
    · rw [if_pos h3, if_neg (by omega), if_pos (by omega), List.getElem?_take_of_lt (by omega)]
    · rw [if_neg h3]
      by_cases h4 : j < u
      · rw [if_pos h4]
      · rw [if_neg h4, if_neg (by omega)]
theorem mod_parts {a n : Nat} (h : a < 2 * n) : ∃ p, a % n = p ∧ (a < n ∧ p = a ∨ n ≤ a ∧ p = a - n) := by
  rw [mod_two h]
  by_cases h : a < n
  · exact ⟨a, if_pos h, Or.inl ⟨h, rfl⟩⟩
  · exact ⟨a - n, if_neg h, Or.inr ⟨by omega, rfl⟩⟩
theorem held_put (l y : List UInt8) (f c : Nat) (hf : f < l.length) (hc : c + y.length ≤ l.length) :
    held (laidOver l y ((f + c) % l.length)) f (c + y.length) = held l f c ++ y := by
  have hu : (f + c) % l.length < l.length := Nat.mod_lt _ (by omega)
  by_cases hcn : c = l.length
  · have : y = [] := List.eq_nil_of_length_eq_zero (by omega)
    subst this
    simp [laidOver, splice]
  obtain ⟨u, eu, hup⟩ := mod_parts (a := f + c) (n := l.length) (by omega)
  rw [eu] at hu ⊢
  have hL := laidOver_length l y _ hu (by omega)
  apply List.ext_getElem?
  intro i
  by_cases hi : i < c + y.length
  · rw [held_get _ _ _ _ (by omega) (by omega) hi, hL]
    obtain ⟨p, ep, hpp⟩ := mod_parts (a := f + i) (n := l.length) (by omega)
    rw [ep, laidOver_get _ _ _ _ hu (by omega)]
    by_cases h : i < c
    · rw [List.getElem?_append_left (by rw [held_length _ _ _ (by omega)]; exact h), held_get _ _ _ _ hf (by omega) h, ep, if_neg (by omega), if_neg (by omega)]
    · rw [List.getElem?_append_right (by rw [held_length _ _ _ (by omega)]; omega), held_length _ _ _ (by omega)]
      by_cases h5 : p + l.length < u + y.length
      · rw [if_pos h5]
        congr 1
        omega
      · rw [if_neg h5, if_pos (by omega)]
        congr 1
        omega
  · rw [List.getElem?_eq_none (by rw [held_length _ _ _ (by omega)]; omega), List.getElem?_eq_none (by rw [List.length_append, held_length _ _ _ (by omega)]; omega)]
/-- What Put leaves: k bytes are laid over the row from the end on, round the row's end. -/
structure PutPost (b g n f c k : Nat) (l : List UInt8) (x : ByteArray) (w w' : World) : Prop where
  hb : w'.heap[b]? = some (.cells #[.slice (some ⟨g, 0, none⟩) n n, .int .i64 f, .int .i64 (c + k : Nat)] 39 (0, 0))
  hg : w'.heap[g]? = some (.cells (byteCells (splice (splice l ((f + c) % n) ((x.data.toList.take k).take (n - (f + c) % n))) 0 ((x.data.toList.take k).drop (min k (n - (f + c) % n))))).toArray 5 (0, 0))
  below : ∀ B w0, Below B w0 w → B ≤ b → B ≤ g → Below B w0 w'
  only : ∀ k, k ≠ b → k ≠ g → w'.heap[k]? = w.heap[k]?
theorem but_cell {g : Nat} {w w' : World} (h : But g w w') {p : Addr} (hp : p.block ≠ g) : w'.cell? p = w.cell? p := World.cell?_of_block (w := w) (h.block p.block hp)
theorem but_frozen {g : Nat} {w w' : World} (h : But g w w') {p : Addr} (hp : p.block ≠ g) : w'.frozen? p = w.frozen? p := World.frozen?_of_block (w := w) (h.block p.block hp)
theorem ext_list (x : ByteArray) (a k : Nat) : (x.extract a k).data.toList = (x.data.toList.take k).drop a := by
  rw [extract_data, List.drop_take]
theorem put_post (b g n f c k u a : Nat) (l : List UInt8) (x x1 x2 : ByteArray) (w w0 w1 w2 w2' w3 : World) (hgb : b ≠ g) (hu : u = (f + c) % n) (ha : a = min k (n - u)) (hz2 : x2.size = k - a) (hkn : k ≤ n)
    (hx1 : x1 = x.extract 0 k) (hx2 : x2 = x.extract a k)
    (hb : w.heap[b]? = some (.cells #[.slice (some ⟨g, 0, none⟩) n n, .int .i64 f, .int .i64 c] 39 (0, 0)))
    (h0 : ∃ q, w0 = w.drewN q) (h1 : But g w0 w1) (h2 : But g w2 w3) (h12 : ∃ q, w2 = w1.drewN q) (h3 : w2' = w3.setCell ⟨b, 2, none⟩ (.int .i64 ((c : Int) + k)))
    (hg3 : w3.heap[g]? = some (.cells (byteCells (splice (splice l u (x1.data.toList.take (n - u))) 0 (x2.data.toList.take n))).toArray 5 (0, 0))) : PutPost b g n f c k l x w w2' := by
  obtain ⟨q0, rfl⟩ := h0
  obtain ⟨q1, rfl⟩ := h12
  subst h3
  have hb3 : w3.heap[b]? = some (.cells #[.slice (some ⟨g, 0, none⟩) n n, .int .i64 f, .int .i64 c] 39 (0, 0)) := (h2.block b hgb).trans ((h1.block b hgb).trans hb)
  have e2 : x2.data.toList.take n = x2.data.toList := List.take_of_length_le (by simp [hz2]; omega)
  rw [e2, hx1, hx2, ext_list, ext_list, List.drop_zero, hu] at hg3
  rw [hu] at ha
  refine ⟨?_, ?_, ?_, ?_⟩
  · have := heap_setCell_same w3 b 2 _ _ (.int .i64 ((c : Int) + k)) hb3
    rw [this]
    rfl
  · rw [Below.heap_setCell _ _ _ _ (by exact Ne.symm hgb), hg3, ha]
  · intro B W hB hBb hBg
    have g1 : Below B W w1 := But.below (w := w.drewN q0) ⟨hB.os, hB.tape, hB.output, hB.size, hB.block⟩ h1 hBg
    have g2 : Below B W w3 := But.below (w := w1.drewN q1) ⟨g1.os, g1.tape, g1.output, g1.size, g1.block⟩ h2 hBg
    exact g2.setCell hBb _
  · intro k hkb hkg
    rw [Below.heap_setCell _ _ _ _ (by exact hkb)]
    exact (h2.block k hkg).trans (h1.block k hkg)
set_option maxHeartbeats 1000000 in
theorem put_some (b n f c k g : Nat) (l : List UInt8) (x : ByteArray) (w : World) (hb : w.heap[b]? = some (.cells #[.slice (some ⟨g, 0, none⟩) n n, .int .i64 f, .int .i64 c] 39 (0, 0)))
    (hg : w.heap[g]? = some (.cells (byteCells l).toArray 5 (0, 0))) (hgb : b ≠ g) (hl : l.length = n) (hf : f < n) (hn : n ≤ 10000) (hcn : c ≤ n) (hk : min x.size (n - c) = k) (hk0 : 0 < k) :
    Calls Try.prog 10 #[.pointer (some ⟨b, 0, none⟩), .string x] w fun e w' => e = .returned (.int .i64 k) ∧ PutPost b g n f c k l x w w' := by
  have H := Lib.hid hb
  have HG := Lib.hid hg
  have e0 : min (x.size : Int) ((n - c : Nat) : Int) = k := by omega
  obtain ⟨u, hu⟩ : ∃ u, u = (f + c) % n := ⟨_, rfl⟩
  have hun : u < n := by rw [hu]; exact Nat.mod_lt _ (by omega)
  have e1 : IntKind.i64.wrap ((f : Int) + (c : Int)) = (f : Int) + c := IntWalk.i64_in _ (by omega)
  have e2 : ¬ n = 0 := by omega
  have e3 : ((f : Int) + c).tmod n = (u : Int) := by rw [hu, Int.tmod_eq_emod_of_nonneg (by omega)]; simp
  have hs : w.cell? ⟨b, 0, none⟩ = some (.slice (some ⟨g, 0, none⟩) n n) := by simp [World.cell?, hb]
  have hf : w.cell? ⟨b, 1, none⟩ = some (.int .i64 f) := by simp [World.cell?, hb]
  have hc : w.cell? ⟨b, 2, none⟩ = some (.int .i64 c) := by simp [World.cell?, hb]
  have hkx : k ≤ x.size := by omega
  obtain ⟨x1, hx1⟩ : ∃ y, y = x.extract 0 k := ⟨_, rfl⟩
  have hS1 : ∀ W : World, (Instr.slice 34 (.slice (some ⟨g, 0, none⟩) n n) (some (.int .i64 (u : Int))) none none).run Try.prog W = .ok (.slice (some ⟨g, u, none⟩) (n - u) (n - u)) W := fun W =>
    run_slice_lo W 34 5 Try.underlying34 size5 g n u hun
  have hX1 := slice_str_hi x k hkx
  rw [← hx1] at hX1
  have hz1 : x1.size = k := by rw [hx1]; simp; omega
  obtain ⟨a, ha⟩ : ∃ a, a = min k (n - u) := ⟨_, rfl⟩
  obtain ⟨x2, hx2⟩ : ∃ y, y = x.extract a k := ⟨_, rfl⟩
  have hX2 := slice_str_lh x a k (by omega) hkx
  rw [← hx2] at hX2
  have hz2 : x2.size = k - a := by rw [hx2]; simp; omega
  have E0 := Lib.hid e0
  have HL := Lib.hid hl
  have HZ1 := Lib.hid hz1
  have HZ2 := Lib.hid hz2
  have HA := Lib.hid ha
  have E1 := Lib.hid e1
  have E2 := Lib.hid e2
  have E3 := Lib.hid e3
  have HQ : Hid (∀ w0 w1 w2 w3 w2', But g w0 w1 → But g w2 w3 → (∃ q, w0 = w.drewN q) → (∃ q, w2 = w1.drewN q) → w2' = w3.setCell ⟨b, 2, none⟩ (.int .i64 ((c : Int) + k)) →
      w3.heap[g]? = some (.cells (byteCells (splice (splice l u (x1.data.toList.take (n - u))) 0 (x2.data.toList.take n))).toArray 5 (0, 0)) → PutPost b g n f c k l x w w2') :=
    fun w0 w1 w2 w3 w2' h1 h2 h0 h12 h3 hg3 => put_post b g n f c k u a l x x1 x2 w w0 w1 w2 w2' w3 hgb hu ha hz2 (by omega) hx1 hx2 hb h0 h1 h2 h12 h3 hg3
  have hz : w.frozen? ⟨b, 2, none⟩ = false := by simp [World.frozen?, hb]
  have hln : (splice l u (x1.data.toList.take (n - u))).length = n := by rw [length_splice _ _ _ (by simp; omega), hl]
  have HLN := Lib.hid hln
  have han : a ≤ n := by omega
  clear hb hg e0 e1 e2 e3 hl hk hu hz1 hx1 hx2 ha hz2 hln
  go_enter Try.func10, Try.ntmps10
  go_wp2_with fail
  refine (room_any _ _ _ _ _ _ H.out hn hcn).mono ?_
  rintro e w' ⟨rfl, q, rfl⟩
  have e0 := E0.out
  go_wp2
  have e1 := E1.out
  have e2 := E2.out
  have e3 := E3.out
  go_quiet (fail)
  clear e1 e2 e3
  go_wp2
  refine wp_region_tail 9 (by kernel_rfl) (by kernel_rfl) ?_
  simp only [List.take_succ_cons, List.take_zero, List.drop_succ_cons, List.drop_zero]
  repeat still_step
  refine wpStill_nil ?_
  refine wpList_copy_str rfl _ _ _ _ rfl 5 Try.underlying34 size_one5 g u _ _ x1 rfl rfl l 5 HG.out (by rw [HL.out, HZ1.out]; omega) ?_
  intro w1 HG1 HB1
  rw [HZ1.out, ← HA.out]
  have hs1 : w1.cell? ⟨b, 0, none⟩ = some (.slice (some ⟨g, 0, none⟩) n n) := by rw [but_cell HB1.out hgb]; simpa using hs
  have hc1 : w1.cell? ⟨b, 2, none⟩ = some (.int .i64 c) := by rw [but_cell HB1.out hgb]; simpa using hc
  have hz1 : w1.frozen? ⟨b, 2, none⟩ = false := by rw [but_frozen HB1.out hgb]; simpa using hz
  go_wp2
  refine wp_region_tail 8 (by kernel_rfl) (by kernel_rfl) ?_
  simp only [List.take_succ_cons, List.take_zero, List.drop_succ_cons, List.drop_zero]
  repeat still_step
  refine wpStill_nil ?_
  refine wpList_copy_str rfl _ _ _ _ rfl 5 Try.underlying34 size_one5 g 0 _ _ x2 rfl rfl _ 5 HG1.out (by rw [HLN.out, HZ2.out]; omega) ?_
  intro w2 HG2 HB2
  have hc2 : w2.cell? ⟨b, 2, none⟩ = some (.int .i64 c) := by rw [but_cell HB2.out hgb]; simpa using hc1
  have hz2 : w2.frozen? ⟨b, 2, none⟩ = false := by rw [but_frozen HB2.out hgb]; simpa using hz1
  go_wp2
  go_ret
  exact ⟨rfl, HQ.out _ w1 _ w2 _ HB1.out HB2.out ⟨_, drews3 _ _ _⟩ ⟨1, rfl⟩ rfl HG2.out⟩

-- ==== the ring as its bytes
/-- THE RING at block b: room for n bytes in all, h are there; both its blocks lie from B on. -/
def RingIs (B : Nat) (w : World) (b n : Nat) (h : List UInt8) : Prop := ∃ g l f, B ≤ b ∧ B ≤ g ∧ b ≠ g ∧ w.heap[b]? = some (.cells #[.slice (some ⟨g, 0, none⟩) n n, .int .i64 (f : Nat), .int .i64 h.length] 39 (0, 0)) ∧
  w.heap[g]? = some (.cells (byteCells l).toArray 5 (0, 0)) ∧ l.length = n ∧ n ≤ 10000 ∧ h.length ≤ n ∧ (0 < n → f < n) ∧ held l f h.length = h
/-- .. and both its blocks lie below L. -/
def RingL (B L : Nat) (w : World) (b n : Nat) (h : List UInt8) : Prop := ∃ g l f, B ≤ b ∧ B ≤ g ∧ b ≠ g ∧ w.heap[b]? = some (.cells #[.slice (some ⟨g, 0, none⟩) n n, .int .i64 (f : Nat), .int .i64 h.length] 39 (0, 0)) ∧
  w.heap[g]? = some (.cells (byteCells l).toArray 5 (0, 0)) ∧ l.length = n ∧ n ≤ 10000 ∧ h.length ≤ n ∧ (0 < n → f < n) ∧ held l f h.length = h ∧ b < L ∧ g < L
theorem RingL.is {B L b n : Nat} {h : List UInt8} {w : World} (r : RingL B L w b n h) : RingIs B w b n h := by
  obtain ⟨g, l, f, h1, h2, h3, h4, h5, h6, h7, h8, h9, h10, _⟩ := r
  exact ⟨g, l, f, h1, h2, h3, h4, h5, h6, h7, h8, h9, h10⟩
theorem RingIs.isL {B b n : Nat} {h : List UInt8} {w : World} (r : RingIs B w b n h) : ∃ L, RingL B L w b n h := by
  obtain ⟨g, l, f, h1, h2, h3, h4, h5, h6, h7, h8, h9, h10⟩ := r
  exact ⟨b + g + 1, g, l, f, h1, h2, h3, h4, h5, h6, h7, h8, h9, h10, by omega, by omega⟩
theorem RingL.drewN {B L b n : Nat} {h : List UInt8} {w : World} (r : RingL B L w b n h) (q : Nat) : RingL B L (w.drewN q) b n h := r
/-- Only blocks from B to L may have turned. -/
structure Keep (B L : Nat) (w w' : World) : Prop where
  below : Below B w w'
  above : ∀ k, L ≤ k → w'.heap[k]? = w.heap[k]?
theorem Keep.refl (B L : Nat) (w : World) : Keep B L w w := ⟨Below.refl _ _, fun _ _ => rfl⟩
theorem Keep.trans {B L : Nat} {a b c : World} (h : Keep B L a b) (k : Keep B L b c) : Keep B L a c := ⟨h.below.trans k.below, fun i hi => (k.above i hi).trans (h.above i hi)⟩
theorem Keep.drewN {B L : Nat} {a w : World} (h : Keep B L a w) (n : Nat) : Keep B L a (w.drewN n) := ⟨⟨h.below.os, h.below.tape, h.below.output, h.below.size, h.below.block⟩, h.above⟩
theorem Keep.cell {B L : Nat} {w w' : World} (h : Keep B L w w') {p : Addr} (hp : L ≤ p.block) : w'.cell? p = w.cell? p := World.cell?_of_block (w := w) (h.above p.block hp)
theorem Keep.frozen {B L : Nat} {w w' : World} (h : Keep B L w w') {p : Addr} (hp : L ≤ p.block) : w'.frozen? p = w.frozen? p := World.frozen?_of_block (w := w) (h.above p.block hp)
theorem RingL.keep {B L b n : Nat} {h : List UInt8} {w w' : World} (r : RingL B L w b n h) (hb : Below w.heap.size w w') : RingL B L w' b n h := by
  obtain ⟨g, l, f, h1, h2, h3, h4, h5, r⟩ := r
  exact ⟨g, l, f, h1, h2, h3, (hb.block b (Array.getElem?_eq_some_iff.1 h4).1).trans h4, (hb.block g (Array.getElem?_eq_some_iff.1 h5).1).trans h5, r⟩
theorem RingIs.drewN {B b n : Nat} {h : List UInt8} {w : World} (r : RingIs B w b n h) (q : Nat) : RingIs B (w.drewN q) b n h := r
theorem RingIs.drew {B b n : Nat} {h : List UInt8} {w : World} (r : RingIs B w b n h) : RingIs B w.drew b n h := r
theorem RingIs.kept {B b n : Nat} {h : List UInt8} {w w' : World} (r : RingIs B w b n h) (hb : Below w.heap.size w w') : RingIs B w' b n h := by
  obtain ⟨g, l, f, h1, h2, h3, h4, h5, r⟩ := r
  exact ⟨g, l, f, h1, h2, h3, (hb.block b (Array.getElem?_eq_some_iff.1 h4).1).trans h4, (hb.block g (Array.getElem?_eq_some_iff.1 h5).1).trans h5, r⟩
theorem RingIs.le {B b n : Nat} {h : List UInt8} {w : World} (r : RingIs B w b n h) : h.length ≤ n ∧ n ≤ 10000 := by
  obtain ⟨g, l, f, _, _, _, _, _, _, h1, h2, _⟩ := r
  exact ⟨h2, h1⟩
theorem RingIs.low {B B' b n : Nat} {h : List UInt8} {w : World} (r : RingIs B w b n h) (hB : B' ≤ B) : RingIs B' w b n h := by
  obtain ⟨g, l, f, h1, h2, r⟩ := r
  exact ⟨g, l, f, by omega, by omega, r⟩
theorem below_drewN {B : Nat} {a w : World} (h : Below B a w) (n : Nat) : Below B a (w.drewN n) := ⟨h.os, h.tape, h.output, h.size, h.block⟩
theorem ringL_new (room : Int) (n : Nat) (w : World) (hn : min (max room 0) 10000 = (n : Int)) :
    Calls Try.prog 9 #[.int .i64 room] w fun e w' => e = .returned (.pointer (some ⟨w.heap.size + 1, 0, none⟩)) ∧ RingL w.heap.size (w.heap.size + 2) w' (w.heap.size + 1) n [] ∧ Below w.heap.size w w' := by
  refine (new_any room n w (by omega) hn).mono ?_
  rintro e w' ⟨rfl, rfl⟩
  refine ⟨rfl, ⟨w.heap.size, List.replicate n 0, 0, by omega, by omega, by omega, ?_, ?_, by simp, by omega, by simp, id, by simp [held], by omega, by omega⟩, ((Below.refl _ _).alloc (Nat.le_refl _) _).alloc (by simp) _⟩
  · show ((w.heap.push _).push _)[_]? = _
    simp only [Array.getElem?_push, Array.size_push]
    rw [if_pos trivial]
    rfl
  · show ((w.heap.push _).push _)[_]? = _
    simp only [Array.getElem?_push, Array.size_push]
    rw [if_neg (by omega), if_pos trivial]
theorem ring_new (room : Int) (n : Nat) (w : World) (hn : min (max room 0) 10000 = (n : Int)) :
    Calls Try.prog 9 #[.int .i64 room] w fun e w' => e = .returned (.pointer (some ⟨w.heap.size + 1, 0, none⟩)) ∧ RingIs w.heap.size w' (w.heap.size + 1) n [] ∧ Below w.heap.size w w' :=
  (ringL_new room n w hn).mono fun _ _ ⟨he, r, hk⟩ => ⟨he, r.is, hk⟩
theorem ring_len {B b n : Nat} {h : List UInt8} {w : World} (r : RingIs B w b n h) :
    Calls Try.prog 14 #[.pointer (some ⟨b, 0, none⟩)] w fun e w' => e = .returned (.int .i64 h.length) ∧ w = w' := by
  obtain ⟨g, l, f, h1, h2, h3, h4, h5, r⟩ := r
  exact len_any b n f h.length _ w h4
theorem ring_room {B b n : Nat} {h : List UInt8} {w : World} (r : RingIs B w b n h) :
    Calls Try.prog 15 #[.pointer (some ⟨b, 0, none⟩)] w fun e w' => e = .returned (.int .i64 (n - h.length : Nat)) ∧ ∃ q, w' = w.drewN q := by
  obtain ⟨g, l, f, h1, h2, h3, h4, h5, h6, h7, h8, h9⟩ := r
  exact room_any b n f h.length _ w h4 h7 h8
theorem ring_peek {B b n : Nat} {h : List UInt8} {w : World} (r : RingIs B w b n h) (m : Int) :
    Calls Try.prog 12 #[.pointer (some ⟨b, 0, none⟩), .int .i64 m] w fun e w' => e = .returned (.string ⟨(h.take m.toNat).toArray⟩) ∧ ∃ q, w' = w.drewN q := by
  obtain ⟨g, l, f, h1, h2, h3, h4, h5, h6, h7, h8, h9, h10⟩ := r
  by_cases h0 : m ≤ 0 ∨ h.length = 0
  · refine (peek_none b n f h.length m _ w h4 h0).mono ?_
    rintro e w' ⟨rfl, rfl⟩
    have : h.take m.toNat = [] := by rcases h0 with h0 | h0 <;> simp <;> first | omega | (right; exact List.eq_nil_of_length_eq_zero h0)
    rw [this]
    exact ⟨rfl, 0, rfl⟩
  · refine (peek_some b n f h.length (min m.toNat h.length) m g l w h4 h5 h6 h7 (h9 (by omega)) h8 (by omega) (by omega)).mono ?_
    rintro e w' ⟨rfl, q⟩
    have : (l.drop f ++ l).take (min m.toNat h.length) = h.take m.toNat := by
      rw [← List.take_take]
      show (held l f h.length).take m.toNat = _
      rw [h10]
    rw [this]
    exact ⟨rfl, q⟩
theorem ringL_drop {B L b n : Nat} {h : List UInt8} {w : World} (r : RingL B L w b n h) (k : Nat) (hk : k ≤ h.length) :
    Calls Try.prog 16 #[.pointer (some ⟨b, 0, none⟩), .int .i64 k] w fun e w' => e = .returned (.tuple #[]) ∧ RingL B L w' b n (h.drop k) ∧ Keep B L w w' := by
  by_cases h0 : k = 0
  · subst h0
    refine (drop_zero _ w).mono ?_
    rintro e w' ⟨rfl, rfl⟩
    exact ⟨rfl, r, Keep.refl _ _ _⟩
  · obtain ⟨g, l, f, h1, h2, h3, h4, h5, h6, h7, h8, h9, h10, h11, h12⟩ := r
    refine (drop_any b n f h.length k _ w h4 h7 h8 hk (by omega) (h9 (by omega))).mono ?_
    rintro e w' ⟨rfl, rfl⟩
    have hm : (f + k) % n < n := Nat.mod_lt _ (by omega)
    refine ⟨rfl, ⟨g, l, (f + k) % n, h1, h2, h3, ?_, ?_, h6, h7, by simp; omega, fun _ => hm, ?_, h11, h12⟩, ?_⟩
    · have e1 := heap_setCell_same w b 1 _ _ (.int .i64 (((f : Int) + k) % n)) h4
      have e2 := heap_setCell_same _ b 2 _ _ (.int .i64 ((h.length : Int) - k)) e1
      refine Eq.trans e2 ?_
      congr 2
      simp
      omega
    · show ((w.setCell ⟨b, 1, none⟩ _).setCell ⟨b, 2, none⟩ _).heap[g]? = _
      rw [Below.heap_setCell _ _ _ _ (Ne.symm h3), Below.heap_setCell _ _ _ _ (Ne.symm h3)]
      exact h5
    · rw [List.length_drop]
      subst h6
      rw [held_drop _ _ _ _ (h9 (by omega)) h8 hk, h10]
    · refine ⟨(((Below.refl _ _).setCell (p := ⟨b, 1, none⟩) h1 _).setCell (p := ⟨b, 2, none⟩) h1 _).drew, fun k hk => ?_⟩
      show ((w.setCell ⟨b, 1, none⟩ _).setCell ⟨b, 2, none⟩ _).heap[k]? = _
      rw [Below.heap_setCell _ _ _ _ (by show k ≠ b; omega), Below.heap_setCell _ _ _ _ (by show k ≠ b; omega)]
theorem ringL_put {B L b n : Nat} {h : List UInt8} {w : World} (r : RingL B L w b n h) (x : ByteArray) :
    Calls Try.prog 10 #[.pointer (some ⟨b, 0, none⟩), .string x] w fun e w' => e = .returned (.int .i64 (min x.size (n - h.length) : Nat)) ∧ RingL B L w' b n (h ++ x.data.toList.take (n - h.length)) ∧ Keep B L w w' := by
  obtain ⟨g, l, f, h1, h2, h3, h4, h5, h6, h7, h8, h9, h10, h11, h12⟩ := r
  by_cases h0 : min x.size (n - h.length) = 0
  · refine (put_none b n f h.length _ x w h4 h7 h8 h0).mono ?_
    rintro e w' ⟨rfl, q, rfl⟩
    have : x.data.toList.take (n - h.length) = [] := by
      apply List.eq_nil_of_length_eq_zero
      have hs : x.data.toList.length = x.size := by simp
      rw [List.length_take]
      omega
    rw [this, h0, List.append_nil]
    exact ⟨rfl, ⟨g, l, f, h1, h2, h3, h4, h5, h6, h7, h8, h9, h10, h11, h12⟩, (Keep.refl _ _ _).drewN _⟩
  · obtain ⟨k, hk⟩ : ∃ k, min x.size (n - h.length) = k := ⟨_, rfl⟩
    refine (put_some b n f h.length k g l x w h4 h5 h3 h6 (h9 (by omega)) h7 h8 hk (by omega)).mono ?_
    rintro e w' ⟨rfl, hp⟩
    have hx : x.data.toList.take (n - h.length) = x.data.toList.take k := by
      rw [← hk, Nat.min_comm, ← List.take_take, List.take_of_length_le (i := x.size) (by simp)]
    have hxl : (x.data.toList.take k).length = k := by
      have hs : x.data.toList.length = x.size := by simp
      rw [List.length_take]
      omega
    rw [hk, hx]
    have hpg := hp.hg
    have hpb := hp.hb
    have hpw : Keep B L w w' := ⟨hp.below B w (Below.refl _ _) h1 h2, fun k hk => hp.only k (by omega) (by omega)⟩
    clear hp hx
    generalize x.data.toList.take k = y at *
    subst hxl
    refine ⟨rfl, ⟨g, laidOver l y ((f + h.length) % n), f, h1, h2, h3, ?_, ?_, ?_, h7, by simp; omega, h9, ?_, h11, h12⟩, hpw⟩
    · rw [hpb]
      simp
    · subst h6
      exact hpg
    · rw [laidOver_length _ _ _ (by rw [h6]; exact Nat.mod_lt _ (by omega)) (by omega), h6]
    · subst h6
      rw [List.length_append, held_put _ _ _ _ (h9 (by omega)) (by omega), h10]
set_option maxHeartbeats 400000 in
theorem ringL_take {B L b n : Nat} {h : List UInt8} {w : World} (r : RingL B L w b n h) (m : Int) :
    Calls Try.prog 11 #[.pointer (some ⟨b, 0, none⟩), .int .i64 m] w fun e w' => e = .returned (.string ⟨(h.take m.toNat).toArray⟩) ∧ RingL B L w' b n (h.drop m.toNat) ∧ Keep B L w w' := by
  have hle := r.is.le
  obtain ⟨y, hy⟩ : ∃ y, y = h.take m.toNat := ⟨_, rfl⟩
  have hyl : y.length ≤ h.length := by rw [hy]; simp; omega
  have hd : h.drop m.toNat = h.drop y.length := by
    rw [hy, List.length_take]
    by_cases hc : m.toNat ≤ h.length
    · rw [Nat.min_eq_left hc]
    · rw [Nat.min_eq_right (by omega), List.drop_of_length_le (by omega), List.drop_of_length_le (by omega)]
  rw [← hy, hd]
  have HP : ∀ w, RingL B L w b n h → Calls Try.prog 12 #[.pointer (some ⟨b, 0, none⟩), .int .i64 m] w fun e w' => e = .returned (.string ⟨y.toArray⟩) ∧ ∃ q, w' = w.drewN q := fun w r => by rw [hy]; exact ring_peek r.is m
  have HH := Lib.hid HP
  clear hy hd HP
  go_enter Try.func11, Try.ntmps11
  go_wp2_with fail
  refine (HH.out _ r).mono ?_
  rintro e w' ⟨rfl, q, rfl⟩
  go_wp2_with fail
  refine (ringL_drop (r.drewN q) y.length hyl).mono ?_
  rintro e w' ⟨rfl, r', hb⟩
  go_wp2
  go_ret
  exact ⟨rfl, r', ((Keep.refl _ _ _).drewN q).trans hb⟩
set_option maxHeartbeats 400000 in
theorem ringL_clear {B L b n : Nat} {h : List UInt8} {w : World} (r : RingL B L w b n h) :
    Calls Try.prog 13 #[.pointer (some ⟨b, 0, none⟩)] w fun e w' => e = .returned (.int .i64 h.length) ∧ RingL B L w' b n [] ∧ Keep B L w w' := by
  have hd : h.drop h.length = [] := by simp
  rw [← hd]
  clear hd
  go_enter Try.func13, Try.ntmps13
  go_wp2_with fail
  refine (ring_len r.is).mono ?_
  rintro e w' ⟨rfl, rfl⟩
  go_wp2_with fail
  refine (ringL_drop r h.length (Nat.le_refl _)).mono ?_
  rintro e w' ⟨rfl, r', hb⟩
  go_wp2
  go_ret
  exact ⟨rfl, r', hb⟩

theorem ring_put {B b n : Nat} {h : List UInt8} {w : World} (r : RingIs B w b n h) (x : ByteArray) :
    Calls Try.prog 10 #[.pointer (some ⟨b, 0, none⟩), .string x] w fun e w' => e = .returned (.int .i64 (min x.size (n - h.length) : Nat)) ∧ RingIs B w' b n (h ++ x.data.toList.take (n - h.length)) ∧ Below B w w' := by
  obtain ⟨L, r⟩ := r.isL
  exact (ringL_put r x).mono fun _ _ ⟨he, r', hk⟩ => ⟨he, r'.is, hk.below⟩
theorem ring_take {B b n : Nat} {h : List UInt8} {w : World} (r : RingIs B w b n h) (m : Int) :
    Calls Try.prog 11 #[.pointer (some ⟨b, 0, none⟩), .int .i64 m] w fun e w' => e = .returned (.string ⟨(h.take m.toNat).toArray⟩) ∧ RingIs B w' b n (h.drop m.toNat) ∧ Below B w w' := by
  obtain ⟨L, r⟩ := r.isL
  exact (ringL_take r m).mono fun _ _ ⟨he, r', hk⟩ => ⟨he, r'.is, hk.below⟩
theorem ring_clear {B b n : Nat} {h : List UInt8} {w : World} (r : RingIs B w b n h) :
    Calls Try.prog 13 #[.pointer (some ⟨b, 0, none⟩)] w fun e w' => e = .returned (.int .i64 h.length) ∧ RingIs B w' b n [] ∧ Below B w w' := by
  obtain ⟨L, r⟩ := r.isL
  exact (ringL_clear r).mono fun _ _ ⟨he, r', hk⟩ => ⟨he, r'.is, hk.below⟩
set_option maxHeartbeats 400000 in
theorem alive_yes (w : World) :
    Calls Try.prog 8 #[] w fun e w' => e = .returned (.bool true) ∧ Below w.heap.size w w' := by
  obtain ⟨B, hB⟩ : ∃ B, B = w.heap.size := ⟨_, rfl⟩
  have HB := Lib.hid hB
  have HC := Lib.hid (Below.refl B w)
  clear hB
  go_enter Try.func8, Try.ntmps8
  go_wp2_with fail
  refine (ring_new 3 3 _ (by decide)).mono ?_
  rintro e w1 ⟨rfl, r1, b1⟩
  have R1 := r1.low (B' := B) (by rw [HB.out]; exact Nat.le_refl _)
  have HC1 := Lib.hid (HC.out.trans (b1.mono (by rw [HB.out]; exact Nat.le_refl _)))
  clear r1 b1 HC
  go_wp2_with fail
  refine (ring_put R1 _).mono ?_
  rintro e w2 ⟨rfl, r2, b2⟩
  have HC2 := Lib.hid (HC1.out.trans b2)
  clear R1 b2 HC1
  go_wp2_with fail
  refine (ring_take r2 _).mono ?_
  rintro e w3 ⟨rfl, r3, b3⟩
  have HC3 := Lib.hid (HC2.out.trans b3)
  clear r2 b3 HC2
  go_wp2_with fail
  have r3' : RingIs B w3 (w.heap.size + 1) 3 [99] := r3
  clear r3
  refine (ring_put r3' _).mono ?_
  rintro e w4 ⟨rfl, r4, b4⟩
  have HC4 := Lib.hid (HC3.out.trans b4)
  have r4' : RingIs B w4 (w.heap.size + 1) 3 [99, 120, 121] := r4
  clear r3' b4 HC3 r4
  go_wp2_with fail
  refine (ring_peek r4' _).mono ?_
  rintro e w5 ⟨rfl, q, rfl⟩
  go_wp2_with fail
  refine (ring_room (r4'.drewN _)).mono ?_
  rintro e w6 ⟨rfl, q1, rfl⟩
  go_wp2
  go_ret
  refine ⟨rfl, ?_⟩
  rw [← HB.out]
  exact below_drewN HC4.out _

/-- What Peek shows and Take takes is y; behind Take z is left. -/
theorem ring_both (B b n : Nat) (h : List UInt8) (m : Int) : ∃ y z : List UInt8, y.length + z.length = h.length ∧
    (∀ w, RingIs B w b n h → Calls Try.prog 12 #[.pointer (some ⟨b, 0, none⟩), .int .i64 m] w fun e w' => e = .returned (.string ⟨y.toArray⟩) ∧ ∃ q, w' = w.drewN q) ∧
    (∀ w, RingIs B w b n h → Calls Try.prog 11 #[.pointer (some ⟨b, 0, none⟩), .int .i64 m] w fun e w' => e = .returned (.string ⟨y.toArray⟩) ∧ RingIs B w' b n z ∧ Below B w w') :=
  ⟨h.take m.toNat, h.drop m.toNat, by rw [List.length_take, List.length_drop]; omega, fun _ r => ring_peek r m, fun _ r => ring_take r m⟩
set_option maxHeartbeats 400000 in
theorem peeks_any (a b : ByteArray) (n : Int) (w : World) (ha : a.size ≤ 140737488351232) (hb : b.size ≤ 140737488351232) :
    Calls Try.prog 6 #[.string a, .string b, .int .i64 n] w fun e w' => e = .returned (.bool true) ∧ Below w.heap.size w w' := by
  by_cases h200 : 200 < a.size + b.size
  · go_enter Try.func6, Try.ntmps6
    go_wp2_with fail
    refine (alive_yes _).mono ?_
    rintro e w1 ⟨rfl, hb⟩
    go_wp2
    go_ret
    exact ⟨rfl, hb⟩
  · obtain ⟨B, hB⟩ : ∃ B, B = w.heap.size := ⟨_, rfl⟩
    have HB := Lib.hid hB
    have HC := Lib.hid (Below.refl B w)
    clear hB
    go_enter Try.func6, Try.ntmps6
    go_wp2_with fail
    refine (alive_yes _).mono ?_
    rintro e w1 ⟨rfl, b1⟩
    have HC1 := Lib.hid (HC.out.trans (b1.mono (by rw [HB.out]; exact Nat.le_refl _)))
    have HZ : B ≤ w1.heap.size := by rw [HB.out]; exact b1.size
    clear b1 HC
    go_wp2_with fail
    refine (ring_new 200 200 _ (by decide)).mono ?_
    rintro e w2 ⟨rfl, r1, b1⟩
    have R1 := r1.low HZ
    have HC2 := Lib.hid (HC1.out.trans (b1.mono HZ))
    clear r1 b1 HC1
    go_wp2_with fail
    refine (ring_put R1 _).mono ?_
    rintro e w3 ⟨rfl, r2, b2⟩
    have HC3 := Lib.hid (HC2.out.trans b2)
    clear R1 b2 HC2
    go_wp2_with fail
    refine (ring_put r2 _).mono ?_
    rintro e w4 ⟨rfl, r3, b3⟩
    have HC4 := Lib.hid (HC3.out.trans b3)
    clear r2 b3 HC3
    obtain ⟨h, hl, r4⟩ : ∃ h : List UInt8, h.length = a.size + b.size ∧ RingIs B w4 (w1.heap.size + 1) 200 h := ⟨_, by
      have e1 : a.data.toList.length = a.size := by simp
      have e2 : b.data.toList.length = b.size := by simp
      simp only [List.nil_append, List.length_append, List.length_take, List.length_nil]
      omega, r3⟩
    have HL := Lib.hid hl
    clear r3 hl
    obtain ⟨y, z, hyz, P12, P11⟩ := ring_both B (w1.heap.size + 1) 200 h n
    have P12' := Lib.hid P12
    have P11' := Lib.hid P11
    have HYZ := Lib.hid hyz
    have hyl : y.length ≤ 200 := by have := HL.out; omega
    have e1 : (((h.length : Nat) : Int) == (a.size : Int) + b.size) = true := by rw [HL.out]; simp
    have e2 : (((z.length : Nat) : Int) == (a.size : Int) + b.size - y.length) = true := by have := HL.out; have := HYZ.out; simp; omega
    have E1 := Lib.hid e1
    have E2 := Lib.hid e2
    clear P12 P11 hyz e1 e2
    go_wp2_with fail
    refine (P12'.out _ r4).mono ?_
    rintro e w5 ⟨rfl, q, rfl⟩
    go_wp2_with fail
    refine (P12'.out _ (r4.drewN _)).mono ?_
    rintro e w5 ⟨rfl, q1, rfl⟩
    go_wp2_with fail
    refine (ring_len (r4.drewN _)).mono ?_
    rintro e w5 ⟨rfl, rfl⟩
    have e1 := E1.out
    go_wp2_with fail
    refine (P11'.out _ (r4.drewN _)).mono ?_
    rintro e w5 ⟨rfl, r5, b5⟩
    clear e1
    go_wp2_with fail
    refine (ring_len r5).mono ?_
    rintro e w6 ⟨rfl, rfl⟩
    have e2 := E2.out
    go_wp2_with fail
    refine (ring_clear r5).mono ?_
    rintro e w7 ⟨rfl, r6, b6⟩
    go_wp2_with fail
    refine (ring_peek r6 9).mono ?_
    rintro e w8 ⟨rfl, q2, rfl⟩
    clear e2
    have e2 := E2.out
    go_wp2
    go_ret
    have H5 := Lib.hid ((below_drewN HC4.out _).trans b5)
    refine ⟨rfl, ?_⟩
    rw [← HB.out]
    exact below_drewN (H5.out.trans b6) _

/-- A ring of which the count alone is told. -/
def RL (B : Nat) (w : World) (b n c : Nat) : Prop := ∃ h : List UInt8, h.length = c ∧ RingIs B w b n h
theorem rl_put {B b n c : Nat} {w : World} (r : RL B w b n c) (x : ByteArray) (v c' : Nat) (hv : min x.size (n - c) = v) (hc : c + v = c') :
    Calls Try.prog 10 #[.pointer (some ⟨b, 0, none⟩), .string x] w fun e w' => e = .returned (.int .i64 v) ∧ RL B w' b n c' ∧ Below B w w' := by
  obtain ⟨h, rfl, r⟩ := r
  refine (ring_put r x).mono ?_
  rintro e w' ⟨rfl, r', hb⟩
  have e1 : x.data.toList.length = x.size := by simp
  exact ⟨by rw [hv], ⟨_, by rw [List.length_append, List.length_take]; omega, r'⟩, hb⟩
theorem rl_take {B b n c : Nat} {w : World} (r : RL B w b n c) (m : Int) (v c' : Nat) (hv : min m.toNat c = v) (hc : c - v = c') :
    Calls Try.prog 11 #[.pointer (some ⟨b, 0, none⟩), .int .i64 m] w fun e w' => ∃ y : ByteArray, y.size = v ∧ e = .returned (.string y) ∧ RL B w' b n c' ∧ Below B w w' := by
  obtain ⟨h, rfl, r⟩ := r
  refine (ring_take r m).mono ?_
  rintro e w' ⟨rfl, r', hb⟩
  exact ⟨_, by simp [ByteArray.size]; omega, rfl, ⟨_, by rw [List.length_drop]; omega, r'⟩, hb⟩
theorem rl_len {B b n c : Nat} {w : World} (r : RL B w b n c) :
    Calls Try.prog 14 #[.pointer (some ⟨b, 0, none⟩)] w fun e w' => e = .returned (.int .i64 c) ∧ w = w' := by
  obtain ⟨h, rfl, r⟩ := r
  exact ring_len r
theorem rl_room {B b n c : Nat} {w : World} (r : RL B w b n c) (v : Nat) (hv : n - c = v) :
    Calls Try.prog 15 #[.pointer (some ⟨b, 0, none⟩)] w fun e w' => e = .returned (.int .i64 v) ∧ ∃ q, w' = w.drewN q := by
  obtain ⟨h, rfl, r⟩ := r
  rw [← hv]
  exact ring_room r
theorem RL.drewN {B b n c : Nat} {w : World} (r : RL B w b n c) (q : Nat) : RL B (w.drewN q) b n c := r
theorem RL.kept {B b n c : Nat} {w w' : World} (r : RL B w b n c) (hb : Below w.heap.size w w') : RL B w' b n c := by
  obtain ⟨h, hl, r⟩ := r
  exact ⟨h, hl, r.kept hb⟩
/-- 'make([]byte, m)', then 'string(..)' of it. -/
theorem make_zero (m : Nat) (hm : m ≤ 100000) (v : Int) (hv : v = m) : ∀ W : World, (Instr.makeSlice 34 (.int .i64 v) (.int .i64 v)).run Try.prog W = .ok (.slice (some ⟨W.heap.size, 0, none⟩) m m) (W.alloc (.cells (byteCells (List.replicate m 0)).toArray 5)) := by
  subst hv
  obtain ⟨i0, hi, hz0, hz1, hz2⟩ := info_parts info5
  intro W
  have := run_make_rowN (P := Try.prog) 34 5 i0 (.int .u8 0) Try.underlying34 hi hz0 .i64 .i64 m m (Nat.le_refl _) (by rw [hz2]; omega) (by omega) W
  rw [hz1, made_bytes] at this
  exact this
theorem conv_zero (m : Nat) : ∃ s : ByteArray, s.size = m ∧ ∀ (W : World) (q : Nat), (convert 34 9 (.slice (some ⟨W.heap.size, 0, none⟩) m m)).run Try.prog ((W.drewN q).alloc (.cells (byteCells (List.replicate m 0)).toArray 5)) = .ok (.string s) ((W.drewN q).alloc (.cells (byteCells (List.replicate m 0)).toArray 5)) := by
  refine ⟨⟨((((List.replicate m (0 : UInt8)).drop 0).take m)).toArray⟩, by simp [ByteArray.size], fun W q => ?_⟩
  exact conv_row (l := List.replicate m 0) (by
    show (W.heap.push _)[_]? = _
    rw [Array.getElem?_push, if_pos rfl]) 0 m m (by simp)
set_option maxHeartbeats 400000 in
theorem full_any (room n : Int) (w : World) :
    Calls Try.prog 5 #[.int .i64 room, .int .i64 n] w fun e w' => e = .returned (.bool true) ∧ Below w.heap.size w w' := by
  by_cases hr : room < 1
  · go_enter Try.func5, Try.ntmps5
    go_wp2_with fail
    refine (alive_yes _).mono ?_
    rintro e w1 ⟨rfl, hb⟩
    go_wp2
    go_ret
    exact ⟨rfl, hb⟩
  by_cases hr2 : 200 < room
  · go_enter Try.func5, Try.ntmps5
    go_wp2_with fail
    refine (alive_yes _).mono ?_
    rintro e w1 ⟨rfl, hb⟩
    go_wp2
    go_ret
    exact ⟨rfl, hb⟩
  by_cases hn : n < 0
  · go_enter Try.func5, Try.ntmps5
    go_wp2_with fail
    refine (alive_yes _).mono ?_
    rintro e w1 ⟨rfl, hb⟩
    go_wp2
    go_ret
    exact ⟨rfl, hb⟩
  by_cases hn2 : 300 < n
  · go_enter Try.func5, Try.ntmps5
    go_wp2_with fail
    refine (alive_yes _).mono ?_
    rintro e w1 ⟨rfl, hb⟩
    go_wp2
    go_ret
    exact ⟨rfl, hb⟩
  obtain ⟨R, rfl⟩ : ∃ R : Nat, room = R := ⟨room.toNat, by omega⟩
  obtain ⟨N, rfl⟩ : ∃ N : Nat, n = N := ⟨n.toNat, by omega⟩
  have hm1 := make_zero (R + 5) (by omega) ((R : Int) + 5) (by omega)
  have hm2 := make_zero (N + 1) (by omega) ((N : Int) + 1) (by omega)
  obtain ⟨s1, hs1, hc1'⟩ := conv_zero (R + 5)
  have hc1 := fun W => hc1' W 0
  simp only [World.drewN_zero] at hc1
  clear hc1'
  obtain ⟨s2, hs2, hc2⟩ := conv_zero (N + 1)
  have HS1 := Lib.hid hs1
  have HS2 := Lib.hid hs2
  obtain ⟨B, hB⟩ : ∃ B, B = w.heap.size := ⟨_, rfl⟩
  have HB := Lib.hid hB
  have HC := Lib.hid (Below.refl B w)
  obtain ⟨K, hK⟩ : ∃ K : Nat, K = min N R := ⟨_, rfl⟩
  have HK := Lib.hid hK
  have ek : min (N : Int) R = K := by omega
  have EK := Lib.hid ek
  have er : (R == 0) = false := by simp; omega
  clear hB hK hs1 hs2 ek
  go_enter Try.func5, Try.ntmps5
  go_wp2_with fail
  refine (alive_yes _).mono ?_
  rintro e w1 ⟨rfl, b1⟩
  have HC1 := Lib.hid (HC.out.trans (b1.mono (by rw [HB.out]; exact Nat.le_refl _)))
  have HZ : B ≤ w1.heap.size := by rw [HB.out]; exact b1.size
  clear b1 HC
  go_wp2_with fail
  refine (ring_new _ R _ (by omega)).mono ?_
  rintro e w2 ⟨rfl, r1, b1⟩
  have R1 : RL B w2 (w1.heap.size + 1) R 0 := ⟨[], rfl, r1.low HZ⟩
  have HC2 := Lib.hid (HC1.out.trans (b1.mono HZ))
  have HZ2 : B ≤ w2.heap.size := by have := b1.size; omega
  clear r1 b1 HC1
  go_wp2_with fail
  refine (rl_put (R1.kept ((Below.refl _ _).alloc (Nat.le_refl _) _)) _ R R (by rw [HS1.out]; omega) (by omega)).mono ?_
  rintro e w3 ⟨rfl, r2, b2⟩
  have HC3 := Lib.hid ((HC2.out.alloc HZ2 _).trans b2)
  clear R1 b2 HC2
  go_wp2_with fail
  refine (rl_put r2 _ 0 R (by omega) (by omega)).mono ?_
  rintro e w4 ⟨rfl, r3, b3⟩
  have HC4 := Lib.hid (HC3.out.trans b3)
  clear r2 b3 HC3
  go_wp2_with fail
  refine (rl_take r3 _ K (R - K) (by rw [HK.out]; omega) rfl).mono ?_
  rintro e w5 ⟨y, hy, rfl, r4, b4⟩
  have HC5 := Lib.hid (HC4.out.trans b4)
  have ek := EK.out
  have hy' : (y.size : Int) = K := by rw [hy]
  clear hy r3 b4 HC4
  go_wp2_with fail
  refine (rl_room r4 K (by have := HK.out; omega)).mono ?_
  rintro e w6 ⟨rfl, q, rfl⟩
  clear hy'
  go_wp2_with fail
  refine (rl_put ((r4.drewN q).kept ((Below.refl _ _).alloc (Nat.le_refl _) _)) _ K R (by rw [HS2.out]; have := HK.out; omega) (by have := HK.out; omega)).mono ?_
  rintro e w7 ⟨rfl, r5, b5⟩
  have HZ5 : B ≤ w5.heap.size := by have := HC5.out.size; rw [HB.out]; exact this
  have HC7 := Lib.hid (((below_drewN HC5.out q).alloc HZ5 _).trans b5)
  clear r4 b5 HC5
  go_wp2_with fail
  refine (rl_room r5 0 (by omega)).mono ?_
  rintro e w8 ⟨rfl, q1, rfl⟩
  go_wp2_with fail
  refine (rl_len (r5.drewN q1)).mono ?_
  rintro e w9 ⟨rfl, rfl⟩
  go_wp2
  go_ret
  refine ⟨rfl, ?_⟩
  rw [← HB.out]
  exact below_drewN HC7.out _

theorem list_bytes (x : ByteArray) : (⟨x.data.toList.toArray⟩ : ByteArray) = x := by
  apply ByteArray.ext
  simp
theorem put_whole {B b n : Nat} {w : World} (r : RingIs B w b n []) (x : ByteArray) (hx : x.size ≤ n) :
    Calls Try.prog 10 #[.pointer (some ⟨b, 0, none⟩), .string x] w fun e w' => e = .returned (.int .i64 x.size) ∧ RingIs B w' b n x.data.toList ∧ Below B w w' := by
  have h := ring_put r x
  rw [List.nil_append, List.length_nil, Nat.sub_zero, List.take_of_length_le (by simpa using hx), Nat.min_eq_left hx] at h
  exact h
theorem peek_whole {B b n : Nat} {w : World} {x : ByteArray} (r : RingIs B w b n x.data.toList) (m : Int) (hx : x.size ≤ m) :
    Calls Try.prog 12 #[.pointer (some ⟨b, 0, none⟩), .int .i64 m] w fun e w' => e = .returned (.string x) ∧ ∃ q, w' = w.drewN q := by
  have h := ring_peek r m
  rw [List.take_of_length_le (by simp; omega), list_bytes] at h
  exact h
theorem take_whole {B b n : Nat} {w : World} {x : ByteArray} (r : RingIs B w b n x.data.toList) (m : Int) (hx : x.size ≤ m) :
    Calls Try.prog 11 #[.pointer (some ⟨b, 0, none⟩), .int .i64 m] w fun e w' => e = .returned (.string x) ∧ RingIs B w' b n [] ∧ Below B w w' := by
  have h := ring_take r m
  rw [List.take_of_length_le (by simp; omega), List.drop_of_length_le (by simp; omega), list_bytes] at h
  exact h
theorem len_whole {B b n : Nat} {w : World} {x : ByteArray} (r : RingIs B w b n x.data.toList) :
    Calls Try.prog 14 #[.pointer (some ⟨b, 0, none⟩)] w fun e w' => e = .returned (.int .i64 x.size) ∧ w = w' := by
  have h := ring_len r
  rw [show x.data.toList.length = x.size by simp] at h
  exact h
set_option maxHeartbeats 400000 in
theorem around_out (room times : Int) (b : ByteArray) (w : World) (hb : b.size ≤ 140737488351232) (h : room < 1 ∨ 60 < room ∨ b.size < 1 ∨ room < b.size ∨ times < 0 ∨ 60 < times) :
    Calls Try.prog 7 #[.int .i64 room, .string b, .int .i64 times] w fun e w' => e = .returned (.bool true) ∧ Below w.heap.size w w' := by
  by_cases h1 : room < 1
  · clear h
    go_enter Try.func7, Try.ntmps7
    go_wp2_with fail
    refine (alive_yes _).mono ?_
    rintro e w1 ⟨rfl, hb⟩
    go_wp2
    go_ret
    exact ⟨rfl, hb⟩
  by_cases h2 : 60 < room
  · clear h
    go_enter Try.func7, Try.ntmps7
    go_wp2_with fail
    refine (alive_yes _).mono ?_
    rintro e w1 ⟨rfl, hb⟩
    go_wp2
    go_ret
    exact ⟨rfl, hb⟩
  by_cases h3 : b.size < 1
  · clear h
    go_enter Try.func7, Try.ntmps7
    go_wp2_with fail
    refine (alive_yes _).mono ?_
    rintro e w1 ⟨rfl, hb⟩
    go_wp2
    go_ret
    exact ⟨rfl, hb⟩
  by_cases h4 : room < b.size
  · clear h
    go_enter Try.func7, Try.ntmps7
    go_wp2_with fail
    refine (alive_yes _).mono ?_
    rintro e w1 ⟨rfl, hb⟩
    go_wp2
    go_ret
    exact ⟨rfl, hb⟩
  by_cases h5 : times < 0
  · clear h
    go_enter Try.func7, Try.ntmps7
    go_wp2_with fail
    refine (alive_yes _).mono ?_
    rintro e w1 ⟨rfl, hb⟩
    go_wp2
    go_ret
    exact ⟨rfl, hb⟩
  have h6 : 60 < times := by omega
  clear h
  go_enter Try.func7, Try.ntmps7
  go_wp2_with fail
  refine (alive_yes _).mono ?_
  rintro e w1 ⟨rfl, hb⟩
  go_wp2
  go_ret
  exact ⟨rfl, hb⟩
set_option maxHeartbeats 1000000 in
theorem around_any (room times : Int) (b : ByteArray) (w : World) (hb : b.size ≤ 140737488351232) :
    Calls Try.prog 7 #[.int .i64 room, .string b, .int .i64 times] w fun e w' => e = .returned (.bool true) ∧ Below w.heap.size w w' := by
  by_cases h : room < 1 ∨ 60 < room ∨ b.size < 1 ∨ room < b.size ∨ times < 0 ∨ 60 < times
  · exact around_out room times b w hb h
  obtain ⟨R, rfl⟩ : ∃ R : Nat, room = R := ⟨room.toNat, by omega⟩
  obtain ⟨T, rfl⟩ : ∃ T : Nat, times = T := ⟨times.toNat, by omega⟩
  have hT : T ≤ 60 := by omega
  have hR : 1 ≤ R := by omega
  have hR2 : R ≤ 60 := by omega
  have hb1 : 1 ≤ b.size := by omega
  have hb2 : b.size ≤ R := by omega
  obtain ⟨B, hB⟩ : ∃ B, B = w.heap.size := ⟨_, rfl⟩
  have HB := Lib.hid hB
  have HC := Lib.hid (Below.refl B w)
  clear hB h hb
  go_enter Try.func7, Try.ntmps7
  go_wp2_with fail
  refine (alive_yes _).mono ?_
  rintro e w1 ⟨rfl, b1⟩
  have HC1 := Lib.hid (HC.out.trans (b1.mono (by rw [HB.out]; exact Nat.le_refl _)))
  have HZ : B ≤ w1.heap.size := by rw [HB.out]; exact b1.size
  clear b1 HC
  go_wp2_with fail
  refine (ring_new _ R _ (by omega)).mono ?_
  rintro e w2 ⟨rfl, r1, b1⟩
  have R1 := r1.low HZ
  have HC2 := Lib.hid (HC1.out.trans (b1.mono HZ))
  clear r1 b1 HC1
  obtain ⟨p, hp⟩ : ∃ p, p = w1.heap.size + 1 := ⟨_, rfl⟩
  rw [← hp] at R1 ⊢
  clear hp
  go_wp2
  go_loopw [8] (fun i wr => ∃ k : Nat, k ≤ T ∧ i = .int .i64 k ∧ RingIs B wr p R [] ∧ Hid (Below B w wr)) (fun i _ => T - (RowKit.intOf i).toNat)
  case atStart => exact ⟨0, Nat.zero_le _, rfl, R1, HC2⟩
  case round =>
    obtain ⟨k, hk, rfl, r, hw⟩ := hrel
    clear R1 HC2
    by_cases hlt : k < T
    · go_wp2_with fail
      refine (put_whole r b hb2).mono ?_
      rintro e v1 ⟨rfl, r1, b1⟩
      go_wp2_with fail
      refine (len_whole r1).mono ?_
      rintro e v2 ⟨rfl, rfl⟩
      go_wp2_with fail
      refine (peek_whole r1 _ (by omega)).mono ?_
      rintro e v2 ⟨rfl, q, rfl⟩
      go_wp2_with fail
      refine (take_whole (r1.drewN q) _ (by omega)).mono ?_
      rintro e v3 ⟨rfl, r3, b3⟩
      go_wp2_with fail
      refine (ring_room r3).mono ?_
      rintro e v4 ⟨rfl, q1, rfl⟩
      go_wp2
      go_roundw
      case rel => exact ⟨k + 1, by omega, by go_num, r3.drewN q1, below_drewN ((below_drewN (hw.out.trans b1) q).trans b3) q1⟩
      case measure => simp [RowKit.intOf]; omega
    · go_wp2_with fail
      refine (ring_len r).mono ?_
      rintro e v2 ⟨rfl, rfl⟩
      go_wp2
      go_ret
      refine ⟨rfl, ?_⟩
      rw [← HB.out]
      exact hw.out
theorem block_of_add (a : Addr) (n : Nat) : (a.add n).block = a.block := by unfold Addr.add; split <;> rfl
theorem add_of_add (a : Addr) (i j : Nat) : (a.add i).add j = a.add (i + j) := by
  unfold Addr.add
  by_cases hi : i = 0 <;> by_cases hj : j = 0 <;> simp [hi, hj, Nat.add_assoc]

def Reads (w : World) (B size : Nat) (A : Option Addr) (n : Nat) (xs : List Value) : Prop :=
  xs.length = n * size ∧ (0 < n → ∃ ad, A = some ad ∧ ad.block < B ∧ ∀ j u, xs[j]? = some u → w.cell? (ad.add j) = some u)

section
variable {w w' : World} {B B' size n : Nat} {A : Option Addr} {xs : List Value}
theorem Reads.none_ : Reads w B size A 0 [] := ⟨by simp, fun h => absurd h (by omega)⟩
theorem Reads.at_ {k : Nat} (h : Reads w B 1 A n xs) (hk : k < n) : ∃ ad u, A = some ad ∧ ad.block < B ∧ xs[k]? = some u ∧ w.cell? (ad.add k) = some u := by
  obtain ⟨ad, e, hb, hc⟩ := h.2 (by omega)
  have hl : k < xs.length := by have := h.1; omega
  exact ⟨ad, xs[k], e, hb, List.getElem?_eq_getElem hl, hc k _ (List.getElem?_eq_getElem hl)⟩
theorem Reads.keep (h : Reads w B size A n xs) (hk : ∀ p : Addr, p.block < B → w'.cell? p = w.cell? p) : Reads w' B size A n xs :=
  ⟨h.1, fun hn => by
    obtain ⟨ad, e, hb, hc⟩ := h.2 hn
    exact ⟨ad, e, hb, fun j u hu => (hk _ (by rw [block_of_add]; exact hb)).trans (hc j u hu)⟩⟩
theorem Reads.more (h : Reads w B size A n xs) (hB : B ≤ B') : Reads w B' size A n xs :=
  ⟨h.1, fun hn => by
    obtain ⟨ad, e, hb, hc⟩ := h.2 hn
    exact ⟨ad, e, by omega, hc⟩⟩
theorem Reads.below (h : Reads w B size A n xs) (hb : Below B w w') : Reads w' B size A n xs := h.keep fun _ hp => hb.cell hp
theorem Reads.drew (h : Reads w B size A n xs) : Reads w.drew B size A n xs := h
theorem Reads.drewN (h : Reads w B size A n xs) (k : Nat) : Reads (w.drewN k) B size A n xs := h
theorem Reads.alloc (h : Reads w B size A n xs) (hB : B ≤ w.heap.size) (o : Obj) : Reads (w.alloc o) B size A n xs := h.keep fun p hp => World.cell?_alloc_lt w o p (by omega)
theorem Reads.setCell (h : Reads w B size A n xs) {p : Addr} (hB : B ≤ p.block) (u : Value) : Reads (w.setCell p u) B size A n xs :=
  h.keep fun q hq => World.cell?_setCell_other w p q u (fun e => by subst e; omega)
theorem Reads.grown (h : Reads w B size A n xs) {row : Option Nat} (hg : w.grownBy w' row) (hB : B ≤ w.heap.size) (hr : ∀ g, row = some g → B ≤ g) : Reads w' B size A n xs :=
  h.keep fun p hp => World.cell?_of_block (hg.block p.block (by omega) (fun e => by have := hr _ e.symm; omega))
theorem Reads.cut (h : Reads w B size A n xs) {k cap : Nat} (hk : k ≤ n) (hc : n ≤ cap) :
    Reads w B size (if cap = k then A else A.map (·.add (k * size))) (n - k) (xs.drop (k * size)) := by
  refine ⟨by rw [List.length_drop, h.1, Nat.sub_mul], fun hn => ?_⟩
  obtain ⟨ad, rfl, hb, hcell⟩ := h.2 (by omega)
  rw [if_neg (by omega)]
  refine ⟨ad.add (k * size), rfl, by rw [block_of_add]; exact hb, fun j u hu => ?_⟩
  rw [add_of_add]
  exact hcell _ u (by rw [← hu, List.getElem?_drop])
theorem Reads.of_own {base : Nat} {e : TypeId} {c : Nat} (h : w.ownsRow base e size (.slice A n c) n xs) : Reads w w.heap.size size A n xs := by
  refine ⟨h.1, fun hn => ?_⟩
  obtain ⟨g, cap, hv, _, hlt⟩ := h.form hn
  have hA : A = some ⟨g, 0, none⟩ := by injection hv
  subst hA
  exact ⟨_, rfl, hlt, h.cells (g := g) rfl⟩
end
theorem size_nil {l : ByteArray} (h : l.toList = []) : l.size = 0 := by
  rw [ByteArray.toList_eq] at h
  have := congrArg List.length h
  rw [Array.length_toList] at this
  exact this
theorem toList_nil {l : ByteArray} (h : l.size = 0) : l.toList = [] := by
  rw [ByteArray.toList_eq]
  exact List.eq_nil_of_length_eq_zero (by rw [Array.length_toList]; exact h)
theorem and_low (n : Int) (m : Nat) (hm : m = 15 ∨ m = 7) : ∃ a : Nat, a ≤ m ∧ bits .and .i64 n (m : Int) = (a : Int) := by
  rcases hm with rfl | rfl
  · refine ⟨(n % 16).toNat, by omega, ?_⟩
    have h127 : (BitVec.ofInt 64 15).toNat = 2 ^ 4 - 1 := by decide
    have key : (BitVec.ofInt 64 n &&& BitVec.ofInt 64 15).toNat = (n % ((2 ^ 64 : Nat) : Int)).toNat % 2 ^ 4 := by
      rw [BitVec.toNat_and, BitVec.toNat_ofInt, h127, Nat.and_two_pow_sub_one_eq_mod]
    show IntKind.i64.wrap ((BitVec.ofInt 64 n &&& BitVec.ofInt 64 15).toNat : Nat) = _
    rw [key, IntKind.wrap_i64]
    omega
  · refine ⟨(n % 8).toNat, by omega, ?_⟩
    have h127 : (BitVec.ofInt 64 7).toNat = 2 ^ 3 - 1 := by decide
    have key : (BitVec.ofInt 64 n &&& BitVec.ofInt 64 7).toNat = (n % ((2 ^ 64 : Nat) : Int)).toNat % 2 ^ 3 := by
      rw [BitVec.toNat_and, BitVec.toNat_ofInt, h127, Nat.and_two_pow_sub_one_eq_mod]
    show IntKind.i64.wrap ((BitVec.ofInt 64 n &&& BitVec.ofInt 64 7).toNat : Nat) = _
    rw [key, IntKind.wrap_i64]
    omega
/-- Element k % n of a slice of ints, as the walk wants it. -/
theorem at_mod {w wr : World} {B n k : Nat} {A : Option Addr} {zs : List Int} (h : Reads w B 1 A n (zs.map (Value.int .i64))) (hw : Below B w wr) (hn : 0 < n) :
    ∃ ad q j, A = some ad ∧ j < n ∧ wr.cell? (ad.add j) = some (.int .i64 q) ∧ (k : Int) % (n : Int) = ((j : Nat) : Int) := by
  obtain ⟨ad, z, hA, hb1, hz, hcell⟩ := h.at_ (k := k % n) (Nat.mod_lt _ hn)
  have hcell' : wr.cell? (ad.add (k % n)) = some z := (hw.cell (by rw [block_of_add]; exact hb1)).trans hcell
  rw [List.getElem?_map] at hz
  cases hy : zs[k % n]? with
  | none => simp [hy] at hz
  | some q =>
    simp [hy] at hz
    subst hz
    exact ⟨ad, q, k % n, hA, Nat.mod_lt _ hn, hcell', rfl⟩
theorem put_part {B b n : Nat} {h : List UInt8} {w : World} (r : RingIs B w b n h) (l : ByteArray) (m : Nat) (hm : m ≤ l.size) :
    ∃ v, v ≤ m ∧ v = min m (n - h.length) ∧ Calls Try.prog 10 #[.pointer (some ⟨b, 0, none⟩), .string (l.extract 0 m)] w fun e w' => e = .returned (.int .i64 (v : Nat)) ∧ RingIs B w' b n (h ++ l.data.toList.take v) ∧ Below B w w' := by
  refine ⟨min m (n - h.length), by omega, rfl, (ring_put r _).mono ?_⟩
  rintro e w' ⟨rfl, r', hb⟩
  have e1 : (l.extract 0 m).size = m := by simp; omega
  rw [ext_list, List.drop_zero, List.take_take, Nat.min_comm] at r'
  exact ⟨by rw [e1], r', hb⟩
theorem order_step (x l b : ByteArray) (h : List UInt8) (v t k : Nat) (ht : 0 < t) (hv : 0 < h.length ∨ 0 < v) (hvl : v ≤ l.size) (hcat : x.data.toList ++ h ++ l.data.toList = b.data.toList) (hk : k ≤ x.size) :
    ((x ++ ⟨((h ++ l.data.toList.take v).take t).toArray⟩ : ByteArray)).data.toList ++ (h ++ l.data.toList.take v).drop t ++ (l.extract v l.size).data.toList = b.data.toList ∧
      k + 1 ≤ (x ++ ⟨((h ++ l.data.toList.take v).take t).toArray⟩ : ByteArray).size := by
  have e1 : (l.extract v l.size).data.toList = l.data.toList.drop v := by
    rw [ext_list, List.take_of_length_le (by simp)]
  have e2 : (h ++ l.data.toList.take v).length = h.length + v := by
    rw [List.length_append, List.length_take]
    have : l.data.toList.length = l.size := by simp
    omega
  constructor
  · rw [e1, ByteArray.data_append, Array.toList_append]
    simp only [List.append_assoc]
    rw [← List.append_assoc (List.take t _), List.take_append_drop, ← hcat]
    simp
  · rw [ByteArray.size_append]
    have : (⟨((h ++ l.data.toList.take v).take t).toArray⟩ : ByteArray).size = min t (h.length + v) := by
      show (List.toArray _).size = _
      rw [List.size_toArray, List.length_take, e2]
    omega
theorem order_take {B p n v t k : Nat} {x l b : ByteArray} {h : List UInt8} {w : World} (r : RingIs B w p n (h ++ l.data.toList.take v)) (hn : n = 20) (ht : 0 < t) (hv : 0 < h.length ∨ 0 < v) (hvl : v ≤ l.size)
    (hcat : x.data.toList ++ h ++ l.data.toList = b.data.toList) (hk : k ≤ x.size) :
    ∃ (Y : ByteArray) (h2 : List UInt8), Y.size ≤ 20 ∧ (x ++ Y).data.toList ++ h2 ++ (l.extract v l.size).data.toList = b.data.toList ∧ k + 1 ≤ (x ++ Y).size ∧
      Calls Try.prog 11 #[.pointer (some ⟨p, 0, none⟩), .int .i64 (t : Nat)] w fun e w' => e = .returned (.string Y) ∧ RingIs B w' p n h2 ∧ Below B w w' := by
  have hs := order_step x l b h v t k ht hv hvl hcat hk
  refine ⟨_, _, ?_, hs.1, hs.2, ?_⟩
  · have := r.le
    show (List.toArray _).size ≤ _
    rw [List.size_toArray, List.length_take]
    omega
  · have := ring_take r (t : Nat)
    rw [Int.toNat_natCast] at this
    exact this
set_option maxHeartbeats 2000000 in
set_option maxRecDepth 100000 in
theorem order_any (b : ByteArray) (A1 A2 : Option Addr) (n1 c1 n2 c2 : Nat) (z1 z2 : List Int) (w : World) (hb : b.size ≤ 140737488351232) (h1 : n1 * 8 ≤ 140737488351232) (h2 : n2 * 8 ≤ 140737488351232)
    (r1 : Reads w w.heap.size 1 A1 n1 (z1.map (Value.int .i64))) (r2 : Reads w w.heap.size 1 A2 n2 (z2.map (Value.int .i64))) 
    (hin : b.size ≤ 300 ∧ 0 < n1 ∧ n1 ≤ 60 ∧ n2 ≤ 60) :
    Calls Try.prog 4 #[.string b, .slice A1 n1 c1, .slice A2 n2 c2] w fun e w' => e = .returned (.bool true) ∧ Below w.heap.size w w' := by
  obtain ⟨i1, i2, i3, i4⟩ := hin
  obtain ⟨B, hB⟩ : ∃ B, B = w.heap.size := ⟨_, rfl⟩
  rw [← hB] at r1 r2
  have HB := Lib.hid hB
  have HC := Lib.hid (Below.refl B w)
  have e1 : ((n1 : Int) == 0) = false := by simp; omega
  have HR1 := Lib.hid r1
  have HR2 := Lib.hid r2
  clear hB r1 r2
  go_enter Try.func4, Try.ntmps4
  go_wp2_with fail
  refine (alive_yes _).mono ?_
  rintro e w1 ⟨rfl, b1⟩
  have HC1 := Lib.hid (HC.out.trans (b1.mono (by rw [HB.out]; exact Nat.le_refl _)))
  have HZ : B ≤ w1.heap.size := by rw [HB.out]; exact b1.size
  clear b1 HC
  go_wp2_with fail
  refine (ring_new 20 20 _ (by decide)).mono ?_
  rintro e w2 ⟨rfl, r1, b1⟩
  have R1 := r1.low HZ
  have HC2 := Lib.hid (HC1.out.trans (b1.mono HZ))
  clear r1 b1 HC1
  obtain ⟨p, hp⟩ : ∃ p, p = w1.heap.size + 1 := ⟨_, rfl⟩
  rw [← hp] at R1 ⊢
  clear hp
  go_wp2
  go_loopw [8, 9, 10, 11, 12] (fun got left i _ _ wr => ∃ (k : Nat) (x l : ByteArray) (h : List UInt8), i = .int .i64 k ∧ got = .string x ∧ left = .string l ∧ x.data.toList ++ h ++ l.data.toList = b.data.toList ∧ k ≤ x.size ∧ RingIs B wr p 20 h ∧ Hid (Below B w wr)) (fun _ _ i _ _ _ => 2000 - (RowKit.intOf i).toNat)
  case atStart => exact ⟨0, ⟨#[]⟩, b, [], rfl, rfl, rfl, by simp, by simp, R1, HC2⟩
  case round =>
    obtain ⟨k, x, l, h, rfl, rfl, rfl, hcat, hkx, r, hw⟩ := hrel
    clear R1 HC2
    have hlen : x.size + h.length + l.size = b.size := by have := congrArg List.length hcat; simp at this; omega
    have HCAT := Lib.hid hcat
    have HLEN := Lib.hid hlen
    have hk : k ≤ 300 := by omega
    have hl : l.size ≤ 300 := by omega
    have hx : x.size ≤ 300 := by omega
    have hh : h.length ≤ 300 := by omega
    clear hcat hlen
    by_cases hE : l.toList = [] ∧ h.length = 0
    · obtain ⟨hE, hh0⟩ := hE
      have hxb : x = b := by
        apply ByteArray.ext
        apply Array.toList_inj.1
        have h1 : h = [] := List.eq_nil_of_length_eq_zero hh0
        have h2 : l.data.toList = [] := by rw [← ByteArray.toList_eq]; exact hE
        have := HCAT.out
        rw [h1, h2] at this
        simpa using this
      subst hxb
      have hz : ((h.length : Nat) : Int) = 0 := by omega
      clear hh0
      go_wp2_with fail
      refine (ring_len r).mono ?_
      rintro e w3 ⟨rfl, rfl⟩
      go_wp2
      go_ret
      refine ⟨rfl, ?_⟩
      rw [← HB.out]
      exact hw.out
    · obtain ⟨ad, q1, j1, rfl, hjl, hcell, em⟩ := at_mod (k := k) HR1.out hw.out i2
      obtain ⟨a15, ha15, ba⟩ := and_low q1 15 (Or.inl rfl)
      obtain ⟨m1, hm1⟩ : ∃ m, m = min (a15 + 1) l.size := ⟨_, rfl⟩
      have em1 : min ((a15 : Int) + 1) l.size = (m1 : Int) := by omega
      have hml : m1 ≤ l.size := by omega
      obtain ⟨v, hvm, hv, P10⟩ := put_part r l m1 hml
      have hvl : v ≤ l.size := by omega
      have hv0 : 0 < h.length ∨ 0 < v := by
        have := r.le
        rcases Nat.eq_zero_or_pos l.size with h0 | h0
        · left; have := toList_nil h0; have : ¬ h.length = 0 := fun e => hE ⟨this, e⟩; omega
        · omega
      have P10' := Lib.hid P10
      have HV0 := Lib.hid hv0
      have ba' : bits .and .i64 q1 15 = (a15 : Int) := ba
      have BA := Lib.hid ba'
      have EM := Lib.hid em
      have EM1 := Lib.hid em1
      have HJ : ∀ x : ByteArray, x.size ≤ 300 → True := fun _ _ => trivial
      clear P10 hv0 ba ba' em em1 HJ hv hm1
      by_cases hl0 : l.toList = []
      · have hhp : 0 < h.length := by
          rcases Nat.eq_zero_or_pos h.length with h0 | h0
          · exact absurd ⟨hl0, h0⟩ hE
          · exact h0
        have em := EM.out
        have em1 := EM1.out
        have ba := BA.out
        go_wp2_with fail
        refine (ring_len r).mono ?_
        rintro e w3 ⟨rfl, rfl⟩
        go_wp2_with fail
        refine P10'.out.mono ?_
        rintro e v1 ⟨rfl, r1, b1⟩
        have hw1 := Lib.hid (hw.out.trans b1)
        clear em em1 ba b1 hcell
        by_cases hn2 : n2 = 0
        · have hn2s : n2 < 1 := by omega
          clear hn2
          obtain ⟨Y, h2', hY, hc2, hk2, P11⟩ := order_take (t := 1) r1 rfl (by omega) HV0.out hvl HCAT.out hkx
          have P11' := Lib.hid P11
          have HC2' := Lib.hid hc2
          clear P11 hc2
          go_wp2_with fail
          refine P11'.out.mono ?_
          rintro e v2 ⟨rfl, r2, b2⟩
          go_wp2
          go_roundw
          case rel => exact ⟨k + 1, _, _, h2', by go_num, rfl, rfl, HC2'.out, hk2, r2, hw1.out.trans b2⟩
          case measure => simp [RowKit.intOf]; omega
        · obtain ⟨ad2, q2, j2, rfl, hjl2, hcell2, em2⟩ := at_mod (k := k) HR2.out hw1.out (by omega)
          obtain ⟨a7, ha7, ba7⟩ := and_low q2 7 (Or.inr rfl)
          have ba7' : bits .and .i64 q2 7 = (a7 : Int) := ba7
          clear ba7
          obtain ⟨Y, h2', hY, hc2, hk2, P11⟩ := order_take (t := a7 + 1) r1 rfl (by omega) HV0.out hvl HCAT.out hkx
          have e7 : ((a7 + 1 : Nat) : Int) = (a7 : Int) + 1 := by omega
          rw [e7] at P11
          have P11' := Lib.hid P11
          have HC2' := Lib.hid hc2
          have en2 : ((n2 : Int) == 0) = false := by simp; omega
          have en3 : 0 < n2 := by omega
          clear P11 hc2 e7 hn2
          go_wp2_with fail
          refine P11'.out.mono ?_
          rintro e v2 ⟨rfl, r2, b2⟩
          clear hcell2 em2 ba7' en2
          go_wp2
          go_roundw
          case rel => exact ⟨k + 1, _, _, h2', by go_num, rfl, rfl, HC2'.out, hk2, r2, hw1.out.trans b2⟩
          case measure => simp [RowKit.intOf]; omega
      · have em := EM.out
        have em1 := EM1.out
        have ba := BA.out
        go_wp2_with fail
        refine P10'.out.mono ?_
        rintro e v1 ⟨rfl, r1, b1⟩
        have hw1 := Lib.hid (hw.out.trans b1)
        clear em em1 ba b1 hcell
        by_cases hn2 : n2 = 0
        · have hn2s : n2 < 1 := by omega
          clear hn2
          obtain ⟨Y, h2', hY, hc2, hk2, P11⟩ := order_take (t := 1) r1 rfl (by omega) HV0.out hvl HCAT.out hkx
          have P11' := Lib.hid P11
          have HC2' := Lib.hid hc2
          clear P11 hc2
          go_wp2_with fail
          refine P11'.out.mono ?_
          rintro e v2 ⟨rfl, r2, b2⟩
          go_wp2
          go_roundw
          case rel => exact ⟨k + 1, _, _, h2', by go_num, rfl, rfl, HC2'.out, hk2, r2, hw1.out.trans b2⟩
          case measure => simp [RowKit.intOf]; omega
        · obtain ⟨ad2, q2, j2, rfl, hjl2, hcell2, em2⟩ := at_mod (k := k) HR2.out hw1.out (by omega)
          obtain ⟨a7, ha7, ba7⟩ := and_low q2 7 (Or.inr rfl)
          have ba7' : bits .and .i64 q2 7 = (a7 : Int) := ba7
          clear ba7
          obtain ⟨Y, h2', hY, hc2, hk2, P11⟩ := order_take (t := a7 + 1) r1 rfl (by omega) HV0.out hvl HCAT.out hkx
          have e7 : ((a7 + 1 : Nat) : Int) = (a7 : Int) + 1 := by omega
          rw [e7] at P11
          have P11' := Lib.hid P11
          have HC2' := Lib.hid hc2
          have en2 : ((n2 : Int) == 0) = false := by simp; omega
          have en3 : 0 < n2 := by omega
          clear P11 hc2 e7 hn2
          go_wp2_with fail
          refine P11'.out.mono ?_
          rintro e v2 ⟨rfl, r2, b2⟩
          clear hcell2 em2 ba7' en2
          go_wp2
          go_roundw
          case rel => exact ⟨k + 1, _, _, h2', by go_num, rfl, rfl, HC2'.out, hk2, r2, hw1.out.trans b2⟩
          case measure => simp [RowKit.intOf]; omega

set_option maxRecDepth 100000 in
set_option maxHeartbeats 400000 in
theorem order_out (b : ByteArray) (A1 A2 : Option Addr) (n1 c1 n2 c2 : Nat) (w : World) (hb : b.size ≤ 140737488351232) (h1 : n1 * 8 ≤ 140737488351232) (h2 : n2 * 8 ≤ 140737488351232)
    (h : ¬ (b.size ≤ 300 ∧ 0 < n1 ∧ n1 ≤ 60 ∧ n2 ≤ 60)) :
    Calls Try.prog 4 #[.string b, .slice A1 n1 c1, .slice A2 n2 c2] w fun e w' => e = .returned (.bool true) ∧ Below w.heap.size w w' := by
  by_cases g1 : 300 < b.size
  · clear h
    go_enter Try.func4, Try.ntmps4
    go_wp2_with fail
    refine (alive_yes _).mono ?_
    rintro e w1 ⟨rfl, hb⟩
    go_wp2
    go_ret
    exact ⟨rfl, hb⟩
  by_cases g2 : n1 = 0
  · have e1 : ((n1 : Int) == 0) = true := by simp; omega
    have g2' : n1 < 1 := by omega
    clear h g2
    go_enter Try.func4, Try.ntmps4
    go_wp2_with fail
    refine (alive_yes _).mono ?_
    rintro e w1 ⟨rfl, hb⟩
    go_wp2
    go_ret
    exact ⟨rfl, hb⟩
  have e1 : ((n1 : Int) == 0) = false := by simp; omega
  by_cases g3 : 60 < n1
  · clear h g2
    go_enter Try.func4, Try.ntmps4
    go_wp2_with fail
    refine (alive_yes _).mono ?_
    rintro e w1 ⟨rfl, hb⟩
    go_wp2
    go_ret
    exact ⟨rfl, hb⟩
  have g4 : 60 < n2 := by omega
  clear h g2
  go_enter Try.func4, Try.ntmps4
  go_wp2_with fail
  refine (alive_yes _).mono ?_
  rintro e w1 ⟨rfl, hb⟩
  go_wp2
  go_ret
  exact ⟨rfl, hb⟩
theorem order_all (b : ByteArray) (A1 A2 : Option Addr) (n1 c1 n2 c2 : Nat) (z1 z2 : List Int) (w : World) (hb : b.size ≤ 140737488351232) (h1 : n1 * 8 ≤ 140737488351232) (h2 : n2 * 8 ≤ 140737488351232)
    (r1 : Reads w w.heap.size 1 A1 n1 (z1.map (Value.int .i64))) (r2 : Reads w w.heap.size 1 A2 n2 (z2.map (Value.int .i64))) :
    Calls Try.prog 4 #[.string b, .slice A1 n1 c1, .slice A2 n2 c2] w fun e w' => e = .returned (.bool true) ∧ Below w.heap.size w w' := by
  by_cases h : b.size ≤ 300 ∧ 0 < n1 ∧ n1 ≤ 60 ∧ n2 ≤ 60
  · exact order_any b A1 A2 n1 c1 n2 c2 z1 z2 w hb h1 h2 r1 r2 h
  · exact order_out b A1 A2 n1 c1 n2 c2 w hb h1 h2 h
theorem peek_nil (m : Int) (w : World) :
    Calls Try.prog 12 #[.pointer none, .int .i64 m] w fun e w' => e = .returned (.string ⟨#[]⟩) ∧ w = w' := by
  have h1 : min m 0 ≤ 0 := by omega
  go_enter Try.func12, Try.ntmps12
  go_wp2_with fail
  refine (len_nil _).mono ?_
  rintro e w' ⟨rfl, rfl⟩
  go_wp2
  go_ret
  exact ⟨rfl, rfl⟩
theorem take_nil (m : Int) (w : World) :
    Calls Try.prog 11 #[.pointer none, .int .i64 m] w fun e w' => e = .returned (.string ⟨#[]⟩) ∧ w = w' := by
  go_enter Try.func11, Try.ntmps11
  go_wp2_with fail
  refine (peek_nil m _).mono ?_
  rintro e w' ⟨rfl, rfl⟩
  go_wp2_with fail
  refine (drop_zero _ _).mono ?_
  rintro e w' ⟨rfl, rfl⟩
  go_wp2
  go_ret
  exact ⟨rfl, rfl⟩
theorem clear_nil (w : World) :
    Calls Try.prog 13 #[.pointer none] w fun e w' => e = .returned (.int .i64 0) ∧ w = w' := by
  go_enter Try.func13, Try.ntmps13
  go_wp2_with fail
  refine (len_nil _).mono ?_
  rintro e w' ⟨rfl, rfl⟩
  go_wp2_with fail
  refine (drop_zero _ _).mono ?_
  rintro e w' ⟨rfl, rfl⟩
  go_wp2
  go_ret
  exact ⟨rfl, rfl⟩
/-- A slice of things done, as its cells by their index. -/
def OpsAt (w : World) (B : Nat) (A : Option Addr) (n : Nat) (K N : Nat → Int) (S : Nat → ByteArray) : Prop :=
  0 < n → ∃ b off, A = some ⟨b, off, none⟩ ∧ b < B ∧ ∀ i, i < n → w.cell? ⟨b, off + i * 3, none⟩ = some (.int .i64 (K i)) ∧ w.cell? ⟨b, off + i * 3 + 1, none⟩ = some (.int .i64 (N i)) ∧ w.cell? ⟨b, off + i * 3 + 2, none⟩ = some (.string (S i))
theorem size_list (x : ByteArray) : x.data.toList.length = x.size := by simp
theorem room_whole {B L b n : Nat} {w : World} {x : ByteArray} (r : RingL B L w b n x.data.toList) :
    Calls Try.prog 15 #[.pointer (some ⟨b, 0, none⟩)] w fun e w' => e = .returned (.int .i64 ((n : Int) - x.size)) ∧ ∃ q, w' = w.drewN q := by
  have h := ring_room r.is
  have hl := r.is.le.1
  rw [size_list] at h hl
  rw [show ((n : Int) - x.size) = ((n - x.size : Nat) : Int) by omega]
  exact h
theorem put_have {B L b n : Nat} {w : World} {x : ByteArray} (r : RingL B L w b n x.data.toList) (s : ByteArray) :
    ∃ v, v ≤ s.size ∧ min (s.size : Int) ((n : Int) - x.size) = (v : Int) ∧ v + x.size ≤ n ∧ Calls Try.prog 10 #[.pointer (some ⟨b, 0, none⟩), .string s] w fun e w' => e = .returned (.int .i64 (v : Nat)) ∧ RingL B L w' b n (x ++ s.extract 0 v).data.toList ∧ Keep B L w w' := by
  have hl := r.is.le.1
  rw [size_list] at hl
  refine ⟨min s.size (n - x.size), by omega, by omega, by omega, (ringL_put r s).mono ?_⟩
  rintro e w' ⟨rfl, r', hb⟩
  rw [size_list] at r' ⊢
  refine ⟨rfl, ?_, hb⟩
  rw [ByteArray.data_append, Array.toList_append, ext_list, List.drop_zero, Nat.min_comm, ← List.take_take, List.take_of_length_le (i := s.size) (by simp)]
  exact r'
theorem take_math (x : ByteArray) (m : Int) (k : Nat) (hk : min (max m 0) (x.size : Int) = (k : Int)) : (⟨(x.data.toList.take m.toNat).toArray⟩ : ByteArray) = x.extract 0 k ∧ x.data.toList.drop m.toNat = (x.extract k x.size).data.toList := by
  have hs := size_list x
  constructor
  · apply ByteArray.ext
    apply Array.toList_inj.1
    rw [ext_list, List.drop_zero]
    show List.take _ _ = _
    by_cases h : m.toNat ≤ x.size
    · rw [show k = m.toNat by omega]
    · rw [show k = x.size by omega, List.take_of_length_le (by omega), List.take_of_length_le (by omega)]
  · rw [ext_list, List.take_of_length_le (i := x.size) (by omega)]
    by_cases h : m.toNat ≤ x.size
    · rw [show k = m.toNat by omega]
    · rw [show k = x.size by omega, List.drop_of_length_le (by omega), List.drop_of_length_le (by omega)]
theorem take_have {B L b n : Nat} {w : World} {x : ByteArray} (r : RingL B L w b n x.data.toList) (m : Int) (k : Nat) (hk : min (max m 0) (x.size : Int) = (k : Int)) :
    Calls Try.prog 11 #[.pointer (some ⟨b, 0, none⟩), .int .i64 m] w fun e w' => e = .returned (.string (x.extract 0 k)) ∧ RingL B L w' b n (x.extract k x.size).data.toList ∧ Keep B L w w' := by
  have h := ringL_take r m
  rw [(take_math x m k hk).1, (take_math x m k hk).2] at h
  exact h
theorem peek_have {B L b n : Nat} {w : World} {x : ByteArray} (r : RingL B L w b n x.data.toList) (m : Int) (k : Nat) (hk : min (max m 0) (x.size : Int) = (k : Int)) :
    Calls Try.prog 12 #[.pointer (some ⟨b, 0, none⟩), .int .i64 m] w fun e w' => e = .returned (.string (x.extract 0 k)) ∧ ∃ q, w' = w.drewN q := by
  have h := ring_peek r.is m
  rw [(take_math x m k hk).1] at h
  exact h
theorem clear_have {B L b n : Nat} {w : World} {x : ByteArray} (r : RingL B L w b n x.data.toList) :
    Calls Try.prog 13 #[.pointer (some ⟨b, 0, none⟩)] w fun e w' => e = .returned (.int .i64 x.size) ∧ RingL B L w' b n (⟨#[]⟩ : ByteArray).data.toList ∧ Keep B L w w' := by
  have h := ringL_clear r
  rw [size_list] at h
  exact h
theorem len_empty {B b n : Nat} {w : World} (r : RingIs B w b n (⟨#[]⟩ : ByteArray).data.toList) :
    Calls Try.prog 14 #[.pointer (some ⟨b, 0, none⟩)] w fun e w' => e = .returned (.int .i64 0) ∧ w = w' := ring_len r
theorem room_empty {B b n : Nat} {w : World} (r : RingIs B w b n (⟨#[]⟩ : ByteArray).data.toList) :
    Calls Try.prog 15 #[.pointer (some ⟨b, 0, none⟩)] w fun e w' => e = .returned (.int .i64 (n : Nat)) ∧ ∃ q, w' = w.drewN q := ring_room r
theorem peek_empty {B b n : Nat} {w : World} (r : RingIs B w b n (⟨#[]⟩ : ByteArray).data.toList) (m : Int) :
    Calls Try.prog 12 #[.pointer (some ⟨b, 0, none⟩), .int .i64 m] w fun e w' => e = .returned (.string ⟨#[]⟩) ∧ ∃ q, w' = w.drewN q := by
  have h := ring_peek r m
  simp only [List.take_nil] at h
  exact h
theorem RingL.drew {B L b n : Nat} {h : List UInt8} {w : World} (r : RingL B L w b n h) : RingL B L w.drew b n h := r
theorem RingL.low {B B' L b n : Nat} {h : List UInt8} {w : World} (r : RingL B L w b n h) (hB : B' ≤ B) : RingL B' L w b n h := by
  obtain ⟨g, l, f, h1, h2, r⟩ := r
  exact ⟨g, l, f, by omega, by omega, r⟩
theorem RingL.own {B L b n : Nat} {h : List UInt8} {w : World} (r : RingL B L w b n h) (o : Obj) : RingL B L (w.alloc o) b n h := r.keep ((Below.refl _ _).alloc (Nat.le_refl _) _)
set_option maxHeartbeats 2000000 in
set_option maxRecDepth 100000 in
theorem plays_in (room : Int) (A : Option Addr) (n c : Nat) (K N : Nat → Int) (S : Nat → ByteArray) (w : World) (hn : n ≤ 100) (hO : OpsAt w w.heap.size A n K N S) (hS : ∀ i, i < n → (S i).size ≤ 9223372036854775807)
    (hN : ∀ i, i < n → -9223372036854775808 ≤ N i ∧ N i ≤ 9223372036854775807) :
    Calls Try.prog 3 #[.int .i64 room, .slice A n c] w fun e w' => e = .returned (.bool true) ∧ Below w.heap.size w w' := by
  obtain ⟨B, hB⟩ : ∃ B, B = w.heap.size := ⟨_, rfl⟩
  rw [← hB] at hO
  obtain ⟨M, hM⟩ : ∃ M : Nat, min (max room 0) 10000 = (M : Int) := ⟨(min (max room 0) 10000).toNat, by omega⟩
  have hM2 : M ≤ 10000 := by omega
  have HM := Lib.hid hM
  have HB := Lib.hid hB
  have HC := Lib.hid (Below.refl B w)
  have HO := Lib.hid hO
  have HS := Lib.hid hS
  have HN := Lib.hid hN
  clear hB hO hS hN hM
  go_enter Try.func3, Try.ntmps3
  go_wp2_with fail
  refine (alive_yes _).mono ?_
  rintro e w1 ⟨rfl, b1⟩
  have HC1 := Lib.hid (HC.out.trans (b1.mono (by rw [HB.out]; exact Nat.le_refl _)))
  have HZ : B ≤ w1.heap.size := by rw [HB.out]; exact b1.size
  clear b1 HC
  go_wp2_with fail
  refine (ringL_new room M _ HM.out).mono ?_
  rintro e w2 ⟨rfl, r1, b1⟩
  obtain ⟨L, hL⟩ : ∃ L, L = w1.heap.size + 2 := ⟨_, rfl⟩
  rw [← hL] at r1
  have R1 := r1.low HZ
  have HL2 : L ≤ w2.heap.size := by
    obtain ⟨g, l, f, h1, h2, h3, h4, h5, r⟩ := r1
    have := (Array.getElem?_eq_some_iff.1 h4).1
    omega
  clear hL
  have HC2 := Lib.hid (HC1.out.trans (b1.mono HZ))
  clear r1 b1 HC1
  obtain ⟨p, hp⟩ : ∃ p, p = w1.heap.size + 1 := ⟨_, rfl⟩
  rw [← hp] at R1 ⊢
  clear hp
  have hM := HM.out
  go_wp2
  clear hM
  go_loopw [7, 9, 10, 11, 30] (fun have_ _ _ _ i wr => ∃ (k : Nat) (h : ByteArray), k ≤ n ∧ i = .int .i64 k ∧ have_ = .string h ∧ RingL B L wr p M h.data.toList ∧ L ≤ wr.heap.size ∧ Hid (Below B w wr)) (fun _ _ _ _ i _ => n - (RowKit.intOf i).toNat)
  case atStart => exact ⟨0, ⟨#[]⟩, Nat.zero_le _, rfl, rfl, R1, HL2, HC2⟩
  case round =>
    obtain ⟨k, h, hk, rfl, rfl, r, hLw, hw⟩ := hrel
    clear R1 HC2 HL2
    have hhM : h.size ≤ M := by have := r.is.le.1; simpa using this
    by_cases hlt : k < n
    · obtain ⟨b, off, rfl, hbB, hcells⟩ := HO.out (by omega)
      obtain ⟨c0, c1, c2⟩ := hcells k hlt
      have c0' := (hw.out.cell (p := ⟨b, off + k * 3, none⟩) hbB).trans c0
      have c1' := (hw.out.cell (p := ⟨b, off + k * 3 + 1, none⟩) hbB).trans c1
      have c2' := (hw.out.cell (p := ⟨b, off + k * 3 + 2, none⟩) hbB).trans c2
      have hsS := HS.out k hlt
      have hnN := HN.out k hlt
      generalize K k = kind at *
      generalize N k = num at *
      generalize S k = str at *
      clear c0 c1 c2 hcells
      have hBw : B ≤ wr.heap.size := by have := hw.out.size; have := HB.out; omega
      by_cases h5 : 500 < str.size
      · go_wp2
        go_ret
        refine ⟨rfl, ?_⟩
        rw [← HB.out]
        exact hw.out.alloc hBw _
      · obtain ⟨kk, hkk⟩ : ∃ kk : Nat, min (max num 0) (h.size : Int) = (kk : Int) := ⟨(min (max num 0) (h.size : Int)).toNat, by omega⟩
        have HKK := Lib.hid hkk
        have hkl : kk ≤ h.size := by omega
        have hkk0 := HKK.out
        clear hkk
        by_cases k1 : kind = 1
        · subst k1
          obtain ⟨v, hv1, hv2, hv3, P10⟩ := put_have (r.own (.cells #[.int .i64 1, .int .i64 num, .string str] 27)) str
          have P10' := Lib.hid P10
          clear P10
          go_wp2_with fail
          refine P10'.out.mono ?_
          rintro e v1 ⟨rfl, r2, b2⟩
          have hw2 := Lib.hid ((hw.out.alloc hBw _).trans b2.below)
          have hL2 : L ≤ v1.heap.size := by have := b2.below.size; simp at this; omega
          have oB : v1.cell? ⟨wr.heap.size, 2, none⟩ = some (.string str) := (b2.cell hLw).trans (by simp)
          have hse : (str.extract 0 v).size = v := by simp; omega
          have hvM : h.size + v ≤ M := by omega
          clear hkk0 b2
          go_wp2_with fail
          generalize h ++ str.extract 0 v = H2 at *
          have hH2 : H2.size ≤ M := by have := r2.is.le.1; simpa using this
          refine (len_whole r2.is).mono ?_
          rintro e v2 ⟨rfl, rfl⟩
          go_wp2_with fail
          refine (room_whole r2).mono ?_
          rintro e v2 ⟨rfl, q1, rfl⟩
          go_wp2_with fail
          refine (peek_whole (r2.is.drewN q1) _ (Int.le_refl _)).mono ?_
          rintro e v3 ⟨rfl, q2, rfl⟩
          go_wp2
          go_roundw
          case rel => exact ⟨k + 1, _, by omega, by go_num, rfl, r2.drewN _, hL2, below_drewN hw2.out _⟩
          case measure => simp [RowKit.intOf]; omega
        have k1' : ((kind : Int) == 1) = false := by simpa using k1
        by_cases k2 : kind = 2
        · subst k2
          clear k1
          go_wp2
          have hE : ((h.extract 0 kk).toList == (h.extract 0 kk).toList) = true := by simp
          go_region_with (go_at_call 11; refine (take_have (RingL.drew (RingL.own r _)) num kk HKK.out).mono ?_; rintro e v1 ⟨rfl, r2, b2⟩; have oN : v1.cell? ⟨wr.heap.size, 1, none⟩ = some (.int .i64 num) := (b2.cell hLw).trans (by simp))
          have hw2 := Lib.hid ((hw.out.alloc hBw _).drew.trans b2.below)
          have hL2 : L ≤ v1.heap.size := by have := b2.below.size; simp at this; omega
          clear hkk0 b2 hE
          go_wp2_with fail
          generalize h.extract kk h.size = H2 at *
          have hH2 : H2.size ≤ M := by have := r2.is.le.1; simpa using this
          refine (len_whole r2.is).mono ?_
          rintro e v2 ⟨rfl, rfl⟩
          go_wp2_with fail
          refine (room_whole r2).mono ?_
          rintro e v2 ⟨rfl, q1, rfl⟩
          go_wp2_with fail
          refine (peek_whole (r2.is.drewN q1) _ (Int.le_refl _)).mono ?_
          rintro e v3 ⟨rfl, q2, rfl⟩
          go_wp2
          go_roundw
          case rel => exact ⟨k + 1, _, by omega, by go_num, rfl, r2.drewN _, hL2, below_drewN hw2.out _⟩
          case measure => simp [RowKit.intOf]; omega
        have k2' : ((kind : Int) == 2) = false := by simpa using k2
        by_cases k3 : kind = 3
        · subst k3
          clear k1 k2
          have hL2 : L ≤ (wr.alloc (.cells #[.int .i64 3, .int .i64 num, .string str] 27)).heap.size := by simp; omega
          have hw2 := Lib.hid (hw.out.alloc hBw (.cells #[.int .i64 3, .int .i64 num, .string str] 27))
          have r2 := RingL.own r (.cells #[.int .i64 3, .int .i64 num, .string str] 27)
          go_wp2
          go_quiet ((go_at_call 12; exact Calls.quiet_of (peek_have (RingL.drewN (RingL.own r _) _) num kk HKK.out)))
          clear hkk0
          go_wp2_with fail
          refine (len_whole (r2.drewN nq).is).mono ?_
          rintro e v2 ⟨rfl, rfl⟩
          go_wp2_with fail
          refine (room_whole (r2.drewN nq)).mono ?_
          rintro e v2 ⟨rfl, q1, rfl⟩
          go_wp2_with fail
          refine (peek_whole (RingIs.drewN r2.is _) _ (Int.le_refl _)).mono ?_
          rintro e v3 ⟨rfl, q2, rfl⟩
          go_wp2
          go_roundw
          case rel => exact ⟨k + 1, _, by omega, by go_num, rfl, r2.drewN _, hL2, below_drewN hw2.out _⟩
          case measure => simp [RowKit.intOf]; omega
        have k3' : ((kind : Int) == 3) = false := by simpa using k3
        by_cases k4 : kind = 4
        · subst k4
          clear k1 k2 k3
          go_wp2_with fail
          refine (clear_have (RingL.own r _)).mono ?_
          rintro e v1 ⟨rfl, r2, b2⟩
          have hw2 := Lib.hid ((hw.out.alloc hBw _).trans b2.below)
          have hL2 : L ≤ v1.heap.size := by have := b2.below.size; simp at this; omega
          clear hkk0 b2
          go_wp2_with fail
          refine (len_empty r2.is).mono ?_
          rintro e v2 ⟨rfl, rfl⟩
          go_wp2_with fail
          refine (room_empty r2.is).mono ?_
          rintro e v2 ⟨rfl, q1, rfl⟩
          go_wp2_with fail
          refine (peek_empty (r2.is.drewN q1) _).mono ?_
          rintro e v3 ⟨rfl, q2, rfl⟩
          go_wp2
          go_roundw
          case rel => exact ⟨k + 1, _, by omega, by go_num, rfl, r2.drewN _, hL2, below_drewN hw2.out _⟩
          case measure => simp [RowKit.intOf]; omega
        have k4' : ((kind : Int) == 4) = false := by simpa using k4
        clear k1 k2 k3 k4
        have hL2 : L ≤ (wr.alloc (.cells #[.int .i64 kind, .int .i64 num, .string str] 27)).heap.size := by simp; omega
        have hw2 := Lib.hid (hw.out.alloc hBw (.cells #[.int .i64 kind, .int .i64 num, .string str] 27))
        have r2 := RingL.own r (.cells #[.int .i64 kind, .int .i64 num, .string str] 27)
        go_wp2_with fail
        refine (len_whole r2.is).mono ?_
        rintro e v2 ⟨rfl, rfl⟩
        go_wp2_with fail
        refine (room_whole r2).mono ?_
        rintro e v2 ⟨rfl, q1, rfl⟩
        go_wp2_with fail
        refine (peek_whole (RingIs.drewN r2.is _) _ (Int.le_refl _)).mono ?_
        rintro e v3 ⟨rfl, q2, rfl⟩
        go_wp2
        go_roundw
        case rel => exact ⟨k + 1, _, by omega, by go_num, rfl, r2.drewN _, hL2, below_drewN hw2.out _⟩
        case measure => simp [RowKit.intOf]; omega
    · have hw2 := Lib.hid (HB.out ▸ hw.out : Below w.heap.size w wr)
      go_wp2_with fail
      refine (put_nil _ _).mono ?_
      rintro e v2 ⟨rfl, rfl⟩
      go_wp2_with fail
      refine (take_nil _ _).mono ?_
      rintro e v2 ⟨rfl, rfl⟩
      go_wp2_with fail
      refine (peek_nil _ _).mono ?_
      rintro e v2 ⟨rfl, rfl⟩
      go_wp2_with fail
      refine (len_nil _).mono ?_
      rintro e v2 ⟨rfl, rfl⟩
      go_wp2_with fail
      refine (room_nil _).mono ?_
      rintro e v2 ⟨rfl, rfl⟩
      go_wp2_with fail
      refine (clear_nil _).mono ?_
      rintro e v2 ⟨rfl, rfl⟩
      go_wp2
      go_ret
      exact ⟨rfl, hw2.out⟩
set_option maxRecDepth 100000 in
set_option maxHeartbeats 400000 in
theorem plays_out (room : Int) (A : Option Addr) (n c : Nat) (w : World) (hn : 100 < n) (hm : n ≤ 9223372036854775807) :
    Calls Try.prog 3 #[.int .i64 room, .slice A n c] w fun e w' => e = .returned (.bool true) ∧ Below w.heap.size w w' := by
  go_enter Try.func3, Try.ntmps3
  go_wp2_with fail
  refine (alive_yes _).mono ?_
  rintro e w1 ⟨rfl, hb⟩
  go_wp2
  go_ret
  exact ⟨rfl, hb⟩
theorem plays_any (room : Int) (A : Option Addr) (n c : Nat) (K N : Nat → Int) (S : Nat → ByteArray) (w : World) (hm : n ≤ 9223372036854775807) (hO : OpsAt w w.heap.size A n K N S) (hS : ∀ i, i < n → (S i).size ≤ 9223372036854775807)
    (hN : ∀ i, i < n → -9223372036854775808 ≤ N i ∧ N i ≤ 9223372036854775807) :
    Calls Try.prog 3 #[.int .i64 room, .slice A n c] w fun e w' => e = .returned (.bool true) ∧ Below w.heap.size w w' := by
  by_cases h : n ≤ 100
  · exact plays_in room A n c K N S w h hO hS hN
  · exact plays_out room A n c w (by omega) hm
end Go.Proofs.Yteaejjnbficofaa
