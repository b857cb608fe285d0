/-
  CONTRACTS of lexer.Lexer, part A: told, end, endNumber; where a Lexer stands.
-/
import Derived.Test.YteonbajndghfcaaTok
import Derived.Test.YteonbajndghfcaaEscE
import Derived.Test.YteonbajndghfcaaDecEnd
namespace Go.Proofs.Yteonbajndghfcaa
open Go.RowKit
open Go.Lib
/-- The cells of a Lexer that stands between tokens, or behind an error. -/
abbrev lxZ (e : Int) : List Value := [.int .i64 e, .int .i64 0, .int .i64 0, .int .i64 0, .int .u8 0, .int .u8 0, .bool false, .int .i64 0, .int .i64 0, .int .i64 0, .string ⟨#[]⟩, .int .i64 0, .int .i64 0, .bool false, .int .u64 0, .int .u64 0, .string ⟨#[]⟩, .int .i64 0]
set_option maxRecDepth 100000 in
set_option maxHeartbeats 1600000 in
theorem told_ok (p : Value) (v : Value) (w : World) : Calls Try.prog 15 #[p, v, .int .i64 0] w fun e w' => e = .returned (.tuple #[v, .int .i64 0]) ∧ w' = w := by
  go_enter Try.func15, Try.ntmps15
  go_wp2
  go_ret2
  exact ⟨rfl, rfl⟩
set_option maxRecDepth 100000 in
set_option maxHeartbeats 1600000 in
theorem told_err {w : World} {b o : Nat} (h : Room w b o 18) (v : Value) (e : Nat) (he : e ≠ 0) :
    Calls Try.prog 15 #[.pointer (some ⟨b, o, none⟩), v, .int .i64 e] w fun r w' => r = .returned (.tuple #[.slice none 0 0, .int .i64 e]) ∧ At w' b o (lxZ e) ∧ Sub b o 18 w w' := by
  have hz : ((e : Int) != 0) = true := by simp; omega
  have HT := Lib.hid h
  clear h he
  go_enter Try.func15, Try.ntmps15
  go_wp2_with (refine wpList_store_room rfl 35 _ _ rfl b o (lxZ e) rfl rfl HT.out (by kernel_rfl) (by kernel_rfl) ?_)
  intro w1 HP
  go_wp2
  go_ret2
  exact ⟨rfl, HP.out⟩
theorem sub_of_alloc {b o n : Nat} {w w1 : World} {x : Obj} (h : Sub b o n (w.alloc x) w1) (hb : b < w.heap.size) : Sub b o n w w1 := (sub_alloc b o n w x hb).trans h
set_option maxRecDepth 100000 in
set_option maxHeartbeats 1600000 in
theorem lend_at {w : World} {b o : Nat} (h : Room w b o 18) (t : Tk) :
    Calls Try.prog 24 #[.pointer (some ⟨b, o, none⟩), tkV t] w fun r w' => ∃ v, r = .returned v ∧ Tks w w' v [t] ∧ At w' b o (lxZ 0) ∧ Sub b o 18 w w' := by
  have HT := Lib.hid (h.alloc (.cells #[.int .u8 t.k, .string ⟨t.t.toArray⟩, .bool t.n.1, .int .u64 t.n.2] 42))
  have HB := Lib.hid h.lt
  have HK : Hid (∀ W : World, w.heap.size ≤ W.heap.size → Tks w (W.alloc (.cells #[.int .u8 t.k, .string ⟨t.t.toArray⟩, .bool t.n.1, .int .u64 t.n.2] 42)) (.slice (some ⟨W.heap.size, 0, none⟩) 1 1) [t]) := Lib.hid (fun W hW => tks_one w W t hW)
  unfold tkV
  generalize (t.k : Int) = x0 at *
  generalize (⟨t.t.toArray⟩ : ByteArray) = x1 at *
  generalize t.n.1 = x2 at *
  generalize (t.n.2 : Int) = x3 at *
  clear h
  go_enter Try.func24, Try.ntmps24
  go_wp2_with (refine wpList_store_room rfl 35 _ _ rfl b o (lxZ 0) rfl rfl HT.out (by kernel_rfl) (by kernel_rfl) ?_)
  intro w1 HP
  have hB := Blk.lift (blk_new w #[.int .u8 x0, .string x1, .bool x2, .int .u64 x3] 42) (w2 := w1) (row := some b) ⟨HP.out.2.step.os, HP.out.2.step.tape, HP.out.2.step.output, HP.out.2.step.size, fun k hk hb => HP.out.2.step.block k hk (by simpa using hb)⟩ (by have := HB.out; simp; omega)
  have c0 := hB.cell 0
  have c1 := hB.cell 1
  have c2 := hB.cell 2
  have c3 := hB.cell 3
  simp only [List.getElem?_toArray, List.getElem?_cons_zero, List.getElem?_cons_succ] at c0 c1 c2 c3
  have hsz : w.heap.size ≤ w1.heap.size := by have := HP.out.2.step.size; simp at this; omega
  have HS := Lib.hid hsz
  clear hB hsz
  go_wp2
  go_ret
  refine ⟨_, rfl, HK.out w1 HS.out, ?_, ?_⟩
  · exact HP.out.1.alloc (by simp) _
  · exact (sub_of_alloc HP.out.2 HB.out).alloc _ HB.out
end Go.Proofs.Yteonbajndghfcaa
