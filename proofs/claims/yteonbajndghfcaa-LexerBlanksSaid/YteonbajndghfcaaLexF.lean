/-
  CONTRACTS of lexer.Lexer, part F: letter (a byte of a word), digit (a byte of a number, or the first one behind it).
-/
import Derived.Test.YteonbajndghfcaaLexE
import Derived.Deep.RegionLaw
namespace Go.Proofs.Yteonbajndghfcaa
open Go.RowKit
open Go.Lib
theorem Wrd.size {k i : Nat} {W : ByteArray} {r : List Nat} (h : Wrd k W i r) : W.size = i + r.length ∧ W.size ≤ 5 ∧ r ≠ [] := by
  obtain ⟨L, hL, rfl, h1, h2, rfl⟩ := h
  have := (words_low hL).1
  refine ⟨by rw [bytesN_size, List.length_drop]; omega, by rw [bytesN_size]; omega, fun e => ?_⟩
  have := congrArg List.length e
  simp at this
  omega
theorem Wrd.next {k i : Nat} {W : ByteArray} {x : Nat} {q : List Nat} (h : Wrd k W i (x :: q)) (hq : q ≠ []) : Wrd k W (i + 1) q := by
  have hs := h.size.1
  obtain ⟨L, hL, rfl, h1, h2, h3⟩ := h
  have hq0 : 0 < q.length := List.length_pos_iff.2 hq
  rw [bytesN_size, List.length_cons] at hs
  refine ⟨L, hL, rfl, by omega, by omega, ?_⟩
  rw [← List.drop_drop, ← h3]
  rfl
theorem below_dq {B : Nat} {w w' : World} (h : Below B w w') (q : Nat) : Below B w (w'.drewN q) := ⟨h.os, h.tape, h.output, h.size, h.block⟩
set_option maxRecDepth 100000 in
set_option maxHeartbeats 2000000 in
theorem letter_no {w : World} {b o : Nat} {k i x : Nat} {q : List Nat} {W : ByteArray} (hW : Wrd k W i (x :: q)) (h16 : At w b (o + 16) [.string W, .int .i64 (i : Nat)]) (y : Nat) (hy : y < 256) (hne : y ≠ x) :
    Calls Try.prog 21 #[.pointer (some ⟨b, o, none⟩), .int .u8 y] w fun r w' => r = .returned (.tuple #[.slice none 0 0, .int .i64 2]) ∧ Below w.heap.size w w' := by
  have HL := Lib.hid (fun W0 => letter_word hW W0)
  obtain ⟨⟨c0, f0⟩, c1, f1⟩ := at_two h16
  have hz : ((x : Int) != (y : Int)) = true := by simp; omega
  have hw : IntKind.i32.wrap (y : Int) = (y : Int) := wrap32 _ (by omega) (by omega)
  have HB := Lib.hid (fun q => below_dq (Below.refl w.heap.size w) q)
  clear hW h16 hne
  go_enter Try.func21, Try.ntmps21
  go_wp2
  go_region_with (go_at_call 28; refine (HL.out _).mono ?_; rintro r w1 ⟨rfl, hb⟩)
  all_goals
    have HBB := Lib.hid hb
    clear hb
    go_wp2
    go_ret2
    exact ⟨rfl, HBB.out.os, HBB.out.tape, HBB.out.output, HBB.out.size, HBB.out.block⟩
set_option maxRecDepth 100000 in
set_option maxHeartbeats 4000000 in
theorem letter_more {w : World} {b o : Nat} {k i x : Nat} {q : List Nat} {W : ByteArray} (hW : Wrd k W i (x :: q)) (hx : x < 256) (hq : q ≠ []) (h16 : At w b (o + 16) [.string W, .int .i64 (i : Nat)]) (hb : b < w.heap.size) :
    Calls Try.prog 21 #[.pointer (some ⟨b, o, none⟩), .int .u8 x] w fun r w' => r = .returned (.tuple #[.slice none 0 0, .int .i64 0]) ∧ ∃ w1, Below w.heap.size w w1 ∧ w' = w1.setCell ⟨b, o + 17, none⟩ (.int .i64 ((i + 1 : Nat) : Int)) := by
  have HL := Lib.hid (fun W0 => letter_word hW W0)
  obtain ⟨⟨c0, f0⟩, c1, f1⟩ := at_two h16
  have hw : IntKind.i32.wrap (x : Int) = (x : Int) := wrap32 _ (by omega) (by omega)
  obtain ⟨hs1, hs2, _⟩ := hW.size
  have hq0 : 0 < q.length := List.length_pos_iff.2 hq
  have hi : i ≤ 5 := by omega
  have hlt : ((i : Int) + 1 < (W.size : Int)) = True := by simp only [List.length_cons] at hs1; simp only [eq_iff_iff, iff_true]; omega
  have hsm : W.size ≤ 1000 := by omega
  have hcast : (((i + 1 : Nat) : Int)) = (i : Int) + 1 := by omega
  rw [hcast]
  have HG : Hid (∀ q w1, Below (w.drewN q).heap.size (w.drewN q) w1 → (w1.cell? ⟨b, o + 16, none⟩ = some (.string W) ∧ w1.frozen? ⟨b, o + 16, none⟩ = false) ∧ (w1.cell? ⟨b, o + 17, none⟩ = some (.int .i64 i) ∧ w1.frozen? ⟨b, o + 17, none⟩ = false) ∧ Below w.heap.size w w1) := Lib.hid (fun q w1 hB => by
    have hB' : Below w.heap.size w w1 := ⟨hB.os, hB.tape, hB.output, hB.size, hB.block⟩
    have hA := h16.keep (hB'.block b hb)
    exact ⟨(at_two hA).1, (at_two hA).2, hB'⟩)
  clear hW h16 hs1 hs2 hq hq0 hcast
  go_enter Try.func21, Try.ntmps21
  go_wp2
  go_region_with (go_at_call 28; refine (HL.out _).mono ?_; rintro r w1 ⟨rfl, hb1⟩)
  all_goals
    obtain ⟨⟨d0, e0⟩, ⟨d1, e1⟩, hB1⟩ := HG.out 1 w1 hb1
    have HBB := Lib.hid hB1
    clear hb1 hB1 c0 f0 c1 f1
    go_wp2
    go_quiet (fail)
    go_wp2
    go_ret2
    refine ⟨rfl, _, below_dq HBB.out _, rfl⟩
end Go.Proofs.Yteonbajndghfcaa
