/-
  CONTRACTS of the book's documents out of numbers (truchmanbook.Doc, text, Open).
-/
import Derived.Test.YtkfidnfnehnhoaaLst
namespace Go.Proofs.Ytkfidnfnehnhoaa
open Go.RowKit
open Go.Lib
def pieceL (i : Nat) : List UInt8 :=
  if i = 0 then [97] else if i = 1 then [34] else if i = 2 then [92] else if i = 3 then [10] else if i = 4 then [195, 169] else if i = 5 then [1] else if i = 6 then [240, 157, 132, 158] else [122]
/-- A text out of a number, as the loop makes it: k rounds are left. -/
def textGo (x : Nat) : Nat → List UInt8 → List UInt8
  | 0, acc => acc
  | k + 1, acc => textGo x k (acc ++ pieceL (x / 2 ^ ((k + 1) % 8) % 8))
def textL (x : Nat) : List UInt8 := textGo x (x % 8) []
theorem piece_len (i : Nat) : (pieceL i).length ≤ 4 := by
  unfold pieceL
  repeat' split
  all_goals simp
theorem and_nat (r m : Nat) (h : r < 9223372036854775808) (hm : m < 9223372036854775808) : bits .and .i64 (r : Int) (m : Int) = ((r &&& m : Nat) : Int) := by
  have h1 : (BitVec.ofInt 64 (r : Int)).toNat = r := by rw [BitVec.ofInt_natCast, BitVec.toNat_ofNat]; exact Nat.mod_eq_of_lt (by omega)
  have h2 : (BitVec.ofInt 64 (m : Int)).toNat = m := by rw [BitVec.ofInt_natCast, BitVec.toNat_ofNat]; exact Nat.mod_eq_of_lt (by omega)
  show IntKind.i64.wrap ((BitVec.ofInt 64 (r : Int) &&& BitVec.ofInt 64 (m : Int)).toNat : Int) = _
  have h3 : r &&& m ≤ m := Nat.and_le_right
  rw [BitVec.toNat_and, h1, h2, IntKind.wrap_i64]
  omega
theorem dand7 (r : Nat) (h : r < 65536) : bits .and .i64 (r : Int) 7 = ((r % 8 : Nat) : Int) := by
  have := and_nat r 7 (by omega) (by omega)
  rw [show r &&& 7 = r % 8 from Nat.and_two_pow_sub_one_eq_mod r 3] at this
  exact this
theorem catD (l k : List UInt8) : (⟨l.toArray⟩ : ByteArray) ++ ⟨k.toArray⟩ = ⟨(l ++ k).toArray⟩ := by
  apply ByteArray.ext
  simp
theorem piece_at (i : Nat) (hi : i < 8) (h : i < [Value.string ⟨#[97]⟩, .string ⟨#[34]⟩, .string ⟨#[92]⟩, .string ⟨#[10]⟩, .string ⟨#[195, 169]⟩, .string ⟨#[1]⟩, .string ⟨#[240, 157, 132, 158]⟩, .string ⟨#[122]⟩].length) :
    ([Value.string ⟨#[97]⟩, .string ⟨#[34]⟩, .string ⟨#[92]⟩, .string ⟨#[10]⟩, .string ⟨#[195, 169]⟩, .string ⟨#[1]⟩, .string ⟨#[240, 157, 132, 158]⟩, .string ⟨#[122]⟩])[i]'h = .string ⟨(pieceL i).toArray⟩ := by
  match i, hi with
  | 0, _ => rfl
  | 1, _ => rfl
  | 2, _ => rfl
  | 3, _ => rfl
  | 4, _ => rfl
  | 5, _ => rfl
  | 6, _ => rfl
  | 7, _ => rfl
set_option maxHeartbeats 1000000 in
theorem text_any (x : Nat) (hx : x < 65536) (w : World) : Calls Try.prog 33 #[.int .i64 x] w fun r w' => r = .returned (.string ⟨(textL x).toArray⟩) ∧ Below w.heap.size w w' := by
  obtain ⟨Z, hZ⟩ : ∃ Z, textL x = Z := ⟨_, rfl⟩
  rw [hZ]
  have HZ := Lib.hid hZ
  have ha := dand7 x hx
  have HX := Lib.hid hx
  clear hZ hx
  go_enter Try.func33, Try.ntmps33
  go_wp2
  go_loopw [3, 4] (fun s k wr => ∃ (j : Nat) (acc : List UInt8), s = .string ⟨acc.toArray⟩ ∧ k = .int .i64 j ∧ j ≤ 7 ∧ acc.length ≤ 4 * (7 - j) ∧ Hid (textGo x j acc = Z) ∧ Hid (Below w.heap.size w wr)) (fun _ k _ => (RowKit.intOf k).toNat)
  case atStart => exact ⟨x % 8, [], rfl, rfl, by omega, by simp, HZ, Lib.hid (Below.refl _ _)⟩
  case round =>
    obtain ⟨j, acc, rfl, rfl, hj, hl, HT, HB⟩ := hrel
    cases j with
    | zero =>
      go_wp2
      go_ret
      exact ⟨by rw [← HT.out]; rfl, HB.out⟩
    | succ j =>
      obtain ⟨i, hi⟩ : ∃ i, i = x / 2 ^ ((j + 1) % 8) % 8 := ⟨_, rfl⟩
      have hib : i < 8 := by omega
      have hd : x / 2 ^ ((j + 1) % 8) < 65536 := Nat.lt_of_le_of_lt (Nat.div_le_self _ _) HX.out
      have hb7 : bits .and .i64 ((x : Int) / 2 ^ ((j + 1) % 8)) 7 = (i : Int) := by
        have := dand7 (x / 2 ^ ((j + 1) % 8)) hd
        rw [hi, ← this]
        congr 1
      have hpc := piece_at i hib
      obtain ⟨P, hP⟩ : ∃ P : ByteArray, ⟨(pieceL i).toArray⟩ = P := ⟨_, rfl⟩
      obtain ⟨A, hA⟩ : ∃ A : ByteArray, ⟨acc.toArray⟩ = A := ⟨_, rfl⟩
      have hps : P.size ≤ 4 := by
        rw [← hP]
        have := piece_len i
        simpa [ByteArray.size] using this
      have has : A.size ≤ 28 := by
        rw [← hA]
        have : acc.length ≤ 28 := by omega
        simpa [ByteArray.size] using this
      have hcat : A ++ P = ⟨(acc ++ pieceL i).toArray⟩ := by rw [← hA, ← hP]; exact catD _ _
      have hlen : (acc ++ pieceL i).length ≤ 4 * (7 - j) := by
        have := piece_len i
        rw [List.length_append]
        omega
      have hgo : textGo x j (acc ++ pieceL i) = Z := by rw [← HT.out, hi]; rfl
      rw [hP] at hpc
      rw [hA]
      have HC := Lib.hid hcat
      have HL := Lib.hid hlen
      have HG := Lib.hid hgo
      have hov : ¬ 9223372036854775807 < A.size + P.size := by omega
      clear hi hd hP hA hcat hlen hgo hl
      go_wp2
      go_roundw
      case rel => exact ⟨j, acc ++ pieceL i, by rw [HC.out], rfl, by omega, HL.out, HG, Lib.hid (up_alloc HB.out _)⟩
      case measure => simp [RowKit.intOf]
theorem heap_new2 (w : World) (X Y : Obj) : ((w.alloc X).alloc Y).heap[w.heap.size + 1]? = some Y := by
  have := heap_alloc_new (w.alloc X) Y
  rwa [World.size_alloc] at this
def openE (e : Ev) : Ev := if e.k = 5 ∨ e.k = 6 then ⟨e.k, e.y, e.m, e.t, -1⟩ else e
theorem evs_cells (e : Ev) : evsC [e] = [.int .i64 e.k, .bool e.y, .int .u64 e.m, .string e.t, .int .i64 e.c] := by simp [evs_one, evCells]
end Go.Proofs.Ytkfidnfnehnhoaa
