/-
  CONTRACTS of lexer.Lexer, part B: letterOf, kindOf, wordOf.
-/
import Derived.Test.YteonbajndghfcaaLexA
import Derived.Laws.RangeAny
namespace Go.Proofs.Yteonbajndghfcaa
open Go.RowKit
open Go.Lib
theorem dec_low (s : ByteArray) (pos : Nat) (h : pos < s.size) (h1 : (s[pos]'h).toNat < 128) : Utf8.decode s pos = ((s[pos]'h).toNat, 1) := by
  simp only [Utf8.decode, get_at s pos h, h1, if_true]
set_option maxHeartbeats 1000000 in
/-- A letter of a text of bytes below 128. -/
theorem letter_any (s : ByteArray) (i : Nat) (hi : i < s.size) (hb : ∀ k (h : k < s.size), (s[k]'h).toNat < 128) (w : World) :
    Calls Try.prog 28 #[.string s, .int .i64 i] w fun e w' => e = .returned (.int .i32 ((s[i]'hi).toNat : Nat)) ∧ Below w.heap.size w w' := by
  obtain ⟨xv, hx⟩ : ∃ xv, (s[i]'hi).toNat = xv := ⟨_, rfl⟩
  rw [hx]
  have HX := Lib.hid hx
  have HBS := Lib.hid hb
  clear hx hb
  go_enter Try.func28, Try.ntmps28
  go_wp2
  go_loopw [5, 6] (fun _ _ wr => ∃ pos : Nat, pos ≤ i ∧ Hid (wr = w.iter s pos)) (fun _ _ wr => s.size - wr.iterPos w.heap.size)
  case atStart => exact ⟨0, by omega, Lib.hid rfl⟩
  case round =>
    obtain ⟨pos, hpi, HW⟩ := hrel
    obtain rfl := HW.out
    have hp : pos < s.size := by omega
    have hnext : ∀ ty, (Instr.next (.pointer (some ⟨w.heap.size, 0, none⟩)) true ty).run Try.prog (w.iter s pos) = _ := fun ty => run_next_any w s pos ty hp
    rw [dec_low s pos hp (HBS.out pos hp)] at hnext
    have hr : (s[pos]'hp).toNat < 128 := HBS.out pos hp
    have hB : Hid (Below w.heap.size w (w.iter s (pos + 1))) := Lib.hid ((Below.refl _ w).alloc (Nat.le_refl _) _)
    have hm : (w.iter s (pos + 1)).iterPos w.heap.size = pos + 1 := World.iterPos_iter w s (pos + 1)
    have hm0 : (w.iter s pos).iterPos w.heap.size = pos := World.iterPos_iter w s pos
    by_cases he : pos = i
    · have hz : ((pos : Int) == (i : Int)) = true := by rw [beq_iff_eq]; omega
      have hx : (s[pos]'hp).toNat = xv := by have := HX.out; simp only [← he] at this; exact this
      rw [hx] at hnext hr
      clear hx he
      generalize w.iter s (pos + 1) = W2 at *
      generalize w.iter s pos = W1 at *
      go_wp2
      go_ret
      exact ⟨rfl, hB.out⟩
    · have hz : ((pos : Int) == (i : Int)) = false := by rw [beq_eq_false_iff_ne]; omega
      generalize (s[pos]'hp).toNat = y at hnext hr
      go_wp2
      go_roundw
      case rel => exact ⟨pos + 1, by omega, Lib.hid rfl⟩
      case measure => rw [hm, hm0]; omega
/-! ### The three words -/
def wordsX : List (Nat × List Nat) := [(116, [116, 114, 117, 101]), (102, [102, 97, 108, 115, 101]), (48, [110, 117, 108, 108])]
def bytesN (l : List Nat) : ByteArray := ⟨(l.map UInt8.ofNat).toArray⟩
/-- A word of which the letters ahead of place i are there, and those of r lack. -/
def Wrd (k : Nat) (W : ByteArray) (i : Nat) (r : List Nat) : Prop := ∃ L, (k, L) ∈ wordsX ∧ W = bytesN L ∧ 1 ≤ i ∧ i < L.length ∧ r = L.drop i
theorem words_low {k : Nat} {L : List Nat} (h : (k, L) ∈ wordsX) : L.length ≤ 5 ∧ ∀ x ∈ L, x < 128 := by
  simp only [wordsX, List.mem_cons, Prod.mk.injEq, List.not_mem_nil, or_false] at h
  rcases h with ⟨_, rfl⟩ | ⟨_, rfl⟩ | ⟨_, rfl⟩ <;> decide
theorem bytesN_size (l : List Nat) : (bytesN l).size = l.length := by simp [bytesN, ByteArray.size]
theorem bytesN_get (l : List Nat) (i : Nat) (h : i < (bytesN l).size) (hl : ∀ x ∈ l, x < 256) : ((bytesN l)[i]'h).toNat = l[i]'(by rw [bytesN_size] at h; exact h) := by
  have h' : i < l.length := by rw [bytesN_size] at h; exact h
  have : (bytesN l)[i]'h = UInt8.ofNat l[i] := by simp [bytesN, ByteArray.getElem_eq_getElem_data]
  rw [this]
  have := hl l[i] (List.getElem_mem h')
  simp
  omega
/-- letterOf of a word. -/
theorem letter_word {k i : Nat} {W : ByteArray} {x : Nat} {q : List Nat} (h : Wrd k W i (x :: q)) (w : World) :
    Calls Try.prog 28 #[.string W, .int .i64 i] w fun e w' => e = .returned (.int .i32 (x : Nat)) ∧ Below w.heap.size w w' := by
  obtain ⟨L, hL, rfl, h1, h2, h3⟩ := h
  obtain ⟨hl, hb⟩ := words_low hL
  have hi : i < (bytesN L).size := by rw [bytesN_size]; exact h2
  have := letter_any (bytesN L) i hi (fun k hk => by rw [bytesN_get _ _ _ (fun x hx => by have := hb x hx; omega)]; exact hb _ (List.getElem_mem _)) w
  rw [bytesN_get _ _ _ (fun x hx => by have := hb x hx; omega)] at this
  rw [List.drop_eq_getElem_cons h2] at h3
  injection h3 with h3 _
  rw [h3]
  exact this
theorem kindOf_any {k i : Nat} {W : ByteArray} {r : List Nat} (h : Wrd k W i r) (w : World) :
    Calls Try.prog 29 #[.string W] w fun e w' => e = .returned (.int .u8 k) ∧ w' = w := by
  obtain ⟨L, hL, rfl, _⟩ := h
  simp only [wordsX, List.mem_cons, Prod.mk.injEq, List.not_mem_nil, or_false] at hL
  rcases hL with ⟨rfl, rfl⟩ | ⟨rfl, rfl⟩ | ⟨rfl, rfl⟩
  · show Calls Try.prog 29 #[.string ⟨#[116, 114, 117, 101]⟩] w _
    go_enter Try.func29, Try.ntmps29
    go_wp2
    go_ret
    exact ⟨rfl, rfl⟩
  · show Calls Try.prog 29 #[.string ⟨#[102, 97, 108, 115, 101]⟩] w _
    go_enter Try.func29, Try.ntmps29
    go_wp2
    go_ret
    exact ⟨rfl, rfl⟩
  · show Calls Try.prog 29 #[.string ⟨#[110, 117, 108, 108]⟩] w _
    go_enter Try.func29, Try.ntmps29
    go_wp2
    go_ret
    exact ⟨rfl, rfl⟩
theorem wordOf_any (b : Nat) (hb : b = 116 ∨ b = 102 ∨ b = 110) (w : World) : ∃ k W r, Wrd k W 1 r ∧ startX b = (.word k r, []) ∧
    Calls Try.prog 30 #[.int .u8 b] w fun e w' => e = .returned (.string W) ∧ w' = w := by
  rcases hb with rfl | rfl | rfl
  · refine ⟨116, ⟨#[116, 114, 117, 101]⟩, [114, 117, 101], ⟨[116, 114, 117, 101], by decide, rfl, by decide, by decide, rfl⟩, rfl, ?_⟩
    go_enter Try.func30, Try.ntmps30
    go_wp2
    go_ret
    exact ⟨rfl, rfl⟩
  · refine ⟨102, ⟨#[102, 97, 108, 115, 101]⟩, [97, 108, 115, 101], ⟨[102, 97, 108, 115, 101], by decide, rfl, by decide, by decide, rfl⟩, rfl, ?_⟩
    go_enter Try.func30, Try.ntmps30
    go_wp2
    go_ret
    exact ⟨rfl, rfl⟩
  · refine ⟨48, ⟨#[110, 117, 108, 108]⟩, [117, 108, 108], ⟨[110, 117, 108, 108], by decide, rfl, by decide, by decide, rfl⟩, rfl, ?_⟩
    go_enter Try.func30, Try.ntmps30
    go_wp2
    go_ret
    exact ⟨rfl, rfl⟩
end Go.Proofs.Yteonbajndghfcaa
