/-
  Lists of strings, and the queues contracts with the frame by types.
-/
import Derived.Test.YtckjbheabbpddaaLawsC
namespace Go.Proofs.Ytckjbheabbpddaa
open Go.RowKit
open Go.Lib
-- ==== lists
theorem dropS_flat : ∀ (l : List ByteArray) (k : Nat), flat (dropS k l) = (flat l).drop k
  | [], k => by simp [dropS, flat]
  | x :: r, k => by
    unfold dropS
    have hx := size_list x
    split
    · rename_i h
      rw [flat_cons, flat_cons, ext_list, List.take_of_length_le (by omega), List.drop_append_of_le_length (by omega)]
    · rename_i h
      rw [dropS_flat r, flat_cons, List.drop_append, hx, show x.data.toList.drop k = [] from List.drop_of_length_le (by omega), List.nil_append]
theorem dropS_sizes : ∀ (l : List ByteArray) (k : Nat), (dropS k l).map ByteArray.size = dropN k (l.map ByteArray.size)
  | [], k => by simp [dropS, dropN]
  | x :: r, k => by
    simp only [dropS, List.map_cons, dropN]
    split
    · simp
    · exact dropS_sizes r _
theorem dropS_pos : ∀ (l : List ByteArray) (k : Nat), (∀ x ∈ l, 0 < x.size) → ∀ x ∈ dropS k l, 0 < x.size
  | [], k, _ => by simp [dropS]
  | x :: r, k, h => by
    unfold dropS
    split
    · intro y hy
      simp at hy
      rcases hy with rfl | hy
      · simp; omega
      · exact h y (by simp [hy])
    · exact dropS_pos r _ (fun y hy => h y (by simp [hy]))
/-- The first k bytes of a list of strings, in its chunks. -/
def cutS : Nat → List ByteArray → List ByteArray
  | _, [] => []
  | k, x :: r => if k = 0 then [] else x.extract 0 (min k x.size) :: cutS (k - min k x.size) r
theorem cutS_zero (l : List ByteArray) : cutS 0 l = [] := by cases l <;> simp [cutS]
theorem cutS_flat : ∀ (l : List ByteArray) (k : Nat), flat (cutS k l) = (flat l).take k
  | [], k => by simp [cutS, flat]
  | x :: r, k => by
    have hx := size_list x
    unfold cutS
    split
    · rename_i h; subst h; simp [flat]
    · rw [flat_cons, flat_cons, cutS_flat r, ext_list, List.drop_zero, List.take_append, hx]
      congr 1
      · by_cases h : k ≤ x.size
        · rw [Nat.min_eq_left h]
        · rw [Nat.min_eq_right (by omega), List.take_of_length_le (by omega), List.take_of_length_le (by omega)]
      · congr 1
        omega
theorem cutS_pos : ∀ (l : List ByteArray) (k : Nat), (∀ x ∈ l, 0 < x.size) → ∀ x ∈ cutS k l, 0 < x.size
  | [], k, _ => by simp [cutS]
  | x :: r, k, h => by
    unfold cutS
    split
    · simp
    · intro y hy
      simp at hy
      rcases hy with rfl | hy
      · have := h x (by simp); simp; omega
      · exact cutS_pos r _ (fun y hy => h y (by simp [hy])) y hy
theorem dropN_append : ∀ (a b : List Nat) (j : Nat), dropN j (a ++ b) = if j < a.sum then dropN j a ++ b else dropN (j - a.sum) b
  | [], b, j => by simp
  | n :: r, b, j => by
    have hs : (n :: r).sum = n + r.sum := by simp
    simp only [List.cons_append, dropN]
    by_cases h : j < n
    · rw [if_pos h, if_pos h, if_pos (by omega)]
      rfl
    · rw [if_neg h, if_neg h, dropN_append r b (j - n)]
      by_cases h2 : j - n < r.sum
      · rw [if_pos h2, if_pos (by omega)]
      · rw [if_neg h2, if_neg (by omega)]
        congr 1
        omega
theorem cutN_cons (n : Nat) (r : List Nat) (j : Nat) : cutN j (n :: r) = if j < r.sum then n :: cutN j r else if j - r.sum < n then [n - (j - r.sum)] else [] := by
  unfold cutN
  rw [List.reverse_cons, dropN_append, List.sum_reverse]
  split
  · simp
  · simp only [dropN]
    split <;> simp
theorem cutS_sizes : ∀ (l : List ByteArray) (k : Nat), k ≤ (l.map ByteArray.size).sum → (cutS k l).map ByteArray.size = cutN ((l.map ByteArray.size).sum - k) (l.map ByteArray.size)
  | [], k, _ => by simp [cutS, cutN, dropN]
  | x :: r, k, h => by
    simp only [List.map_cons, List.sum_cons] at h ⊢
    rw [cutN_cons]
    unfold cutS
    by_cases h0 : k = 0
    · rw [if_pos h0, if_neg (by omega), if_neg (by omega)]
      rfl
    · rw [if_neg h0]
      by_cases h1 : x.size < k
      · rw [if_pos (by omega), List.map_cons, Nat.min_eq_right (by omega), cutS_sizes r (k - x.size) (by omega)]
        congr 1
        · simp
        · congr 1; omega
      · rw [if_neg (by omega), if_pos (by omega), Nat.min_eq_left (by omega), Nat.sub_self, cutS_zero]
        simp
        omega
theorem flat_length (l : List ByteArray) : (flat l).length = (l.map ByteArray.size).sum := by
  induction l with
  | nil => rfl
  | cons x r ih => rw [flat_cons, List.length_append, ih, size_list]; simp
theorem flat_len_le {l : List ByteArray} (hp : ∀ x ∈ l, 0 < x.size) : l.length ≤ (flat l).length := by
  rw [flat_length]
  have := sum_len (ns := l.map ByteArray.size) (by intro n hn; obtain ⟨x, hx, rfl⟩ := List.mem_map.1 hn; exact hp x hx)
  simpa using this
-- ==== the queue's contracts once more, with the frame by types
theorem t_add {B : Nat} {w : World} {b : Nat} {bs : List UInt8} {ns : List Nat} (h : QIs B w b bs ns) (x : ByteArray) (hb : bs.length + x.size ≤ 1000000) :
    Calls Try.prog 11 #[.pointer (some ⟨b, 0, none⟩), .string x] w fun e w' => e = .returned (.tuple #[]) ∧ QIs B w' b (bs ++ x.data.toList) (ns ++ more x) ∧ Below B w w' ∧ Off [28, 5, 3] w w' := by
  by_cases h0 : x.size = 0
  · have hx : x = ⟨#[]⟩ := by
      apply ByteArray.ext
      exact Array.eq_empty_of_size_eq_zero h0
    subst hx
    refine (add_none b w).mono ?_
    rintro e w' ⟨rfl, rfl⟩
    exact ⟨rfl, by
      show QIs B w b (bs ++ []) (ns ++ [])
      rw [List.append_nil, List.append_nil]
      exact h, Below.refl _ _, Off.refl _ _⟩
  · have hl := h.lt
    have hn := h.len_le
    obtain ⟨F, h, hF⟩ := h
    refine (add_some h x (by omega) hb (by omega)).mono ?_
    rintro e w' ⟨rfl, hq⟩
    have := hq.is hF hl
    rw [more, if_neg h0]
    exact ⟨rfl, this.1, this.2, hq.off h⟩
theorem t_take {B : Nat} {w : World} {b : Nat} {bs : List UInt8} {ns : List Nat} (h : QIs B w b bs ns) (n : Int) (k : Nat) (hk : min (max n 0) (bs.length : Int) = k) (hbig : bs.length ≤ 1000000) :
    Calls Try.prog 13 #[.pointer (some ⟨b, 0, none⟩), .int .i64 n] w fun e w' => e = .returned (.string ⟨(bs.take k).toArray⟩) ∧ QIs B w' b (bs.drop k) (dropN k ns) ∧ Below B w w' ∧ Off [28, 5, 3] w w' := by
  have hl := h.lt
  obtain ⟨F, h, hF⟩ := h
  exact (take_any h n k hk hbig).mono fun e w' ⟨he, hq⟩ => ⟨he, (hq.is hF hl).1, (hq.is hF hl).2, hq.off h⟩
theorem t_next {B : Nat} {w : World} {b : Nat} {c : UInt8} {bs : List UInt8} {ns : List Nat} (h : QIs B w b (c :: bs) ns) (hbig : bs.length < 1000000) :
    Calls Try.prog 12 #[.pointer (some ⟨b, 0, none⟩)] w fun e w' => e = .returned (.tuple #[.int .u8 (c.toNat : Int), .bool true]) ∧ QIs B w' b bs (dropN 1 ns) ∧ Below B w w' ∧ Off [28, 5, 3] w w' := by
  have hl := h.lt
  obtain ⟨F, h, hF⟩ := h
  exact (next_some h hbig).mono fun e w' ⟨he, hq⟩ => ⟨he, (hq.is hF hl).1, (hq.is hF hl).2, hq.off h⟩
theorem t_cut {B : Nat} {w : World} {b : Nat} {bs : List UInt8} {ns : List Nat} (h : QIs B w b bs ns) (n : Int) (k : Nat) (hk : min (max n 0) (bs.length : Int) = k) (hbig : bs.length ≤ 1000000) (hn : n ≤ 9223372036854775807) :
    Calls Try.prog 14 #[.pointer (some ⟨b, 0, none⟩), .int .i64 n] w fun e w' => e = .returned (.int .i64 ((bs.length : Int) - k)) ∧ QIs B w' b (bs.take k) (cutN (bs.length - k) ns) ∧ Below B w w' ∧ Off [28, 5, 3] w w' := by
  have hl := h.lt
  obtain ⟨F, h, hF⟩ := h
  exact (cut_any h n k hk hbig hn).mono fun e w' ⟨he, hq⟩ => ⟨he, (hq.is hF hl).1, (hq.is hF hl).2, hq.off h⟩
/-- A new slice is stored into the list's variable. -/
theorem HIs.put {B : Nat} {w0 w2 : World} {c : Nat} {l l2 : List ByteArray} {v2 : Value} (h : HIs B w0 c l) (hb : Below w0.heap.size w0 w2) (hW : Win w2 9 1 v2 l2.length (sCells l2)) (ho : ∀ k ∈ Value.owner v2, w0.heap.size ≤ k) :
    HIs B (w2.setCell ⟨c, 0, none⟩ v2) c l2 ∧ Below B w0 (w2.setCell ⟨c, 0, none⟩ v2) ∧ Off [29, 9] w0 (w2.setCell ⟨c, 0, none⟩ v2) := by
  obtain ⟨v, hv, hW0, hBc, hBo⟩ := h
  have hcl : c < w0.heap.size := (Array.getElem?_eq_some_iff.1 hv).1
  have hv2 : w2.heap[c]? = some (.cells #[v] 29 (0, 0)) := (hb.block c hcl).trans hv
  refine ⟨⟨v2, heap_setCell_same w2 c 0 _ _ v2 hv2, hW.setCell_far (hW.apart hv2 (by decide)) _, hBc, fun k hk => by have := ho k hk; omega⟩, (hb.mono (by omega)).setCell (p := ⟨c, 0, none⟩) hBc v2, ?_⟩
  refine Off.setCell (p := ⟨c, 0, none⟩) (fun i x t fr hi ht => ?_) hv (by simp) v2
  rw [hb.block i (Array.getElem?_eq_some_iff.1 hi).1]
  exact hi
end Go.Proofs.Ytckjbheabbpddaa
