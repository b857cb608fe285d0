/-
  NO PROGRAM NEEDED: texts out of runes.
-/
import Derived.Test.YteonbajndghfcaaUtfEnc
import Derived.Test.YteonbajndghfcaaKit
namespace Go.Proofs.Yteonbajndghfcaa
open Go.RowKit
open Go.Lib
theorem rune_or (r : Int) : (∃ n : Nat, r = n ∧ IsRune n) ∨ (r < 0 ∨ 1114111 < r ∨ (55296 ≤ r ∧ r ≤ 57343)) := by
  by_cases h : r < 0 ∨ 1114111 < r ∨ (55296 ≤ r ∧ r ≤ 57343)
  · exact .inr h
  · exact .inl ⟨r.toNat, by omega, by unfold IsRune; omega⟩
/-- A text out of runes. -/
def Enc (k : Nat) (t : ByteArray) : Prop := ∃ ns : List Nat, ns.length ≤ k ∧ (∀ n ∈ ns, IsRune n) ∧ t.data.toList = ns.flatMap encL
theorem enc_size' {k : Nat} {t : ByteArray} (h : Enc k t) : t.size ≤ 4 * k := by
  obtain ⟨ns, h1, h2, h3⟩ := h
  rw [← size_list, h3]
  have : ∀ l : List Nat, (∀ n ∈ l, IsRune n) → (l.flatMap encL).length ≤ 4 * l.length := by
    intro l hl
    induction l with
    | nil => simp
    | cons a r ih =>
      have h4 := (enc_len (hl a (by simp))).2
      have := ih (fun n hn => hl n (by simp [hn]))
      rw [List.flatMap_cons, List.length_append, List.length_cons]
      generalize encL a = x at *
      omega
  have := this ns h2
  omega
theorem app_list (t x : ByteArray) (l : List UInt8) (h : bytesL x = l) : (t ++ x).data.toList = t.data.toList ++ l := by
  subst h
  rw [ByteArray.data_append, Array.toList_append]
  rfl
theorem enc_next {k n : Nat} {t : ByteArray} (h : Enc k t) (hr : IsRune n) : Enc (k + 1) (t ++ Utf8.encode (n : Int)) := by
  obtain ⟨ns, h1, h2, h3⟩ := h
  refine ⟨ns ++ [n], by simp; omega, ?_, ?_⟩
  · intro m hm
    rcases List.mem_append.1 hm with hm | hm
    · exact h2 m hm
    · simp only [List.mem_singleton] at hm
      subst hm
      exact hr
  · have e : bytesL (Utf8.encode (n : Int)) = encL n := rfl
    rw [app_list t _ _ e, h3]
    simp
theorem enc_stay {k : Nat} {t : ByteArray} (h : Enc k t) : Enc (k + 1) (t ++ ⟨#[]⟩) := by
  obtain ⟨ns, h1, h2, h3⟩ := h
  exact ⟨ns, by omega, h2, by rw [ByteArray.data_append, Array.toList_append, h3]; simp⟩
end Go.Proofs.Yteonbajndghfcaa
