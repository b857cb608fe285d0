/-
  Type assertions on a part: one equation a type over all kinds of part.
-/
import Derived.Test.YtkfidnfnehnhoaaEv
namespace Go.Proofs.Ytkfidnfnehnhoaa
open Go.RowKit
open Go.Lib
theorem kind8 {e : Ev} (hm : mayE e) : e.k = 0 ∨ e.k = 1 ∨ e.k = 2 ∨ e.k = 3 ∨ e.k = 4 ∨ e.k = 5 ∨ e.k = 6 ∨ e.k = 7 := by
  have h1 := hm.1
  have h2 := hm.2.1
  omega
theorem as_close (e : Ev) (hm : mayE e) (W : World) : (Instr.typeAssert (valE e) 20 52 true).run Try.prog W = .ok (.tuple #[.agg #[], .bool (decide (e.k = 7))]) W := by
  obtain ⟨k, y, m, t, c⟩ := e
  rcases kind8 hm with h | h | h | h | h | h | h | h <;> (simp only at h; subst h)
  · kernel_rfl
  · exact not_close _ (by decide) _ _
  · exact not_close _ (by decide) _ _
  · exact not_close _ (by decide) _ _
  · exact not_close _ (by decide) _ _
  · exact not_close _ (by decide) _ _
  · exact not_close _ (by decide) _ _
  · exact is_close _ _
theorem as_word (e : Ev) (hm : mayE e) (W : World) : (Instr.typeAssert (valE e) 20 66 true).run Try.prog W = .ok (.tuple #[.string (if e.k = 3 then e.t else ⟨#[]⟩), .bool (decide (e.k = 3))]) W := by
  obtain ⟨k, y, m, t, c⟩ := e
  rcases kind8 hm with h | h | h | h | h | h | h | h <;> (simp only at h; subst h)
  · kernel_rfl
  · exact not_word _ (by decide) _ _
  · exact not_word _ (by decide) _ _
  · exact is_word _ _
  · exact not_word _ (by decide) _ _
  · exact not_word _ (by decide) _ _
  · exact not_word _ (by decide) _ _
  · exact not_word _ (by decide) _ _
theorem as_begin (e : Ev) (hm : mayE e) (W : World) : (Instr.typeAssert (valE e) 20 50 true).run Try.prog W = .ok (.tuple #[.agg #[.bool (decide (e.k = 6)), .int .i64 (if e.k = 5 ∨ e.k = 6 then e.c else 0)], .bool (decide (e.k = 5 ∨ e.k = 6))]) W := by
  obtain ⟨k, y, m, t, c⟩ := e
  rcases kind8 hm with h | h | h | h | h | h | h | h <;> (simp only at h; subst h)
  · kernel_rfl
  · exact not_begin _ (by decide) _ _
  · exact not_begin _ (by decide) _ _
  · exact not_begin _ (by decide) _ _
  · exact not_begin _ (by decide) _ _
  · exact is_begin _ _
  · exact is_begin _ _
  · exact not_begin _ (by decide) _ _
end Go.Proofs.Ytkfidnfnehnhoaa
