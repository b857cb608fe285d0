/-
  Type assertions on a part: one equation a type over all kinds of part. CONTRACTS of packout.Writer, part C: refusesEnd, isInRange, refuses. CONTRACT of the document's own Writer, for MessagePack: a value that it cannot hold, where nothing is open. CONTRACT of the document's own Writer, for JSON: a value within a container. CONTRACT of the document's own whole numbers of MessagePack (truchmanref1.whole). CONTRACTS of the book's documents out of numbers: an item that would hold others, at the depth asked. CONTRACTS of the book's documents out of numbers: an array, and the items in it. THE DOCUMENT'S OWN READER OF MESSAGEPACK (truchmanref1.Pack): a whole number that is written is read as it was.
-/
import Derived.Test.YtonjdnahplphhaaHEv
import Derived.Test.YtonjdnahplphhaaG0c
import Derived.Test.YtonjdnahplphhaaHRefPs
import Derived.Test.YtonjdnahplphhaaHRefWs
import Derived.StillTail
import Derived.Deep.RegionLaw
import Derived.Test.YtonjdnahplphhaaHRefPlen
import Derived.Test.YtonjdnahplphhaaHDocD
import Derived.Test.YtonjdnahplphhaaHPoRf
import Derived.LoopN
/-
  Type assertions on a part: one equation a type over all kinds of part.
-/
namespace Go.Proofs.Ytonjdnahplphhaa
open Go.RowKit
open Go.Lib
theorem kind8 {e : Ev} (hm : mayE e) : e.k = 0 ∨ e.k = 1 ∨ e.k = 2 ∨ e.k = 3 ∨ e.k = 4 ∨ e.k = 5 ∨ e.k = 6 ∨ e.k = 7 := by
  have h1 := hm.1
  have h2 := hm.2.1
  omega
theorem as_close (e : Ev) (hm : mayE e) (W : World) : (Instr.typeAssert (valE e) 20 69 true).run Try.prog W = .ok (.tuple #[.agg #[], .bool (decide (e.k = 7))]) W := by
  obtain ⟨k, y, m, t, c⟩ := e
  rcases kind8 hm with h | h | h | h | h | h | h | h <;> (simp only at h; subst h)
  · kernel_rfl
  · exact not_close _ (by decide) _ _
  · exact not_close _ (by decide) _ _
  · exact not_close _ (by decide) _ _
  · exact not_close _ (by decide) _ _
  · exact not_close _ (by decide) _ _
  · exact not_close _ (by decide) _ _
  · exact is_close _ _
theorem as_word (e : Ev) (hm : mayE e) (W : World) : (Instr.typeAssert (valE e) 20 65 true).run Try.prog W = .ok (.tuple #[.string (if e.k = 3 then e.t else ⟨#[]⟩), .bool (decide (e.k = 3))]) W := by
  obtain ⟨k, y, m, t, c⟩ := e
  rcases kind8 hm with h | h | h | h | h | h | h | h <;> (simp only at h; subst h)
  · kernel_rfl
  · exact not_word _ (by decide) _ _
  · exact not_word _ (by decide) _ _
  · exact is_word _ _
  · exact not_word _ (by decide) _ _
  · exact not_word _ (by decide) _ _
  · exact not_word _ (by decide) _ _
  · exact not_word _ (by decide) _ _
theorem as_begin (e : Ev) (hm : mayE e) (W : World) : (Instr.typeAssert (valE e) 20 63 true).run Try.prog W = .ok (.tuple #[.agg #[.bool (decide (e.k = 6)), .int .i64 (if e.k = 5 ∨ e.k = 6 then e.c else 0)], .bool (decide (e.k = 5 ∨ e.k = 6))]) W := by
  obtain ⟨k, y, m, t, c⟩ := e
  rcases kind8 hm with h | h | h | h | h | h | h | h <;> (simp only at h; subst h)
  · kernel_rfl
  · exact not_begin _ (by decide) _ _
  · exact not_begin _ (by decide) _ _
  · exact not_begin _ (by decide) _ _
  · exact not_begin _ (by decide) _ _
  · exact is_begin _ _
  · exact is_begin _ _
  · exact not_begin _ (by decide) _ _
end Go.Proofs.Ytonjdnahplphhaa
/-
  CONTRACTS of packout.Writer, part C: refusesEnd, isInRange, refuses.
-/
namespace Go.Proofs.Ytonjdnahplphhaa
open Go.RowKit
open Go.Lib
/-- The row, and the calls that ask it, as long as old blocks stand. -/
theorem PoAt.asks {w : World} {b o : Nat} {F : List Nat} {q : Kq} (h : PoAt w b o F q) (hd : q.s.length ≤ 1000) : ∃ a cp, (∀ w', Below w.heap.size w w' → w'.cell? ⟨b, o, none⟩ = some (.slice a q.s.length cp) ∧ w'.cell? ⟨b, o + 1, none⟩ = some (.bool q.dn)) ∧
    (∀ w', Below w.heap.size w w' → Calls Try.prog 41 #[.slice a q.s.length cp] w' fun r w2 => r = .returned (.bool (fulT q.s)) ∧ Below w'.heap.size w' w2) ∧
    (∀ w', Below w.heap.size w w' → Calls Try.prog 42 #[.slice a q.s.length cp] w' fun r w2 => r = .returned (.bool (keyB q.s)) ∧ Below w'.heap.size w' w2) := by
  obtain ⟨a, cp, hA, hW, hF⟩ := h.cells
  have hlt := h.lt
  have hw : ∀ w', Below w.heap.size w w' → Win w' 115 2 (.slice a q.s.length cp) q.s.length (rcL q.s) := fun w' k => hW.keep fun i hi => k.block i (hW.lt i hi)
  refine ⟨a, cp, fun w' k => ?_, fun w' k => rfull_any (hw w' k) hd h.wf, fun w' k => rkey_any (hw w' k) hd h.wf⟩
  have := hA.keep (k.block b hlt)
  obtain ⟨⟨c0, _⟩, ⟨c1, _⟩⟩ := oat_two this
  exact ⟨c0, c1⟩
set_option maxRecDepth 100000 in
set_option maxHeartbeats 2000000 in
theorem ref_endR {w : World} {b o : Nat} {F : List Nat} {q : Kq} (h : PoAt w b o F q) (hd : q.s.length ≤ 1000) :
    Calls Try.prog 40 #[.pointer (some ⟨b, o, none⟩)] w fun r w' => r = .returned (.int .i64 ((if fulT q.s = true then 0 else 14 : Nat) : Int)) ∧ Below w.heap.size w w' := by
  obtain ⟨a, cp, h0, hM, _⟩ := h.asks hd
  have c0 := (h0 w (Below.refl _ _)).1
  have HM := Lib.hid (hM w (Below.refl _ _))
  clear h0 hM h
  generalize fulT q.s = M at *
  cases M with
  | false =>
    go_enter Try.func40, Try.ntmps40
    go_wp2_with fail
    refine HM.out.mono ?_
    rintro r w1 ⟨rfl, b1⟩
    have B1 := Lib.hid b1
    clear b1
    go_wp2
    go_ret
    exact ⟨rfl, B1.out⟩
  | true =>
    go_enter Try.func40, Try.ntmps40
    go_wp2_with fail
    refine HM.out.mono ?_
    rintro r w1 ⟨rfl, b1⟩
    have B1 := Lib.hid b1
    clear b1
    go_wp2
    go_ret
    exact ⟨rfl, B1.out⟩
/-! ### isInRange -/
theorem as_whole (e : Ev) (hm : mayE e) (W : World) : (Instr.typeAssert (valE e) 20 54 true).run Try.prog W = .ok (.tuple #[.agg #[.bool (if e.k = 2 then e.y else false), .int .u64 (if e.k = 2 then (e.m : Int) else 0)], .bool (decide (e.k = 2))]) W := by
  obtain ⟨k, y, m, t, c⟩ := e
  rcases kind8 hm with h | h | h | h | h | h | h | h <;> (simp only at h; subst h)
  · kernel_rfl
  · exact not_whole _ (by decide) _ _
  · exact is_whole _ _
  · exact not_whole _ (by decide) _ _
  · exact not_whole _ (by decide) _ _
  · exact not_whole _ (by decide) _ _
  · exact not_whole _ (by decide) _ _
  · exact not_whole _ (by decide) _ _
set_option maxRecDepth 100000 in
set_option maxHeartbeats 2000000 in
theorem rin_whole (v : Value) (y : Bool) (m : Nat) (w : World)
    (hW : ∀ W, (Instr.typeAssert v 20 54 true).run Try.prog W = .ok (.tuple #[.agg #[.bool y, .int .u64 (m : Int)], .bool true]) W) :
    Calls Try.prog 43 #[v] w fun r w' => r = .returned (.bool (!y || decide (m ≤ 9223372036854775807))) ∧ Below w.heap.size w w' := by
  have hz : ((m : Int) ≤ 9223372036854775807) = (m ≤ 9223372036854775807) := by rw [eq_iff_iff]; omega
  obtain ⟨D, hD⟩ : ∃ D, decide (m ≤ 9223372036854775807) = D := ⟨_, rfl⟩
  have hzb : decide ((m : Int) ≤ 9223372036854775807) = D := by rw [← hD]; simp only [hz]
  rw [hD]
  clear hz hD
  cases y with
  | false =>
    go_enter Try.func43, Try.ntmps43
    go_wp2
    go_ret
    exact ⟨rfl, up_alloc (Below.refl _ _) _⟩
  | true =>
    go_enter Try.func43, Try.ntmps43
    go_wp2
    go_ret
    exact ⟨by simp, up_alloc (Below.refl _ _) _⟩
set_option maxRecDepth 100000 in
set_option maxHeartbeats 2000000 in
theorem rin_begin (v : Value) (m : Bool) (c : Int) (hc : -1 ≤ c ∧ c ≤ 9223372036854775807) (w : World)
    (hW : ∀ W, (Instr.typeAssert v 20 54 true).run Try.prog W = .ok (.tuple #[.agg #[.bool false, .int .u64 0], .bool false]) W)
    (hB : ∀ W, (Instr.typeAssert v 20 63 true).run Try.prog W = .ok (.tuple #[.agg #[.bool m, .int .i64 c], .bool true]) W) :
    Calls Try.prog 43 #[v] w fun r w' => r = .returned (.bool (decide (0 ≤ c ∧ c ≤ 4294967295))) ∧ Below w.heap.size w w' := by
  by_cases h0 : 0 ≤ c
  · have z0 : (c ≥ 0) = True := by simp only [eq_iff_iff, iff_true]; exact h0
    have hw : IntKind.u64.wrap c = c := by simp only [IntKind.wrap_u64]; omega
    have hd : decide (0 ≤ c ∧ c ≤ 4294967295) = decide (c ≤ 4294967295) := by rw [Bool.eq_iff_iff, decide_eq_true_eq, decide_eq_true_eq]; omega
    rw [hd]
    go_enter Try.func43, Try.ntmps43
    go_wp2
    go_ret
    exact ⟨rfl, up_alloc (up_alloc (Below.refl _ _) _) _⟩
  · have z0 : (c ≥ 0) = False := by simp only [eq_iff_iff, iff_false]; exact h0
    have hd : decide (0 ≤ c ∧ c ≤ 4294967295) = false := by rw [decide_eq_false_iff_not]; omega
    rw [hd]
    go_enter Try.func43, Try.ntmps43
    go_wp2
    go_ret
    exact ⟨rfl, up_alloc (up_alloc (Below.refl _ _) _) _⟩
set_option maxRecDepth 100000 in
set_option maxHeartbeats 2000000 in
theorem rin_else (v : Value) (w : World)
    (hW : ∀ W, (Instr.typeAssert v 20 54 true).run Try.prog W = .ok (.tuple #[.agg #[.bool false, .int .u64 0], .bool false]) W)
    (hB : ∀ W, (Instr.typeAssert v 20 63 true).run Try.prog W = .ok (.tuple #[.agg #[.bool false, .int .i64 0], .bool false]) W) :
    Calls Try.prog 43 #[v] w fun r w' => r = .returned (.bool true) ∧ Below w.heap.size w w' := by
  go_enter Try.func43, Try.ntmps43
  go_wp2
  go_ret
  exact ⟨rfl, up_alloc (up_alloc (Below.refl _ _) _) _⟩
/-- Can MessagePack hold it? -/
theorem rin_any (e : Ev) (hm : mayE e) (hok : EvOk e) (w : World) : Calls Try.prog 43 #[valE e] w fun r w' => r = .returned (.bool (!decide (rangeP e))) ∧ Below w.heap.size w w' := by
  have hW := as_whole e hm
  have hB := as_begin e hm
  by_cases h2 : e.k = 2
  · rw [if_pos h2, if_pos h2, decide_eq_true h2] at hW
    refine (rin_whole (valE e) e.y e.m w hW).mono ?_
    rintro r w' ⟨h1, h3⟩
    refine ⟨?_, h3⟩
    rw [h1]
    congr 2
    rw [Bool.eq_iff_iff, Bool.not_eq_true', decide_eq_false_iff_not]
    unfold rangeP
    cases hy : e.y
    · simp [h2]
    · simp [h2]
      omega
  · rw [if_neg h2, if_neg h2, decide_eq_false h2] at hW
    by_cases h56 : e.k = 5 ∨ e.k = 6
    · rw [if_pos h56, decide_eq_true h56] at hB
      refine (rin_begin (valE e) _ e.c ⟨hm.2.2 h56, hok.2.2.1.2⟩ w hW hB).mono ?_
      rintro r w' ⟨h1, h3⟩
      refine ⟨?_, h3⟩
      rw [h1]
      congr 2
      rw [Bool.eq_iff_iff, Bool.not_eq_true', decide_eq_false_iff_not, decide_eq_true_eq]
      unfold rangeP
      omega
    · rw [if_neg h56, decide_eq_false h56, decide_eq_false (by omega : ¬ e.k = 6)] at hB
      refine (rin_else (valE e) w hW hB).mono ?_
      rintro r w' ⟨h1, h3⟩
      refine ⟨?_, h3⟩
      rw [h1]
      congr 2
      rw [eq_comm, Bool.not_eq_true', decide_eq_false_iff_not]
      unfold rangeP
      omega
set_option maxRecDepth 100000 in
set_option maxHeartbeats 2000000 in
/-- What is no part. -/
theorem rrefuses_other {w : World} {b o : Nat} (v : Value) (X : Ev) (hP : ∀ W, Calls Try.prog 39 #[v] W fun r w' => r = .returned (.tuple #[evV X, .bool false]) ∧ Below W.heap.size W w') :
    Calls Try.prog 24 #[.pointer (some ⟨b, o, none⟩), v] w fun r w' => r = .returned (.int .i64 14) ∧ Below w.heap.size w w' := by
  have HP := Lib.hid hP
  obtain ⟨k, y, m, t, c⟩ := X
  simp only [evV] at HP
  clear hP
  go_enter Try.func24, Try.ntmps24
  go_wp2_with fail
  refine (HP.out _).mono ?_
  rintro r w1 ⟨rfl, b1⟩
  have B1 := Lib.hid (up_alloc b1 (.cells #[.int .i64 k, .bool y, .int .u64 m, .string t, .int .i64 c] 35))
  clear b1
  go_wp2
  go_ret
  exact ⟨rfl, B1.out⟩
set_option maxRecDepth 100000 in
set_option maxHeartbeats 4000000 in
theorem rrefuses_gen {w : World} {b o : Nat} {F : List Nat} {q : Kq} (h : PoAt w b o F q) (hs : q.s.length ≤ 1000) (v : Value) (X : Ev) (hP : ∀ W, Calls Try.prog 39 #[v] W fun r w' => r = .returned (.tuple #[evV X, .bool true]) ∧ Below W.heap.size W w')
    (isC isW R : Bool) (S : ByteArray) (hC : ∀ W, (Instr.typeAssert v 20 69 true).run Try.prog W = .ok (.tuple #[.agg #[], .bool isC]) W)
    (hW : ∀ W, (Instr.typeAssert v 20 65 true).run Try.prog W = .ok (.tuple #[.string S, .bool isW]) W)
    (hR : ∀ W, Calls Try.prog 43 #[v] W fun r w' => r = .returned (.bool R) ∧ Below W.heap.size W w') (n : Nat)
    (hn : n = if q.dn = true then 14 else if isC = true then (if fulT q.s = true then 0 else 14) else if fulT q.s = true then 14 else if isW = false ∧ keyB q.s = true then 8 else if R = true then 0 else 7) :
    Calls Try.prog 24 #[.pointer (some ⟨b, o, none⟩), v] w fun r w' => r = .returned (.int .i64 n) ∧ Below w.heap.size w w' := by
  have HP := Lib.hid hP
  have HC := Lib.hid hC
  have HW := Lib.hid hW
  have HR := Lib.hid hR
  obtain ⟨k, y, m, t, c⟩ := X
  simp only [evV] at HP
  have HE : Hid (∀ w', Below w.heap.size w w' → Calls Try.prog 40 #[.pointer (some ⟨b, o, none⟩)] w' fun r w2 => r = .returned (.int .i64 ((if fulT q.s = true then 0 else 14 : Nat) : Int)) ∧ Below w'.heap.size w' w2) := Lib.hid (fun w' k => ref_endR (h.go k) hs)
  obtain ⟨a, cp, hc0, hU, hK⟩ := h.asks hs
  have HC0 := Lib.hid hc0
  have HU := Lib.hid hU
  have HK := Lib.hid hK
  generalize (if fulT q.s = true then 0 else 14 : Nat) = n2 at *
  clear hP h hC hW hR hc0 hU hK hs
  generalize fulT q.s = U at *
  generalize keyB q.s = K at *
  generalize q.s.length = l at *
  generalize q.dn = D at *
  cases D with
  | true =>
    obtain rfl : n = 14 := by rw [hn, if_pos rfl]
    clear hn
    go_enter Try.func24, Try.ntmps24
    go_wp2_with fail
    refine (HP.out _).mono ?_
    rintro r w1 ⟨rfl, b1⟩
    have B1 := Lib.hid (up_alloc b1 (.cells #[.int .i64 k, .bool y, .int .u64 m, .string t, .int .i64 c] 35))
    have d1 := (HC0.out _ B1.out).2
    clear b1
    go_wp2
    go_ret
    exact ⟨rfl, B1.out⟩
  | false =>
    rw [if_neg (by simp)] at hn
    have hC := HC.out
    cases isC with
    | true =>
      rw [if_pos rfl] at hn
      subst hn
      go_enter Try.func24, Try.ntmps24
      go_wp2_with fail
      refine (HP.out _).mono ?_
      rintro r w1 ⟨rfl, b1⟩
      have B1 := Lib.hid (up_alloc b1 (.cells #[.int .i64 k, .bool y, .int .u64 m, .string t, .int .i64 c] 35))
      have d1 := (HC0.out _ B1.out).2
      clear b1
      go_wp2_with fail
      refine (HE.out _ (up_alloc B1.out _)).mono ?_
      rintro r w3 ⟨rfl, b3⟩
      have BX := Lib.hid (up_trans (up_alloc B1.out _) b3)
      clear b3
      go_wp2
      go_ret
      exact ⟨rfl, BX.out⟩
    | false =>
      rw [if_neg (by simp)] at hn
      cases U with
      | true =>
        rw [if_pos rfl] at hn
        subst hn
        go_enter Try.func24, Try.ntmps24
        go_wp2_with fail
        refine (HP.out _).mono ?_
        rintro r w1 ⟨rfl, b1⟩
        have B1 := Lib.hid (up_alloc b1 (.cells #[.int .i64 k, .bool y, .int .u64 m, .string t, .int .i64 c] 35))
        have d1 := (HC0.out _ B1.out).2
        clear b1
        have B2 := Lib.hid (up_alloc B1.out (.cells #[] 69))
        have d2 := (HC0.out _ B2.out).1
        go_wp2_with fail
        refine (HU.out _ B2.out).mono ?_
        rintro r w2 ⟨rfl, b2⟩
        have B3 := Lib.hid (up_trans B2.out b2)
        clear b2
        go_wp2
        go_ret
        exact ⟨rfl, B3.out⟩
      | false =>
        rw [if_neg (by simp)] at hn
        have hW := HW.out
        cases isW with
        | true =>
          rw [if_neg (by simp)] at hn
          cases R with
          | true =>
            rw [if_pos rfl] at hn
            subst hn
            go_enter Try.func24, Try.ntmps24
            go_wp2_with fail
            refine (HP.out _).mono ?_
            rintro r w1 ⟨rfl, b1⟩
            have B1 := Lib.hid (up_alloc b1 (.cells #[.int .i64 k, .bool y, .int .u64 m, .string t, .int .i64 c] 35))
            have d1 := (HC0.out _ B1.out).2
            clear b1
            have B2 := Lib.hid (up_alloc B1.out (.cells #[] 69))
            have d2 := (HC0.out _ B2.out).1
            go_wp2_with fail
            refine (HU.out _ B2.out).mono ?_
            rintro r w2 ⟨rfl, b2⟩
            have B3 := Lib.hid (up_trans B2.out b2)
            clear b2
            go_wp2_with fail
            refine (HR.out _).mono ?_
            rintro r w4 ⟨rfl, b4⟩
            have B5 := Lib.hid (up_trans B3.out b4)
            clear b4
            go_wp2
            go_ret
            exact ⟨rfl, B5.out⟩
          | false =>
            rw [if_neg (by simp)] at hn
            subst hn
            go_enter Try.func24, Try.ntmps24
            go_wp2_with fail
            refine (HP.out _).mono ?_
            rintro r w1 ⟨rfl, b1⟩
            have B1 := Lib.hid (up_alloc b1 (.cells #[.int .i64 k, .bool y, .int .u64 m, .string t, .int .i64 c] 35))
            have d1 := (HC0.out _ B1.out).2
            clear b1
            have B2 := Lib.hid (up_alloc B1.out (.cells #[] 69))
            have d2 := (HC0.out _ B2.out).1
            go_wp2_with fail
            refine (HU.out _ B2.out).mono ?_
            rintro r w2 ⟨rfl, b2⟩
            have B3 := Lib.hid (up_trans B2.out b2)
            clear b2
            go_wp2_with fail
            refine (HR.out _).mono ?_
            rintro r w4 ⟨rfl, b4⟩
            have B5 := Lib.hid (up_trans B3.out b4)
            clear b4
            go_wp2
            go_ret
            exact ⟨rfl, B5.out⟩
        | false =>
          cases K with
          | true =>
            rw [if_pos (by simp)] at hn
            subst hn
            go_enter Try.func24, Try.ntmps24
            go_wp2_with fail
            refine (HP.out _).mono ?_
            rintro r w1 ⟨rfl, b1⟩
            have B1 := Lib.hid (up_alloc b1 (.cells #[.int .i64 k, .bool y, .int .u64 m, .string t, .int .i64 c] 35))
            have d1 := (HC0.out _ B1.out).2
            clear b1
            have B2 := Lib.hid (up_alloc B1.out (.cells #[] 69))
            have d2 := (HC0.out _ B2.out).1
            go_wp2_with fail
            refine (HU.out _ B2.out).mono ?_
            rintro r w2 ⟨rfl, b2⟩
            have B3 := Lib.hid (up_trans B2.out b2)
            clear b2
            have d3 := (HC0.out _ B3.out).1
            go_wp2_with fail
            refine (HK.out _ B3.out).mono ?_
            rintro r w3 ⟨rfl, b3⟩
            have B4 := Lib.hid (up_trans B3.out b3)
            clear b3
            go_wp2
            go_ret
            exact ⟨rfl, B4.out⟩
          | false =>
            rw [if_neg (by simp)] at hn
            cases R with
            | true =>
              rw [if_pos rfl] at hn
              subst hn
              go_enter Try.func24, Try.ntmps24
              go_wp2_with fail
              refine (HP.out _).mono ?_
              rintro r w1 ⟨rfl, b1⟩
              have B1 := Lib.hid (up_alloc b1 (.cells #[.int .i64 k, .bool y, .int .u64 m, .string t, .int .i64 c] 35))
              have d1 := (HC0.out _ B1.out).2
              clear b1
              have B2 := Lib.hid (up_alloc B1.out (.cells #[] 69))
              have d2 := (HC0.out _ B2.out).1
              go_wp2_with fail
              refine (HU.out _ B2.out).mono ?_
              rintro r w2 ⟨rfl, b2⟩
              have B3 := Lib.hid (up_trans B2.out b2)
              clear b2
              have d3 := (HC0.out _ B3.out).1
              go_wp2_with fail
              refine (HK.out _ B3.out).mono ?_
              rintro r w3 ⟨rfl, b3⟩
              have B4 := Lib.hid (up_trans B3.out b3)
              clear b3
              go_wp2_with fail
              refine (HR.out _).mono ?_
              rintro r w4 ⟨rfl, b4⟩
              have B5 := Lib.hid (up_trans B4.out b4)
              clear b4
              go_wp2
              go_ret
              exact ⟨rfl, B5.out⟩
            | false =>
              rw [if_neg (by simp)] at hn
              subst hn
              go_enter Try.func24, Try.ntmps24
              go_wp2_with fail
              refine (HP.out _).mono ?_
              rintro r w1 ⟨rfl, b1⟩
              have B1 := Lib.hid (up_alloc b1 (.cells #[.int .i64 k, .bool y, .int .u64 m, .string t, .int .i64 c] 35))
              have d1 := (HC0.out _ B1.out).2
              clear b1
              have B2 := Lib.hid (up_alloc B1.out (.cells #[] 69))
              have d2 := (HC0.out _ B2.out).1
              go_wp2_with fail
              refine (HU.out _ B2.out).mono ?_
              rintro r w2 ⟨rfl, b2⟩
              have B3 := Lib.hid (up_trans B2.out b2)
              clear b2
              have d3 := (HC0.out _ B3.out).1
              go_wp2_with fail
              refine (HK.out _ B3.out).mono ?_
              rintro r w3 ⟨rfl, b3⟩
              have B4 := Lib.hid (up_trans B3.out b3)
              clear b3
              go_wp2_with fail
              refine (HR.out _).mono ?_
              rintro r w4 ⟨rfl, b4⟩
              have B5 := Lib.hid (up_trans B4.out b4)
              clear b4
              go_wp2
              go_ret
              exact ⟨rfl, B5.out⟩
theorem rstep_err_val {q : Kq} {e : Ev} (hw : WfR q.s) (hm : mayE e) :
    (stepR q e).1.2 = if q.dn = true then 14 else if decide (e.k = 7) = true then (if fulT q.s = true then 0 else 14) else if fulT q.s = true then 14 else if decide (e.k = 3) = false ∧ keyB q.s = true then 8 else if (!decide (rangeP e)) = true then 0 else 7 := by
  obtain ⟨s, dn⟩ := q
  cases dn with
  | true => rw [stepR_bad ⟨s, true⟩ e (.inr rfl), if_pos rfl]
  | false =>
    rw [if_neg (by simp)]
    by_cases h7 : e.k = 7
    · rw [if_pos (decide_eq_true h7)]
      cases s with
      | nil => rw [stepR_none hm h7]; rfl
      | cons x r =>
        have hx := hw x (by simp)
        have he := shut_lak hx
        rw [← ful_lak hx r] at he
        rw [← he]
        by_cases ho : shutB x
        · rw [stepR_shut hm h7 ho, if_neg (by simpa using ho)]
        · rw [stepR_end hm h7 ho, if_pos (by simpa using ho)]
    · rw [if_neg (by simpa using h7)]
      by_cases hf : fulT s = true
      · rw [stepR_full hm h7 hf, if_pos hf]
      · rw [if_neg hf]
        have hf : fulT s = false := by simpa using hf
        by_cases hk : keyB s = true ∧ e.k ≠ 3
        · rw [stepR_key hm h7 hf hk.1 hk.2, if_pos ⟨by simpa using hk.2, hk.1⟩]
        · rw [if_neg (fun h => hk ⟨h.2, by simpa using h.1⟩)]
          by_cases hr : rangeP e
          · rw [stepR_range hm h7 hf hk hr, if_neg (by simpa using hr)]
          · rw [if_pos (by simpa using hr)]
            by_cases h56 : e.k = 5 ∨ e.k = 6
            · have hkf : keyB s = false := by
                cases hq : keyB s with
                | false => rfl
                | true => exact absurd ⟨hq, by omega⟩ hk
              rw [stepR_open hm h56 hf hkf hr]
            · rw [stepR_val hm h7 h56 hf hk hr]
/-- What is refused, of a part. -/
theorem refusesR {w : World} {b o : Nat} {F : List Nat} {q : Kq} (h : PoAt w b o F q) (hs : q.s.length ≤ 1000) (e : Ev) (hm : mayE e) (hok : EvOk e) :
    Calls Try.prog 24 #[.pointer (some ⟨b, o, none⟩), valE e] w fun r w' => r = .returned (.int .i64 ((stepR q e).1.2 : Nat)) ∧ Below w.heap.size w w' :=
  rrefuses_gen h hs (valE e) (tidyE e) (plain_any e hm) _ _ _ _ (as_close e hm) (as_word e hm) (fun W => rin_any e hm hok W) _ (rstep_err_val h.wf hm)
end Go.Proofs.Ytonjdnahplphhaa
/-
  CONTRACT of the document's own Writer, for MessagePack: a value that it cannot hold, where nothing is open.
-/
namespace Go.Proofs.Ytonjdnahplphhaa
open Go.RowKit
open Go.Lib
set_option maxRecDepth 100000 in
set_option maxHeartbeats 4000000 in
theorem wm_valbad0 {M B b : Nat} {w : World} (h : WmAt M B w b [] false) (e : Ev) (hk : e.k = 0 ∨ e.k = 1 ∨ e.k = 2 ∨ e.k = 3 ∨ e.k = 4) 
    (hP : ∀ W, Calls Try.prog 28 #[.int .i64 3, evV e] W fun r w' => r = .returned (.tuple #[.string ⟨#[]⟩, .int .i64 7]) ∧ Below W.heap.size W w') :
    Calls Try.prog 13 #[.pointer (some ⟨b, 0, none⟩), evV e] w fun q w' => q = .returned (.tuple #[.string ⟨#[]⟩, .int .i64 7]) ∧ WmAt M B w' b [] false ∧ Bew B b w w' := by
  obtain ⟨a, cp, hA, hS⟩ := h.cells
  have hBw : B ≤ w.heap.size := h.low
  have HM : Hid (∀ X, Calls Try.prog 16 #[evV e] (w.alloc X) fun r w' => r = .returned (.bool true) ∧ Below (w.alloc X).heap.size (w.alloc X) w') := Lib.hid fun X => by
    have := may_any e (w.alloc X)
    rwa [decide_eq_true (show mayE e from ⟨by omega, by omega, by omega⟩)] at this
  have HP := Lib.hid hP
  obtain ⟨k, y, m, t, c⟩ := e
  simp only [evV] at HM HP hk ⊢
  have n7 : (k == 7) = false := by rw [beq_eq_false_iff_ne]; omega
  have n5 : (k == 5) = false := by rw [beq_eq_false_iff_ne]; omega
  have n6 : (k == 6) = false := by rw [beq_eq_false_iff_ne]; omega
  have HH := Lib.hid h
  have HS := Lib.hid hS
  have HA := Lib.hid hA
  have hA0 := (hA.alloc (by simp) (.cells #[.int .i64 k, .bool y, .int .u64 m, .string t, .int .i64 c] 35))
  obtain ⟨⟨k0, _⟩, ⟨k1, _⟩, ⟨k2, _⟩⟩ := at_three hA0
  simp only [List.length_nil] at k1 HA HS
  clear h hA hS hA0 hP hk
  go_enter Try.func13, Try.ntmps13
  go_wp2_with fail
  refine (HM.out _).mono ?_
  rintro e w1 ⟨rfl, hb1⟩
  have E1 := Lib.hid ((blk_new w _ _).go hb1)
  obtain ⟨⟨e0, e1, e2, e3, e4⟩, ef⟩ := E1.out.ev
  have hbw1 := up_trans (up_alloc (Below.refl w.heap.size w) (.cells #[.int .i64 k, .bool y, .int .u64 m, .string t, .int .i64 c] 35)) hb1
  have A1 := Lib.hid (HA.out.keep (hbw1.block b HH.out.lt))
  have HB1 := Lib.hid hbw1
  clear hb1 ef k0 k1 k2 hbw1
  obtain ⟨⟨k0, q0⟩, ⟨k1, q1⟩, ⟨k2, q2⟩⟩ := at_three A1.out
  go_wp2
  go_region_with (go_at_call 28; refine (HP.out _).mono ?_; rintro r w2 ⟨rfl, hb2⟩)
  all_goals
    have hW1 := HH.out.go HB1.out
    have hb2' : Below w1.heap.size w1 w2 := ⟨hb2.os, hb2.tape, hb2.output, hb2.size, hb2.block⟩
    have A2 := A1.out.keep (hb2'.block b hW1.lt)
    have HW2 := Lib.hid (hW1.go hb2')
    have HBB := Lib.hid (up_trans HB1.out hb2')
    have HA2 := Lib.hid A2
    obtain ⟨⟨p0, r0⟩, ⟨p1, r1⟩, ⟨p2, r2⟩⟩ := at_three A2
    clear A2 hb2 hb2' hW1 e0 e1 e2 e3 e4 k0 k1 k2 q0 q1 q2
    go_wp2
    go_ret2
    exact ⟨rfl, HW2.out, (HBB.out.mono hBw).bew⟩
end Go.Proofs.Ytonjdnahplphhaa
/-
  CONTRACT of the document's own Writer, for JSON: a value within a container.
-/
namespace Go.Proofs.Ytonjdnahplphhaa
open Go.RowKit
open Go.Lib
/-- Behind 'Open = append(nil, Open...)', stored; then one part more in the last. -/
theorem wr_inc {M B b : Nat} {V w3 : World} {bx : Bx} {r : List Bx} {v3 : Value} {n' : Nat} (hn' : r.length = n') (h : WrAt M B V b (bx :: r) false) (hM : M + 1 ≤ 1000) (hW3 : Win w3 73 3 v3 (n' + 1) (bxsL (bx :: r))) (hG3 : V.grownBy w3 (Value.slice none 0 0).ownBlock)
    (hO3 : v3.ownBlock = (Value.slice none 0 0).ownBlock ∨ v3.ownBlock = some V.heap.size ∧ V.heap.size < w3.heap.size) :
    ∃ g3 off3 c3, v3 = .slice (some ⟨g3, off3, none⟩) (n' + 1) c3 ∧ (w3.cell? ⟨b, 0, none⟩ = some (.int .i64 1) ∧ (∃ u, w3.cell? ⟨b, 1, none⟩ = some u ∧ w3.frozen? ⟨b, 1, none⟩ = false) ∧ w3.cell? ⟨b, 2, none⟩ = some (.bool false)) ∧ g3 ≠ b ∧
      (w3.cell? ⟨g3, off3 + n' * 3 + 2, none⟩ = some (.int .i64 (bx.have_ : Int)) ∧ w3.frozen? ⟨g3, off3 + n' * 3 + 2, none⟩ = false) ∧
      WrAt (M + 1) B ((w3.setCell ⟨b, 1, none⟩ v3).setCell ⟨g3, off3 + n' * 3 + 2, none⟩ (.int .i64 ((bx.have_ : Int) + 1))) b (incB (bx :: r)) false ∧
      Bew B b V ((w3.setCell ⟨b, 1, none⟩ v3).setCell ⟨g3, off3 + n' * 3 + 2, none⟩ (.int .i64 ((bx.have_ : Int) + 1))) := by
  subst hn'
  have hBV : B ≤ V.heap.size := h.low
  obtain ⟨a, cp, hA, hS⟩ := h.cells
  obtain ⟨cs, hcs⟩ := h.blk
  obtain ⟨hK, hKB⟩ := stk_new (M := M) (B := B) (s := bx :: r) hBV (by simp [Value.owner]) rfl rfl hW3 hG3 hO3 hS.ok hS.deep hS.most
  have hblk : w3.heap[b]? = V.heap[b]? := hG3.block b h.lt (by simp [Value.ownBlock])
  have A3 := hA.keep hblk
  have hw3 : w3.heap[b]? = some (.cells cs 32 (0, 0)) := hblk.trans hcs
  obtain ⟨g3, off3, N, c3, rfl, hN, _, ⟨_, _, z2⟩, ⟨_, _, f2⟩⟩ := hK.last
  subst hN
  have hap : b ∉ Value.owner (.slice (some ⟨g3, off3, none⟩) (r.length + 1) c3) := hK.win.apart (t := 32) hw3 (by decide)
  have hgb : g3 ≠ b := fun e => hap (by simp [Value.owner, e])
  obtain ⟨⟨p0, _⟩, ⟨p1, p1'⟩, ⟨p2, _⟩⟩ := at_three A3
  have K4 : Stk M B (w3.setCell ⟨b, 1, none⟩ (.slice (some ⟨g3, off3, none⟩) (r.length + 1) c3)) (bx :: r) (.slice (some ⟨g3, off3, none⟩) (r.length + 1) c3) := ⟨hK.win.setCell_far hap _, hK.vB, hK.ok, hK.deep, hK.most⟩
  obtain ⟨K5, hg5⟩ := K4.inc hM rfl
  have A4 := A3.set 1 (by simp) (.slice (some ⟨g3, off3, none⟩) (r.length + 1) c3)
  have hw4 := heap_setCell_at w3 ⟨b, 1, none⟩ (.slice (some ⟨g3, off3, none⟩) (r.length + 1) c3) _ _ _ rfl hw3
  have hw5 : ((w3.setCell ⟨b, 1, none⟩ (.slice (some ⟨g3, off3, none⟩) (r.length + 1) c3)).setCell ⟨g3, off3 + r.length * 3 + 2, none⟩ (.int .i64 ((bx.have_ : Int) + 1))).heap[b]? = (w3.setCell ⟨b, 1, none⟩ (.slice (some ⟨g3, off3, none⟩) (r.length + 1) c3)).heap[b]? := Below.heap_setCell _ _ _ b (fun e => hgb e.symm)
  refine ⟨g3, off3, c3, rfl, ⟨p0, ⟨_, p1, p1'⟩, p2⟩, hgb, ⟨z2, f2⟩, ⟨⟨some ⟨g3, off3, none⟩, c3, ?_, ?_⟩, ⟨_, hw5.trans hw4⟩, by
    have := hKB.size
    simp only [World.setCell, Array.size_modify]
    omega⟩, ?_⟩
  · have : (incB (bx :: r)).length = r.length + 1 := rfl
    rw [this]
    exact At.keep (w := w3.setCell ⟨b, 1, none⟩ (.slice (some ⟨g3, off3, none⟩) (r.length + 1) c3)) (by simpa using A4) hw5
  · exact K5.zero
  · exact (hKB.bew.set _ _).setFar hg5 _
end Go.Proofs.Ytonjdnahplphhaa
/-
  CONTRACT of the document's own whole numbers of MessagePack (truchmanref1.whole).
-/
namespace Go.Proofs.Ytonjdnahplphhaa
open Go.RowKit
open Go.Lib
/-- A text of one byte, and what Big tells. -/
theorem pw_cat (b0 n v : Nat) : (⟨#[UInt8.ofNat b0]⟩ : ByteArray) ++ ⟨(bigB n v).toArray⟩ = ⟨(UInt8.ofNat b0 :: bigB n v).toArray⟩ := by
  rw [show (⟨#[UInt8.ofNat b0]⟩ : ByteArray) = ⟨[UInt8.ofNat b0].toArray⟩ from rfl, ba_append]
  rfl
set_option maxRecDepth 100000 in
set_option maxHeartbeats 2000000 in
theorem rwhole_u1 (m : Nat) (t : ByteArray) (k c : Int) (h0 : 128 ≤ m) (hK : m < 256) (w : World) :
    Calls Try.prog 53 #[evV ⟨k, false, m, t, c⟩] w fun e w' => e = .returned (.tuple #[.string ⟨(intPk false m).toArray⟩, .int .i64 0]) ∧ Below w.heap.size w w' := by
  simp only [evV]
  have HB0 := Lib.hid (fun x => (Below.refl w.heap.size w).alloc (Nat.le_refl _) x)
  have hb0 := blk_new w #[.int .i64 k, .bool false, .int .u64 m, .string t, .int .i64 c] 35
  have k1 := hb0.cell 1
  have k2 := hb0.cell 2
  have e : (⟨(intPk false m).toArray⟩ : ByteArray) = (⟨#[204]⟩ : ByteArray) ++ ⟨(bigB 1 m).toArray⟩ := by
    rw [show (⟨#[204]⟩ : ByteArray) = ⟨#[UInt8.ofNat 204]⟩ from rfl, pw_cat]
    unfold intPk
    rw [if_pos rfl, if_neg (by omega), if_pos hK]
  rw [e]
  have HB := Lib.hid (fun W => rbig_n m 1 1 rfl (by omega) (by omega) (by omega) _ rfl W)
  have s2 : (⟨(bigB 1 m).toArray⟩ : ByteArray).size = 1 := by rw [ba_size, bigB_length]
  have hsum : (9223372036854775807 < 1 + (⟨(bigB 1 m).toArray⟩ : ByteArray).size) = False := by rw [s2]; simp only [eq_iff_iff, iff_false]; decide
  generalize (⟨(bigB 1 m).toArray⟩ : ByteArray) = Y at *
  have z0 : ((m : Int) < 128) = False := by simp only [eq_iff_iff, iff_false]; omega
  have z1 : ((m : Int) < 256) = True := by simp only [eq_iff_iff, iff_true]; omega
  clear e s2 hb0
  go_enter Try.func53, Try.ntmps53
  go_wp2_with fail
  refine (HB.out _).mono ?_
  rintro e w1 ⟨rfl, b1⟩
  have HB1 := Lib.hid (up_trans (HB0.out _) b1)
  clear b1
  go_wp2
  go_ret2
  exact ⟨rfl, HB1.out⟩
set_option maxRecDepth 100000 in
set_option maxHeartbeats 2000000 in
theorem rwhole_u2 (m : Nat) (t : ByteArray) (k c : Int) (h0 : 256 ≤ m) (hK : m < 65536) (w : World) :
    Calls Try.prog 53 #[evV ⟨k, false, m, t, c⟩] w fun e w' => e = .returned (.tuple #[.string ⟨(intPk false m).toArray⟩, .int .i64 0]) ∧ Below w.heap.size w w' := by
  simp only [evV]
  have HB0 := Lib.hid (fun x => (Below.refl w.heap.size w).alloc (Nat.le_refl _) x)
  have hb0 := blk_new w #[.int .i64 k, .bool false, .int .u64 m, .string t, .int .i64 c] 35
  have k1 := hb0.cell 1
  have k2 := hb0.cell 2
  have e : (⟨(intPk false m).toArray⟩ : ByteArray) = (⟨#[205]⟩ : ByteArray) ++ ⟨(bigB 2 m).toArray⟩ := by
    rw [show (⟨#[205]⟩ : ByteArray) = ⟨#[UInt8.ofNat 205]⟩ from rfl, pw_cat]
    unfold intPk
    rw [if_pos rfl, if_neg (by omega), if_neg (by omega), if_pos hK]
  rw [e]
  have HB := Lib.hid (fun W => rbig_n m 2 2 rfl (by omega) (by omega) (by omega) _ rfl W)
  have s2 : (⟨(bigB 2 m).toArray⟩ : ByteArray).size = 2 := by rw [ba_size, bigB_length]
  have hsum : (9223372036854775807 < 1 + (⟨(bigB 2 m).toArray⟩ : ByteArray).size) = False := by rw [s2]; simp only [eq_iff_iff, iff_false]; decide
  generalize (⟨(bigB 2 m).toArray⟩ : ByteArray) = Y at *
  have z0 : ((m : Int) < 128) = False := by simp only [eq_iff_iff, iff_false]; omega
  have z1 : ((m : Int) < 256) = False := by simp only [eq_iff_iff, iff_false]; omega
  have z2 : ((m : Int) < 65536) = True := by simp only [eq_iff_iff, iff_true]; omega
  clear e s2 hb0
  go_enter Try.func53, Try.ntmps53
  go_wp2_with fail
  refine (HB.out _).mono ?_
  rintro e w1 ⟨rfl, b1⟩
  have HB1 := Lib.hid (up_trans (HB0.out _) b1)
  clear b1
  go_wp2
  go_ret2
  exact ⟨rfl, HB1.out⟩
set_option maxRecDepth 100000 in
set_option maxHeartbeats 2000000 in
theorem rwhole_u4 (m : Nat) (t : ByteArray) (k c : Int) (h0 : 65536 ≤ m) (hK : m < 4294967296) (w : World) :
    Calls Try.prog 53 #[evV ⟨k, false, m, t, c⟩] w fun e w' => e = .returned (.tuple #[.string ⟨(intPk false m).toArray⟩, .int .i64 0]) ∧ Below w.heap.size w w' := by
  simp only [evV]
  have HB0 := Lib.hid (fun x => (Below.refl w.heap.size w).alloc (Nat.le_refl _) x)
  have hb0 := blk_new w #[.int .i64 k, .bool false, .int .u64 m, .string t, .int .i64 c] 35
  have k1 := hb0.cell 1
  have k2 := hb0.cell 2
  have e : (⟨(intPk false m).toArray⟩ : ByteArray) = (⟨#[206]⟩ : ByteArray) ++ ⟨(bigB 4 m).toArray⟩ := by
    rw [show (⟨#[206]⟩ : ByteArray) = ⟨#[UInt8.ofNat 206]⟩ from rfl, pw_cat]
    unfold intPk
    rw [if_pos rfl, if_neg (by omega), if_neg (by omega), if_neg (by omega), if_pos hK]
  rw [e]
  have HB := Lib.hid (fun W => rbig_n m 4 4 rfl (by omega) (by omega) (by omega) _ rfl W)
  have s2 : (⟨(bigB 4 m).toArray⟩ : ByteArray).size = 4 := by rw [ba_size, bigB_length]
  have hsum : (9223372036854775807 < 1 + (⟨(bigB 4 m).toArray⟩ : ByteArray).size) = False := by rw [s2]; simp only [eq_iff_iff, iff_false]; decide
  generalize (⟨(bigB 4 m).toArray⟩ : ByteArray) = Y at *
  have z0 : ((m : Int) < 128) = False := by simp only [eq_iff_iff, iff_false]; omega
  have z1 : ((m : Int) < 256) = False := by simp only [eq_iff_iff, iff_false]; omega
  have z2 : ((m : Int) < 65536) = False := by simp only [eq_iff_iff, iff_false]; omega
  have z3 : ((m : Int) < 4294967296) = True := by simp only [eq_iff_iff, iff_true]; omega
  clear e s2 hb0
  go_enter Try.func53, Try.ntmps53
  go_wp2_with fail
  refine (HB.out _).mono ?_
  rintro e w1 ⟨rfl, b1⟩
  have HB1 := Lib.hid (up_trans (HB0.out _) b1)
  clear b1
  go_wp2
  go_ret2
  exact ⟨rfl, HB1.out⟩
set_option maxRecDepth 100000 in
set_option maxHeartbeats 2000000 in
theorem rwhole_u8 (m : Nat) (t : ByteArray) (k c : Int) (h0 : 4294967296 ≤ m) (hK : m < 18446744073709551616) (w : World) :
    Calls Try.prog 53 #[evV ⟨k, false, m, t, c⟩] w fun e w' => e = .returned (.tuple #[.string ⟨(intPk false m).toArray⟩, .int .i64 0]) ∧ Below w.heap.size w w' := by
  simp only [evV]
  have HB0 := Lib.hid (fun x => (Below.refl w.heap.size w).alloc (Nat.le_refl _) x)
  have hb0 := blk_new w #[.int .i64 k, .bool false, .int .u64 m, .string t, .int .i64 c] 35
  have k1 := hb0.cell 1
  have k2 := hb0.cell 2
  have e : (⟨(intPk false m).toArray⟩ : ByteArray) = (⟨#[207]⟩ : ByteArray) ++ ⟨(bigB 8 m).toArray⟩ := by
    rw [show (⟨#[207]⟩ : ByteArray) = ⟨#[UInt8.ofNat 207]⟩ from rfl, pw_cat]
    unfold intPk
    rw [if_pos rfl, if_neg (by omega), if_neg (by omega), if_neg (by omega), if_neg (by omega)]
  rw [e]
  have HB := Lib.hid (fun W => rbig_n m 8 8 rfl (by omega) (by omega) (by omega) _ rfl W)
  have s2 : (⟨(bigB 8 m).toArray⟩ : ByteArray).size = 8 := by rw [ba_size, bigB_length]
  have hsum : (9223372036854775807 < 1 + (⟨(bigB 8 m).toArray⟩ : ByteArray).size) = False := by rw [s2]; simp only [eq_iff_iff, iff_false]; decide
  generalize (⟨(bigB 8 m).toArray⟩ : ByteArray) = Y at *
  have z0 : ((m : Int) < 128) = False := by simp only [eq_iff_iff, iff_false]; omega
  have z1 : ((m : Int) < 256) = False := by simp only [eq_iff_iff, iff_false]; omega
  have z2 : ((m : Int) < 65536) = False := by simp only [eq_iff_iff, iff_false]; omega
  have z3 : ((m : Int) < 4294967296) = False := by simp only [eq_iff_iff, iff_false]; omega
  clear e s2 hb0
  go_enter Try.func53, Try.ntmps53
  go_wp2_with fail
  refine (HB.out _).mono ?_
  rintro e w1 ⟨rfl, b1⟩
  have HB1 := Lib.hid (up_trans (HB0.out _) b1)
  clear b1
  go_wp2
  go_ret2
  exact ⟨rfl, HB1.out⟩
set_option maxRecDepth 100000 in
set_option maxHeartbeats 2000000 in
theorem rwhole_s1 (m : Nat) (t : ByteArray) (k c : Int) (h0 : 32 ≤ m) (hK : m < 128) (w : World) :
    Calls Try.prog 53 #[evV ⟨k, true, m, t, c⟩] w fun e w' => e = .returned (.tuple #[.string ⟨(intPk true m).toArray⟩, .int .i64 0]) ∧ Below w.heap.size w w' := by
  simp only [evV]
  have HB0 := Lib.hid (fun x => (Below.refl w.heap.size w).alloc (Nat.le_refl _) x)
  have hb0 := blk_new w #[.int .i64 k, .bool true, .int .u64 m, .string t, .int .i64 c] 35
  have k1 := hb0.cell 1
  have k2 := hb0.cell 2
  have e : (⟨(intPk true m).toArray⟩ : ByteArray) = (⟨#[208]⟩ : ByteArray) ++ ⟨(bigB 1 (18446744073709551615 - m)).toArray⟩ := by
    rw [show (⟨#[208]⟩ : ByteArray) = ⟨#[UInt8.ofNat 208]⟩ from rfl, pw_cat]
    unfold intPk
    rw [if_neg (by decide), if_neg (by omega), if_pos hK]
  rw [e]
  have HB := Lib.hid (fun W => rbig_n (18446744073709551615 - m) 1 1 rfl (by omega) (by omega) (by omega) _ rfl W)
  have s2 : (⟨(bigB 1 (18446744073709551615 - m)).toArray⟩ : ByteArray).size = 1 := by rw [ba_size, bigB_length]
  have hsum : (9223372036854775807 < 1 + (⟨(bigB 1 (18446744073709551615 - m)).toArray⟩ : ByteArray).size) = False := by rw [s2]; simp only [eq_iff_iff, iff_false]; decide
  generalize (⟨(bigB 1 (18446744073709551615 - m)).toArray⟩ : ByteArray) = Y at *
  have hw : IntKind.u64.wrap (18446744073709551615 - (m : Int)) = ((18446744073709551615 - m : Nat) : Int) := by rw [wrapI_u64 _ (by omega) (by omega)]; omega
  have z0 : ((m : Int) < 32) = False := by simp only [eq_iff_iff, iff_false]; omega
  have z1 : ((m : Int) < 128) = True := by simp only [eq_iff_iff, iff_true]; omega
  clear e s2 hb0
  go_enter Try.func53, Try.ntmps53
  go_wp2_with fail
  refine (HB.out _).mono ?_
  rintro e w1 ⟨rfl, b1⟩
  have HB1 := Lib.hid (up_trans (HB0.out _) b1)
  clear b1
  go_wp2
  go_ret2
  exact ⟨rfl, HB1.out⟩
set_option maxRecDepth 100000 in
set_option maxHeartbeats 2000000 in
theorem rwhole_s2 (m : Nat) (t : ByteArray) (k c : Int) (h0 : 128 ≤ m) (hK : m < 32768) (w : World) :
    Calls Try.prog 53 #[evV ⟨k, true, m, t, c⟩] w fun e w' => e = .returned (.tuple #[.string ⟨(intPk true m).toArray⟩, .int .i64 0]) ∧ Below w.heap.size w w' := by
  simp only [evV]
  have HB0 := Lib.hid (fun x => (Below.refl w.heap.size w).alloc (Nat.le_refl _) x)
  have hb0 := blk_new w #[.int .i64 k, .bool true, .int .u64 m, .string t, .int .i64 c] 35
  have k1 := hb0.cell 1
  have k2 := hb0.cell 2
  have e : (⟨(intPk true m).toArray⟩ : ByteArray) = (⟨#[209]⟩ : ByteArray) ++ ⟨(bigB 2 (18446744073709551615 - m)).toArray⟩ := by
    rw [show (⟨#[209]⟩ : ByteArray) = ⟨#[UInt8.ofNat 209]⟩ from rfl, pw_cat]
    unfold intPk
    rw [if_neg (by decide), if_neg (by omega), if_neg (by omega), if_pos hK]
  rw [e]
  have HB := Lib.hid (fun W => rbig_n (18446744073709551615 - m) 2 2 rfl (by omega) (by omega) (by omega) _ rfl W)
  have s2 : (⟨(bigB 2 (18446744073709551615 - m)).toArray⟩ : ByteArray).size = 2 := by rw [ba_size, bigB_length]
  have hsum : (9223372036854775807 < 1 + (⟨(bigB 2 (18446744073709551615 - m)).toArray⟩ : ByteArray).size) = False := by rw [s2]; simp only [eq_iff_iff, iff_false]; decide
  generalize (⟨(bigB 2 (18446744073709551615 - m)).toArray⟩ : ByteArray) = Y at *
  have hw : IntKind.u64.wrap (18446744073709551615 - (m : Int)) = ((18446744073709551615 - m : Nat) : Int) := by rw [wrapI_u64 _ (by omega) (by omega)]; omega
  have z0 : ((m : Int) < 32) = False := by simp only [eq_iff_iff, iff_false]; omega
  have z1 : ((m : Int) < 128) = False := by simp only [eq_iff_iff, iff_false]; omega
  have z2 : ((m : Int) < 32768) = True := by simp only [eq_iff_iff, iff_true]; omega
  clear e s2 hb0
  go_enter Try.func53, Try.ntmps53
  go_wp2_with fail
  refine (HB.out _).mono ?_
  rintro e w1 ⟨rfl, b1⟩
  have HB1 := Lib.hid (up_trans (HB0.out _) b1)
  clear b1
  go_wp2
  go_ret2
  exact ⟨rfl, HB1.out⟩
set_option maxRecDepth 100000 in
set_option maxHeartbeats 2000000 in
theorem rwhole_s4 (m : Nat) (t : ByteArray) (k c : Int) (h0 : 32768 ≤ m) (hK : m < 2147483648) (w : World) :
    Calls Try.prog 53 #[evV ⟨k, true, m, t, c⟩] w fun e w' => e = .returned (.tuple #[.string ⟨(intPk true m).toArray⟩, .int .i64 0]) ∧ Below w.heap.size w w' := by
  simp only [evV]
  have HB0 := Lib.hid (fun x => (Below.refl w.heap.size w).alloc (Nat.le_refl _) x)
  have hb0 := blk_new w #[.int .i64 k, .bool true, .int .u64 m, .string t, .int .i64 c] 35
  have k1 := hb0.cell 1
  have k2 := hb0.cell 2
  have e : (⟨(intPk true m).toArray⟩ : ByteArray) = (⟨#[210]⟩ : ByteArray) ++ ⟨(bigB 4 (18446744073709551615 - m)).toArray⟩ := by
    rw [show (⟨#[210]⟩ : ByteArray) = ⟨#[UInt8.ofNat 210]⟩ from rfl, pw_cat]
    unfold intPk
    rw [if_neg (by decide), if_neg (by omega), if_neg (by omega), if_neg (by omega), if_pos hK]
  rw [e]
  have HB := Lib.hid (fun W => rbig_n (18446744073709551615 - m) 4 4 rfl (by omega) (by omega) (by omega) _ rfl W)
  have s2 : (⟨(bigB 4 (18446744073709551615 - m)).toArray⟩ : ByteArray).size = 4 := by rw [ba_size, bigB_length]
  have hsum : (9223372036854775807 < 1 + (⟨(bigB 4 (18446744073709551615 - m)).toArray⟩ : ByteArray).size) = False := by rw [s2]; simp only [eq_iff_iff, iff_false]; decide
  generalize (⟨(bigB 4 (18446744073709551615 - m)).toArray⟩ : ByteArray) = Y at *
  have hw : IntKind.u64.wrap (18446744073709551615 - (m : Int)) = ((18446744073709551615 - m : Nat) : Int) := by rw [wrapI_u64 _ (by omega) (by omega)]; omega
  have z0 : ((m : Int) < 32) = False := by simp only [eq_iff_iff, iff_false]; omega
  have z1 : ((m : Int) < 128) = False := by simp only [eq_iff_iff, iff_false]; omega
  have z2 : ((m : Int) < 32768) = False := by simp only [eq_iff_iff, iff_false]; omega
  have z3 : ((m : Int) < 2147483648) = True := by simp only [eq_iff_iff, iff_true]; omega
  clear e s2 hb0
  go_enter Try.func53, Try.ntmps53
  go_wp2_with fail
  refine (HB.out _).mono ?_
  rintro e w1 ⟨rfl, b1⟩
  have HB1 := Lib.hid (up_trans (HB0.out _) b1)
  clear b1
  go_wp2
  go_ret2
  exact ⟨rfl, HB1.out⟩
set_option maxRecDepth 100000 in
set_option maxHeartbeats 2000000 in
theorem rwhole_s8 (m : Nat) (t : ByteArray) (k c : Int) (h0 : 2147483648 ≤ m) (hK : m < 9223372036854775808) (w : World) :
    Calls Try.prog 53 #[evV ⟨k, true, m, t, c⟩] w fun e w' => e = .returned (.tuple #[.string ⟨(intPk true m).toArray⟩, .int .i64 0]) ∧ Below w.heap.size w w' := by
  simp only [evV]
  have HB0 := Lib.hid (fun x => (Below.refl w.heap.size w).alloc (Nat.le_refl _) x)
  have hb0 := blk_new w #[.int .i64 k, .bool true, .int .u64 m, .string t, .int .i64 c] 35
  have k1 := hb0.cell 1
  have k2 := hb0.cell 2
  have e : (⟨(intPk true m).toArray⟩ : ByteArray) = (⟨#[211]⟩ : ByteArray) ++ ⟨(bigB 8 (18446744073709551615 - m)).toArray⟩ := by
    rw [show (⟨#[211]⟩ : ByteArray) = ⟨#[UInt8.ofNat 211]⟩ from rfl, pw_cat]
    unfold intPk
    rw [if_neg (by decide), if_neg (by omega), if_neg (by omega), if_neg (by omega), if_neg (by omega)]
  rw [e]
  have HB := Lib.hid (fun W => rbig_n (18446744073709551615 - m) 8 8 rfl (by omega) (by omega) (by omega) _ rfl W)
  have s2 : (⟨(bigB 8 (18446744073709551615 - m)).toArray⟩ : ByteArray).size = 8 := by rw [ba_size, bigB_length]
  have hsum : (9223372036854775807 < 1 + (⟨(bigB 8 (18446744073709551615 - m)).toArray⟩ : ByteArray).size) = False := by rw [s2]; simp only [eq_iff_iff, iff_false]; decide
  generalize (⟨(bigB 8 (18446744073709551615 - m)).toArray⟩ : ByteArray) = Y at *
  have hw : IntKind.u64.wrap (18446744073709551615 - (m : Int)) = ((18446744073709551615 - m : Nat) : Int) := by rw [wrapI_u64 _ (by omega) (by omega)]; omega
  have z0 : ((m : Int) < 32) = False := by simp only [eq_iff_iff, iff_false]; omega
  have z1 : ((m : Int) < 128) = False := by simp only [eq_iff_iff, iff_false]; omega
  have z2 : ((m : Int) < 32768) = False := by simp only [eq_iff_iff, iff_false]; omega
  have z3 : ((m : Int) < 2147483648) = False := by simp only [eq_iff_iff, iff_false]; omega
  have z4 : ((m : Int) < 9223372036854775808) = True := by simp only [eq_iff_iff, iff_true]; omega
  clear e s2 hb0
  go_enter Try.func53, Try.ntmps53
  go_wp2_with fail
  refine (HB.out _).mono ?_
  rintro e w1 ⟨rfl, b1⟩
  have HB1 := Lib.hid (up_trans (HB0.out _) b1)
  clear b1
  go_wp2
  go_ret2
  exact ⟨rfl, HB1.out⟩
set_option maxRecDepth 100000 in
set_option maxHeartbeats 2000000 in
theorem rwhole_u0 (m : Nat) (t : ByteArray) (k c : Int) (hK : m < 128) (w : World) :
    Calls Try.prog 53 #[evV ⟨k, false, m, t, c⟩] w fun e w' => e = .returned (.tuple #[.string ⟨(intPk false m).toArray⟩, .int .i64 0]) ∧ Below w.heap.size w w' := by
  simp only [evV]
  have HB0 := Lib.hid (fun x => (Below.refl w.heap.size w).alloc (Nat.le_refl _) x)
  have hb0 := blk_new w #[.int .i64 k, .bool false, .int .u64 m, .string t, .int .i64 c] 35
  have k1 := hb0.cell 1
  have k2 := hb0.cell 2
  have e : intPk false m = [UInt8.ofNat m] := by
    unfold intPk
    rw [if_pos rfl, if_pos hK]
  rw [e]
  have hc : (((m : Nat)) : Int) = (((UInt8.ofNat m).toNat : Nat) : Int) := by simp; omega
  have hsz : (w.alloc (.cells #[.int .i64 k, .bool false, .int .u64 m, .string t, .int .i64 c] 35)).heap.size = w.heap.size + 1 := by
    show (w.heap.push _).size = _
    simp
  have hcv := ho_new (w.alloc (.cells #[.int .i64 k, .bool false, .int .u64 m, .string t, .int .i64 c] 35)) (UInt8.ofNat m) (((m : Nat)) : Int) hc
  rw [hsz] at hcv
  have HW := Lib.hid (fun x y => ((Below.refl w.heap.size w).alloc (Nat.le_refl _) x).alloc (by show w.heap.size ≤ (w.heap.push _).size; simp) y)
  generalize (⟨[UInt8.ofNat m].toArray⟩ : ByteArray) = X at *
  have z0 : ((m : Int) < 128) = True := by simp only [eq_iff_iff, iff_true]; omega
  have hw : IntKind.u8.wrap (m : Int) = (m : Int) := wrapI_u8 _ (by omega) (by omega)
  clear e hc hb0 hsz
  go_enter Try.func53, Try.ntmps53
  go_wp2
  go_ret2
  exact ⟨rfl, HW.out _ _⟩
set_option maxRecDepth 100000 in
set_option maxHeartbeats 2000000 in
theorem rwhole_s0 (m : Nat) (t : ByteArray) (k c : Int) (hK : m < 32) (w : World) :
    Calls Try.prog 53 #[evV ⟨k, true, m, t, c⟩] w fun e w' => e = .returned (.tuple #[.string ⟨(intPk true m).toArray⟩, .int .i64 0]) ∧ Below w.heap.size w w' := by
  simp only [evV]
  have HB0 := Lib.hid (fun x => (Below.refl w.heap.size w).alloc (Nat.le_refl _) x)
  have hb0 := blk_new w #[.int .i64 k, .bool true, .int .u64 m, .string t, .int .i64 c] 35
  have k1 := hb0.cell 1
  have k2 := hb0.cell 2
  have e : intPk true m = [UInt8.ofNat (255 - m)] := by
    unfold intPk
    rw [if_neg (by decide), if_pos hK]
  rw [e]
  have hc : ((((255 - m) : Nat)) : Int) = (((UInt8.ofNat (255 - m)).toNat : Nat) : Int) := by simp; omega
  have hsz : (w.alloc (.cells #[.int .i64 k, .bool true, .int .u64 m, .string t, .int .i64 c] 35)).heap.size = w.heap.size + 1 := by
    show (w.heap.push _).size = _
    simp
  have hcv := ho_new (w.alloc (.cells #[.int .i64 k, .bool true, .int .u64 m, .string t, .int .i64 c] 35)) (UInt8.ofNat (255 - m)) ((((255 - m) : Nat)) : Int) hc
  rw [hsz] at hcv
  have HW := Lib.hid (fun x y => ((Below.refl w.heap.size w).alloc (Nat.le_refl _) x).alloc (by show w.heap.size ≤ (w.heap.push _).size; simp) y)
  generalize (⟨[UInt8.ofNat (255 - m)].toArray⟩ : ByteArray) = X at *
  have z0 : ((m : Int) < 32) = True := by simp only [eq_iff_iff, iff_true]; omega
  have hw : IntKind.u64.wrap (18446744073709551615 - (m : Int)) = ((18446744073709551615 - m : Nat) : Int) := by rw [wrapI_u64 _ (by omega) (by omega)]; omega
  have hw2 : IntKind.u8.wrap ((18446744073709551615 - m : Nat) : Int) = ((255 - m : Nat) : Int) := by simp [IntKind.wrap, IntKind.bits, IntKind.signed]; omega
  clear e hc hb0 hsz
  go_enter Try.func53, Try.ntmps53
  go_wp2
  go_ret2
  exact ⟨rfl, HW.out _ _⟩
set_option maxRecDepth 100000 in
set_option maxHeartbeats 2000000 in
theorem rwhole_bad (m : Nat) (t : ByteArray) (k c : Int) (h0 : 9223372036854775808 ≤ m) (hm : m < 18446744073709551616) (w : World) :
    Calls Try.prog 53 #[evV ⟨k, true, m, t, c⟩] w fun e w' => e = .returned (.tuple #[.string ⟨#[]⟩, .int .i64 7]) ∧ Below w.heap.size w w' := by
  simp only [evV]
  have HB0 := Lib.hid (fun x => (Below.refl w.heap.size w).alloc (Nat.le_refl _) x)
  have hb0 := blk_new w #[.int .i64 k, .bool true, .int .u64 m, .string t, .int .i64 c] 35
  have k1 := hb0.cell 1
  have k2 := hb0.cell 2
  have z0 : ((m : Int) < 32) = False := by simp only [eq_iff_iff, iff_false]; omega
  have z1 : ((m : Int) < 128) = False := by simp only [eq_iff_iff, iff_false]; omega
  have z2 : ((m : Int) < 32768) = False := by simp only [eq_iff_iff, iff_false]; omega
  have z3 : ((m : Int) < 2147483648) = False := by simp only [eq_iff_iff, iff_false]; omega
  have z4 : ((m : Int) < 9223372036854775808) = False := by simp only [eq_iff_iff, iff_false]; omega
  have hw : IntKind.u64.wrap (18446744073709551615 - (m : Int)) = ((18446744073709551615 - m : Nat) : Int) := by rw [wrapI_u64 _ (by omega) (by omega)]; omega
  clear hb0
  go_enter Try.func53, Try.ntmps53
  go_wp2
  go_ret2
  exact ⟨rfl, HB0.out _⟩
theorem rwhole_any (m : Nat) (hm : m < 18446744073709551616) (y : Bool) (t : ByteArray) (k c : Int) (w : World) :
    Calls Try.prog 53 #[evV ⟨k, y, m, t, c⟩] w fun e w' => e = .returned (if y = true ∧ 9223372036854775808 ≤ m then .tuple #[.string ⟨#[]⟩, .int .i64 7] else .tuple #[.string ⟨(intPk y m).toArray⟩, .int .i64 0]) ∧ Below w.heap.size w w' := by
  cases y with
  | false =>
    rw [if_neg (fun h => Bool.noConfusion h.1)]
    by_cases h0 : m < 128
    · exact rwhole_u0 m t k c h0 w
    by_cases h1 : m < 256
    · exact rwhole_u1 m t k c (by omega) h1 w
    by_cases h2 : m < 65536
    · exact rwhole_u2 m t k c (by omega) h2 w
    by_cases h3 : m < 4294967296
    · exact rwhole_u4 m t k c (by omega) h3 w
    · exact rwhole_u8 m t k c (by omega) hm w
  | true =>
    by_cases h5 : 9223372036854775808 ≤ m
    · rw [if_pos ⟨rfl, h5⟩]
      exact rwhole_bad m t k c h5 hm w
    rw [if_neg (fun h => h5 h.2)]
    by_cases h0 : m < 32
    · exact rwhole_s0 m t k c h0 w
    by_cases h1 : m < 128
    · exact rwhole_s1 m t k c (by omega) h1 w
    by_cases h2 : m < 32768
    · exact rwhole_s2 m t k c (by omega) h2 w
    by_cases h3 : m < 2147483648
    · exact rwhole_s4 m t k c (by omega) h3 w
    · exact rwhole_s8 m t k c (by omega) (by omega) w
end Go.Proofs.Ytonjdnahplphhaa
/-
  CONTRACTS of the book's documents out of numbers: an item that would hold others, at the depth asked.
-/
namespace Go.Proofs.Ytonjdnahplphhaa
open Go.RowKit
open Go.Lib
set_option maxHeartbeats 2000000 in
theorem low5 {D n cp at_ m bl bd bo ba bn bi : Nat} (d : Nat) {A : Option Addr} {L : Nat → Int} {W w : World} {v : Value} {out : List Ev} (h : DS W A n cp L D bl bd bo ba bn bi w v m out at_) (h1 : at_ ≤ 900000000) (h2 : n ≤ 900000000) (h3 : m ≤ 900000000) (hx : nxD n L at_ % 8 = 5) (hd : D ≤ d) :
    Calls Try.prog 34 #[.int .i64 d, .pointer (some ⟨bn, 0, none⟩), .pointer (some ⟨bo, 0, none⟩), .pointer (some ⟨bd, 0, none⟩), .pointer (some ⟨bi, 0, none⟩)] w fun r w' => ∃ v', r = .returned (.tuple #[]) ∧ DS W A n cp L D bl bd bo ba bn bi w' v' (m + 1) (out ++ [lowD (nxD n L at_)]) (at_ + 1) := by
  have hX := nxD_lt n L at_
  have x0 : w.cell? ⟨bn, 0, none⟩ = some (.func (.func 33) #[] #[.pointer (some ⟨ba, 0, none⟩), .pointer (some ⟨bl, 0, none⟩)]) := h.x.cell 0
  have HC := Lib.hid (next_ds h h1 h2)
  clear h
  generalize nxD n L at_ = x at hx hX HC
  have hpd : lowD x = ⟨3, false, 0, ⟨#[]⟩, 0⟩ := by unfold lowD; rw [if_pos hx]
  rw [hpd]
  clear hpd
  go_enter Try.func34, Try.ntmps34
  go_wp2_with (first
    | (go_at_call 33; refine HC.out.mono ?_; rintro e w1 ⟨rfl, HN⟩; have x1 := HN.o.cell 0; have x2 := HN.o.froz 0; have x3 := HN.d.cell 0; have HN := Lib.hid HN)
    | (at_builtin; go_loud (refine wpList_append_win rfl _ _ _ rfl Try.underlying22 info_ev rfl rfl (HN.out.made.2.1.alloc _) _ rfl 1 _ (src_new _ Try.underlying22 5 1 (evsC [⟨3, false, 0, ⟨#[]⟩, 0⟩]) 35 _ rfl (evsC_one _) (heap_alloc_new _ _)) ?e1 ?e2 ?_)))
  case e1 => unfold maxLen; omega
  case e2 => omega
  intro v3 w3 hW3 hG3 hO3
  have hD := HN.out.put ⟨3, false, 0, ⟨#[]⟩, 0⟩ (up_alloc (Below.refl _ _) _) hW3.out hG3.out (by simpa using hO3.out)
  have hH := HN.out.held (up_alloc (Below.refl _ _) _) hG3.out
  have y1 := hH.cell 0
  have y2 := hH.froz 0
  obtain ⟨a3, c3, rfl, _, _⟩ := hD.made.2.1.slice_form
  have hD := Lib.hid hD
  clear hW3 hG3 hO3 hH x1 x2 x0 x3
  go_wp2
  refine bodyPost_ret (results_none rfl _ _ _) rfl ?_
  exact ⟨_, rfl, hD.out⟩
set_option maxHeartbeats 2000000 in
theorem low6 {D n cp at_ m bl bd bo ba bn bi : Nat} (d : Nat) {A : Option Addr} {L : Nat → Int} {W w : World} {v : Value} {out : List Ev} (h : DS W A n cp L D bl bd bo ba bn bi w v m out at_) (h1 : at_ ≤ 900000000) (h2 : n ≤ 900000000) (h3 : m ≤ 900000000) (hx : nxD n L at_ % 8 = 6) (hd : D ≤ d) :
    Calls Try.prog 34 #[.int .i64 d, .pointer (some ⟨bn, 0, none⟩), .pointer (some ⟨bo, 0, none⟩), .pointer (some ⟨bd, 0, none⟩), .pointer (some ⟨bi, 0, none⟩)] w fun r w' => ∃ v', r = .returned (.tuple #[]) ∧ DS W A n cp L D bl bd bo ba bn bi w' v' (m + 1) (out ++ [lowD (nxD n L at_)]) (at_ + 1) := by
  have hX := nxD_lt n L at_
  have x0 : w.cell? ⟨bn, 0, none⟩ = some (.func (.func 33) #[] #[.pointer (some ⟨ba, 0, none⟩), .pointer (some ⟨bl, 0, none⟩)]) := h.x.cell 0
  have HC := Lib.hid (next_ds h h1 h2)
  clear h
  generalize nxD n L at_ = x at hx hX HC
  have hpd : lowD x = ⟨2, false, x, ⟨#[]⟩, 0⟩ := by unfold lowD; rw [if_neg (by omega)]
  rw [hpd]
  clear hpd
  have hU : IntKind.u64.wrap (x : Int) = x := by rw [IntKind.wrap_u64]; omega
  go_enter Try.func34, Try.ntmps34
  go_wp2_with (first
    | (go_at_call 33; refine HC.out.mono ?_; rintro e w1 ⟨rfl, HN⟩; have x1 := HN.o.cell 0; have x2 := HN.o.froz 0; have x3 := HN.d.cell 0; have HN := Lib.hid HN)
    | (at_builtin; go_loud (refine wpList_append_win rfl _ _ _ rfl Try.underlying22 info_ev rfl rfl (HN.out.made.2.1.alloc _) _ rfl 1 _ (src_new _ Try.underlying22 5 1 (evsC [⟨2, false, x, ⟨#[]⟩, 0⟩]) 35 _ rfl (evsC_one _) (heap_alloc_new _ _)) ?e1 ?e2 ?_)))
  case e1 => unfold maxLen; omega
  case e2 => omega
  intro v3 w3 hW3 hG3 hO3
  have hD := HN.out.put ⟨2, false, x, ⟨#[]⟩, 0⟩ (up_alloc (Below.refl _ _) _) hW3.out hG3.out (by simpa using hO3.out)
  have hH := HN.out.held (up_alloc (Below.refl _ _) _) hG3.out
  have y1 := hH.cell 0
  have y2 := hH.froz 0
  obtain ⟨a3, c3, rfl, _, _⟩ := hD.made.2.1.slice_form
  have hD := Lib.hid hD
  clear hW3 hG3 hO3 hH x1 x2 x0 x3
  go_wp2
  refine bodyPost_ret (results_none rfl _ _ _) rfl ?_
  exact ⟨_, rfl, hD.out⟩
set_option maxHeartbeats 2000000 in
theorem low7 {D n cp at_ m bl bd bo ba bn bi : Nat} (d : Nat) {A : Option Addr} {L : Nat → Int} {W w : World} {v : Value} {out : List Ev} (h : DS W A n cp L D bl bd bo ba bn bi w v m out at_) (h1 : at_ ≤ 900000000) (h2 : n ≤ 900000000) (h3 : m ≤ 900000000) (hx : nxD n L at_ % 8 = 7) (hd : D ≤ d) :
    Calls Try.prog 34 #[.int .i64 d, .pointer (some ⟨bn, 0, none⟩), .pointer (some ⟨bo, 0, none⟩), .pointer (some ⟨bd, 0, none⟩), .pointer (some ⟨bi, 0, none⟩)] w fun r w' => ∃ v', r = .returned (.tuple #[]) ∧ DS W A n cp L D bl bd bo ba bn bi w' v' (m + 1) (out ++ [lowD (nxD n L at_)]) (at_ + 1) := by
  have hX := nxD_lt n L at_
  have x0 : w.cell? ⟨bn, 0, none⟩ = some (.func (.func 33) #[] #[.pointer (some ⟨ba, 0, none⟩), .pointer (some ⟨bl, 0, none⟩)]) := h.x.cell 0
  have HC := Lib.hid (next_ds h h1 h2)
  clear h
  generalize nxD n L at_ = x at hx hX HC
  have hpd : lowD x = ⟨2, false, x, ⟨#[]⟩, 0⟩ := by unfold lowD; rw [if_neg (by omega)]
  rw [hpd]
  clear hpd
  have hU : IntKind.u64.wrap (x : Int) = x := by rw [IntKind.wrap_u64]; omega
  go_enter Try.func34, Try.ntmps34
  go_wp2_with (first
    | (go_at_call 33; refine HC.out.mono ?_; rintro e w1 ⟨rfl, HN⟩; have x1 := HN.o.cell 0; have x2 := HN.o.froz 0; have x3 := HN.d.cell 0; have HN := Lib.hid HN)
    | (at_builtin; go_loud (refine wpList_append_win rfl _ _ _ rfl Try.underlying22 info_ev rfl rfl (HN.out.made.2.1.alloc _) _ rfl 1 _ (src_new _ Try.underlying22 5 1 (evsC [⟨2, false, x, ⟨#[]⟩, 0⟩]) 35 _ rfl (evsC_one _) (heap_alloc_new _ _)) ?e1 ?e2 ?_)))
  case e1 => unfold maxLen; omega
  case e2 => omega
  intro v3 w3 hW3 hG3 hO3
  have hD := HN.out.put ⟨2, false, x, ⟨#[]⟩, 0⟩ (up_alloc (Below.refl _ _) _) hW3.out hG3.out (by simpa using hO3.out)
  have hH := HN.out.held (up_alloc (Below.refl _ _) _) hG3.out
  have y1 := hH.cell 0
  have y2 := hH.froz 0
  obtain ⟨a3, c3, rfl, _, _⟩ := hD.made.2.1.slice_form
  have hD := Lib.hid hD
  clear hW3 hG3 hO3 hH x1 x2 x0 x3
  go_wp2
  refine bodyPost_ret (results_none rfl _ _ _) rfl ?_
  exact ⟨_, rfl, hD.out⟩
end Go.Proofs.Ytonjdnahplphhaa
/-
  CONTRACTS of the book's documents out of numbers: an array, and the items in it.
-/
namespace Go.Proofs.Ytonjdnahplphhaa
open Go.RowKit
open Go.Lib
theorem list_cap (it : Nat → List Ev × Nat) (C : Nat) (h : ∀ a, (it a).1.length ≤ C ∧ (it a).2 ≤ a + C) : ∀ k a, (listD it k a).1.length ≤ k * C ∧ (listD it k a).2 ≤ a + k * C
  | 0, a => by simp [listD]
  | k + 1, a => by
    have h1 := h a
    have h2 := list_cap it C h k (it a).2
    rw [Nat.succ_mul]
    simp only [listD, List.length_append]
    omega
theorem map_cap (n : Nat) (L : Nat → Int) (it : Nat → List Ev × Nat) (C : Nat) (h : ∀ a, (it a).1.length ≤ C ∧ (it a).2 ≤ a + C) : ∀ k a, (mapD n L it k a).1.length ≤ k * (C + 1) ∧ (mapD n L it k a).2 ≤ a + k * (C + 1)
  | 0, a => by simp [mapD]
  | k + 1, a => by
    have h1 := h (a + 1)
    have h2 := map_cap n L it C h k (it (a + 1)).2
    rw [Nat.succ_mul]
    simp only [mapD, List.length_cons, List.length_append]
    omega
theorem item_cap (n : Nat) (L : Nat → Int) : ∀ f a, (itemD n L f a).1.length ≤ capD f ∧ (itemD n L f a).2 ≤ a + capD f
  | 0, a => by
    simp only [itemD, capD]
    split <;> simp
  | f + 1, a => by
    have h1 := list_cap (itemD n L f) (capD f) (item_cap n L f) (nxD n L a / 8 % 4) (a + 1)
    have h2 := map_cap n L (itemD n L f) (capD f) (item_cap n L f) (nxD n L a / 8 % 3) (a + 1)
    have h3 : nxD n L a / 8 % 4 * capD f ≤ 3 * capD f := Nat.mul_le_mul_right _ (by omega)
    have h4 : nxD n L a / 8 % 3 * (capD f + 1) ≤ 2 * (capD f + 1) := Nat.mul_le_mul_right _ (by omega)
    simp only [itemD, capD]
    split
    · exact ⟨by simp, by simp⟩
    · split
      · simp only [List.length_append, List.length_cons, List.length_nil]
        omega
      · simp only [List.length_append, List.length_cons, List.length_nil]
        omega
/-- What an item does, at one depth. -/
def ItemOk (W : World) (A : Option Addr) (n cp : Nat) (L : Nat → Int) (D bl bd bo ba bn bi d f : Nat) : Prop :=
  ∀ (m a : Nat) (w : World) (v : Value) (out : List Ev), DS W A n cp L D bl bd bo ba bn bi w v m out a → a + capD f ≤ 900000000 → m + capD f ≤ 900000000 →
    Calls Try.prog 34 #[.int .i64 ((d : Nat) : Int), .pointer (some ⟨bn, 0, none⟩), .pointer (some ⟨bo, 0, none⟩), .pointer (some ⟨bd, 0, none⟩), .pointer (some ⟨bi, 0, none⟩)] w fun r w' => ∃ v', r = .returned (.tuple #[]) ∧ DS W A n cp L D bl bd bo ba bn bi w' v' (m + (itemD n L f a).1.length) (out ++ (itemD n L f a).1) (itemD n L f a).2
set_option maxHeartbeats 2000000 in
theorem item_arr {D n cp at_ m bl bd bo ba bn bi d f : Nat} {A : Option Addr} {L : Nat → Int} {W w : World} {v : Value} {out : List Ev} (h : DS W A n cp L D bl bd bo ba bn bi w v m out at_) (h1 : at_ + capD (f + 1) ≤ 900000000) (h2 : n ≤ 900000000) (h3 : m + capD (f + 1) ≤ 900000000) (hx : nxD n L at_ % 8 = 5) (hd : d + (f + 1) = D) (hD : D ≤ 1000)
    (hI : ItemOk W A n cp L D bl bd bo ba bn bi (d + 1) f) :
    Calls Try.prog 34 #[.int .i64 ((d : Nat) : Int), .pointer (some ⟨bn, 0, none⟩), .pointer (some ⟨bo, 0, none⟩), .pointer (some ⟨bd, 0, none⟩), .pointer (some ⟨bi, 0, none⟩)] w fun r w' => ∃ v', r = .returned (.tuple #[]) ∧ DS W A n cp L D bl bd bo ba bn bi w' v' (m + (itemD n L (f + 1) at_).1.length) (out ++ (itemD n L (f + 1) at_).1) (itemD n L (f + 1) at_).2 := by
  have hX := nxD_lt n L at_
  have x0 : w.cell? ⟨bn, 0, none⟩ = some (.func (.func 33) #[] #[.pointer (some ⟨ba, 0, none⟩), .pointer (some ⟨bl, 0, none⟩)]) := h.x.cell 0
  have hcap := item_cap n L f
  have hC : capD (f + 1) = 3 * capD f + 5 := rfl
  rw [hC] at h1 h3
  clear hC
  have HC := Lib.hid (next_ds h (by omega) h2)
  clear h
  simp only [itemD]
  rw [if_neg (by omega), if_pos hx]
  generalize nxD n L at_ = x at hx hX HC ⊢
  obtain ⟨q, hq⟩ : ∃ q, x / 8 % 4 = q := ⟨_, rfl⟩
  rw [hq]
  have hq4 : q ≤ 3 := by omega
  obtain ⟨T, hT⟩ : ∃ T, listD (itemD n L f) q (at_ + 1) = T := ⟨_, rfl⟩
  rw [hT]
  have HCap := Lib.hid hcap
  have HI := Lib.hid hI
  have HT := Lib.hid hT
  have HQ := Lib.hid hq
  have hsh : (x : Int) / 8 % 4 = q := by omega
  have hlt : ¬ (D : Int) ≤ d := by omega
  clear hcap hI hT hq
  go_enter Try.func34, Try.ntmps34
  go_wp2_with (first
    | (go_at_call 33; refine HC.out.mono ?_; rintro e w1 ⟨rfl, HN⟩; have x1 := HN.o.cell 0; have x2 := HN.o.froz 0; have x3 := HN.d.cell 0; have HN := Lib.hid HN)
    | (at_builtin; go_loud (refine wpList_append_win rfl _ _ _ rfl Try.underlying22 info_ev rfl rfl (HN.out.made.2.1.alloc _) _ rfl 1 _ (src_new _ Try.underlying22 5 1 (evsC [⟨5, false, 0, ⟨#[]⟩, (q : Int)⟩]) 35 _ rfl (evsC_one _) (heap_alloc_new _ _)) ?e1 ?e2 ?_)))
  case e1 => unfold maxLen; omega
  case e2 => omega
  intro v3 w3 hW3 hG3 hO3
  have hD := HN.out.put ⟨5, false, 0, ⟨#[]⟩, (q : Int)⟩ (up_alloc (Below.refl _ _) _) hW3.out hG3.out (by simpa using hO3.out)
  have hH := HN.out.held (up_alloc (Below.refl _ _) _) hG3.out
  have y1 := hH.cell 0
  have y2 := hH.froz 0
  obtain ⟨a3, c3, rfl, _, _⟩ := hD.made.2.1.slice_form
  have hD := Lib.hid hD
  clear hW3 hG3 hO3 hH x1 x2 x3 x0
  have hlm := HN.out.len
  clear HC
  have HL := Lib.hid hlm
  clear hlm
  go_wp2
  obtain ⟨e5, he5⟩ : ∃ e5 : Ev, (⟨5, false, 0, ⟨#[]⟩, (q : Int)⟩ : Ev) = e5 := ⟨_, rfl⟩
  rw [he5] at hD
  have HE5 := Lib.hid he5
  clear he5
  generalize w3.setCell ⟨bo, 0, none⟩ (.slice a3 (m + 1) c3) = w4 at hD ⊢
  clear y1 y2
  go_loopw [8] (fun i wr => ∃ (j m' a' : Nat) (v' : Value) (out' : List Ev), i = .int .i64 j ∧ j ≤ q ∧ Hid (DS W A n cp L D bl bd bo ba bn bi wr v' m' out' a') ∧ Hid (out' ++ (listD (itemD n L f) (q - j) a').1 = (out ++ [e5]) ++ T.1 ∧ (listD (itemD n L f) (q - j) a').2 = T.2 ∧ m' ≤ m + 1 + j * capD f ∧ a' ≤ at_ + 1 + j * capD f)) (fun i _ => q - (RowKit.intOf i).toNat)
  case atStart => exact ⟨0, m + 1, at_ + 1, _, _, rfl, by omega, hD, Lib.hid ⟨by rw [Nat.sub_zero, HT.out], by rw [Nat.sub_zero, HT.out], by omega, by omega⟩⟩
  case round =>
    obtain ⟨j, m', a', v', out', rfl, hj, HS, HR⟩ := hrel
    by_cases hjq : j < q
    · have x0 : wr.cell? ⟨bi, 0, none⟩ = some (.func (.func 34) #[] #[.pointer (some ⟨bn, 0, none⟩), .pointer (some ⟨bo, 0, none⟩), .pointer (some ⟨bd, 0, none⟩), .pointer (some ⟨bi, 0, none⟩)]) := HS.out.i.cell 0
      have hmul : j * capD f + capD f ≤ 3 * capD f := by rw [← Nat.succ_mul]; exact Nat.mul_le_mul_right _ (by omega)
      have hr := HR.out
      have HK := Lib.hid (HI.out m' a' wr v' out' HS.out (by omega) (by omega))
      have hcp := HCap.out a'
      rw [show q - j = (q - (j + 1)) + 1 by omega] at hr
      simp only [listD] at hr
      have HR2 : Hid ((out' ++ (itemD n L f a').1) ++ (listD (itemD n L f) (q - (j + 1)) (itemD n L f a').2).1 = (out ++ [e5]) ++ T.1 ∧ (listD (itemD n L f) (q - (j + 1)) (itemD n L f a').2).2 = T.2 ∧ m' + (itemD n L f a').1.length ≤ m + 1 + (j + 1) * capD f ∧ (itemD n L f a').2 ≤ at_ + 1 + (j + 1) * capD f) := Lib.hid ⟨by rw [← hr.1, List.append_assoc], hr.2.1, by rw [Nat.succ_mul]; omega, by rw [Nat.succ_mul]; omega⟩
      clear hr hcp hmul HS HR
      go_wp2_with (go_at_call 34; refine HK.out.mono ?_; rintro e w5 ⟨v5, rfl, HS5⟩; have HS5 := Lib.hid HS5)
      go_roundw
      case rel => exact ⟨j + 1, _, _, v5, _, rfl, hjq, HS5, HR2⟩
      case measure => simp [RowKit.intOf]; omega
    · have hr := HR.out
      rw [show q - j = 0 by omega] at hr
      simp only [listD, List.append_nil] at hr
      have hmul : j * capD f ≤ 3 * capD f := Nat.mul_le_mul_right _ (by omega)
      have x1 := HS.out.o.cell 0
      have x2 := HS.out.o.froz 0
      have hm6 : m' ≤ 900000000 := by omega
      have HR3 := Lib.hid hr
      clear hr HR hmul
      go_wp2_with (at_builtin; go_loud (refine wpList_append_win rfl _ _ _ rfl Try.underlying22 info_ev rfl rfl (HS.out.made.2.1.alloc _) _ rfl 1 _ (src_new _ Try.underlying22 5 1 (evsC [⟨7, false, 0, ⟨#[]⟩, 0⟩]) 35 _ rfl (evsC_one _) (heap_alloc_new _ _)) ?e1 ?e2 ?_))
      case e1 => unfold maxLen; omega
      case e2 => omega
      intro v6 w6 hW6 hG6 hO6
      have hD6 := HS.out.put ⟨7, false, 0, ⟨#[]⟩, 0⟩ (up_alloc (Below.refl _ _) _) hW6.out hG6.out (by simpa using hO6.out)
      have hH6 := HS.out.held (up_alloc (Below.refl _ _) _) hG6.out
      have y1 := hH6.cell 0
      have y2 := hH6.froz 0
      obtain ⟨a6, c6, rfl, _, _⟩ := hD6.made.2.1.slice_form
      have hlen := hD6.len
      have hD6 := Lib.hid hD6
      have HLen := Lib.hid hlen
      clear hW6 hG6 hO6 hH6 x1 x2 hlen
      go_wp2
      refine bodyPost_end (results_none rfl _ _ _) rfl ?_
      refine ⟨.slice a6 (m' + 1) c6, rfl, ?_⟩
      have he : (out ++ (⟨5, false, 0, ⟨#[]⟩, (q : Int)⟩ :: (T.1 ++ [⟨7, false, 0, ⟨#[]⟩, 0⟩]))) = out' ++ [⟨7, false, 0, ⟨#[]⟩, 0⟩] := by
        rw [HR3.out.1, HE5.out]
        simp
      have hl2 : m + ((T.1 ++ [(⟨7, false, 0, ⟨#[]⟩, 0⟩ : Ev)]).length + 1) = m' + 1 := by
        have h9 := congrArg List.length he
        rw [HLen.out, List.length_append, List.length_cons, HL.out] at h9
        exact h9
      rw [he, hl2, ← HR3.out.2.1]
      exact hD6.out
end Go.Proofs.Ytonjdnahplphhaa
/-
  THE DOCUMENT'S OWN READER OF MESSAGEPACK (truchmanref1.Pack): a whole number that is written is read as it was.
-/
namespace Go.Proofs.Ytonjdnahplphhaa
open Go.RowKit
open Go.Lib
theorem rd_new (w : World) (S : ByteArray) : RdAt (w.alloc (.cells #[.slice none 0 0, .int .i64 0, .bool false, .int .i64 0] 57)) (((w.alloc (.cells #[.slice none 0 0, .int .i64 0, .bool false, .int .i64 0] 57)).alloc (.cells #[.slice none 0 0, .int .i64 0, .bool false, .int .i64 0] 57)).alloc (.cells #[.string S, .int .i64 0, .int .i64 1, .pointer (some ⟨w.heap.size + 1, 0, none⟩), .slice none 0 0] 92)) (w.heap.size + 2) (w.heap.size + 1) S 0 1 (.slice none 0 0) [] false := by
  have hr := blk_new (w.alloc (.cells #[.slice none 0 0, .int .i64 0, .bool false, .int .i64 0] 57)) #[.slice none 0 0, .int .i64 0, .bool false, .int .i64 0] 57
  have hp := blk_new ((w.alloc (.cells #[.slice none 0 0, .int .i64 0, .bool false, .int .i64 0] 57)).alloc (.cells #[.slice none 0 0, .int .i64 0, .bool false, .int .i64 0] 57)) #[.string S, .int .i64 0, .int .i64 1, .pointer (some ⟨w.heap.size + 1, 0, none⟩), .slice none 0 0] 92
  have e1 : ∀ X, (w.alloc X).heap.size = w.heap.size + 1 := fun X => by simp
  have e2 : ∀ X Y, ((w.alloc X).alloc Y).heap.size = w.heap.size + 2 := fun X Y => by simp
  rw [e1] at hr
  rw [e2] at hp
  have hr2 := hr.alloc (.cells #[.string S, .int .i64 0, .int .i64 1, .pointer (some ⟨w.heap.size + 1, 0, none⟩), .slice none 0 0] 92)
  have at_of : ∀ {W : World} {b : Nat} {cs : Array Value} {t : TypeId}, Blk W b cs t → At W b 0 cs.toList := fun {W b cs t} h j u hj => by
    rw [Nat.zero_add]
    exact ⟨(h.cell j).trans (by simpa using hj), h.froz j⟩
  exact ⟨at_of hp, at_of hr2, Win.nil_ _ _ _, ⟨by simp [Value.owner], by simp [Value.owner], by omega⟩, ⟨by rw [e1]; omega, by rw [e1]; omega⟩, up_alloc (up_alloc (Below.refl _ _) _) _⟩
set_option maxRecDepth 100000 in
set_option maxHeartbeats 4000000 in
theorem rpack_one (S : ByteArray) (e : Ev) (N : Nat) (hS : S.size = N) (hN : 0 < N) (hpk : ∀ w0 w p r, RdAt w0 w p r S 0 1 (.slice none 0 0) [] false → Calls Try.prog 37 #[.pointer (some ⟨p, 0, none⟩)] w fun q w' => q = .returned (.bool true) ∧ ∃ a c, RdAt w0 w' p r S N 1 (.slice a 1 c) [e] true) (w : World) :
    Calls Try.prog 22 #[.string S, .int .i64 1] w fun q w' => ∃ a c, q = .returned (.agg #[.slice a 1 c, .int .i64 0, .bool true, .int .i64 0]) ∧ Win w' 35 5 (.slice a 1 c) 1 (evsC [e]) ∧ Below w.heap.size w w' := by
  have HPK := Lib.hid hpk
  have H0 := Lib.hid (rd_new w S)
  have hd0 : decide (S.size ≤ 0) = false := by rw [decide_eq_false_iff_not]; omega
  have hd1 : decide (S.size ≤ N) = true := by rw [decide_eq_true_eq]; omega
  have HD := Lib.hid (And.intro hd0 hd1)
  clear hpk hS hN hd0 hd1
  go_enter Try.func22, Try.ntmps22
  go_wp2_with fail
  have hl := rd_lack H0.out
  rw [HD.out.1] at hl
  have HL := Lib.hid hl
  clear hl
  refine wp_loop_rounds 2 ?_
  rw [rounds_succ]
  go_wp2_with fail
  refine HL.out.mono ?_
  rintro q w1 ⟨rfl, h1⟩
  have H1 := Lib.hid (HPK.out _ _ _ _ h1)
  clear h1 H0 HL
  go_wp2_with fail
  refine H1.out.mono ?_
  rintro q w2 ⟨rfl, a, c, h2⟩
  have hl2 := rd_lack h2
  rw [HD.out.2] at hl2
  have HL2 := Lib.hid hl2
  clear hl2 h2 H1
  go_wp2_with fail
  rw [rounds_succ]
  go_wp2_with fail
  refine HL2.out.mono ?_
  rintro q w3 ⟨rfl, h3⟩
  have H3 := Lib.hid (rd_end h3)
  clear h3 HL2
  go_wp2_with fail
  refine H3.out.mono ?_
  rintro q w4 ⟨rfl, h4⟩
  have hb4 := (blk_new w #[.slice none 0 0, .int .i64 0, .bool false, .int .i64 0] 57).below h4.bel (by simp)
  have x0 : w4.cell? ⟨w.heap.size, 0, none⟩ = some (.slice none 0 0) := hb4.cell 0
  have x1 : w4.cell? ⟨w.heap.size, 1, none⟩ = some (.int .i64 0) := hb4.cell 1
  have x2 : w4.cell? ⟨w.heap.size, 2, none⟩ = some (.bool false) := hb4.cell 2
  have x3 : w4.cell? ⟨w.heap.size, 3, none⟩ = some (.int .i64 0) := hb4.cell 3
  have y0 := hb4.froz 0
  have y1 := hb4.froz 1
  have y2 := hb4.froz 2
  have y3 := hb4.froz 3
  have HB := Lib.hid hb4
  have hown : w.heap.size ∉ Value.owner (.slice a 1 c) := fun hm => h4.win.apart hb4 (by decide) hm
  have B4 := Lib.hid (up_trans (up_alloc (Below.refl w.heap.size w) (.cells #[.slice none 0 0, .int .i64 0, .bool false, .int .i64 0] 57)) h4.bel)
  have HW5 : Hid (Win ((((w4.setCell ⟨w.heap.size, 0, none⟩ (.slice a 1 c)).setCell ⟨w.heap.size, 1, none⟩ (.int .i64 0)).setCell ⟨w.heap.size, 2, none⟩ (.bool true)).setCell ⟨w.heap.size, 3, none⟩ (.int .i64 0)) 35 5 (.slice a 1 c) 1 (evsC [e])) := Lib.hid ((((h4.win.setCell_far hown _).setCell_far hown _).setCell_far hown _).setCell_far hown _)
  have HX5 : Hid (Below w.heap.size w ((((w4.setCell ⟨w.heap.size, 0, none⟩ (.slice a 1 c)).setCell ⟨w.heap.size, 1, none⟩ (.int .i64 0)).setCell ⟨w.heap.size, 2, none⟩ (.bool true)).setCell ⟨w.heap.size, 3, none⟩ (.int .i64 0))) := Lib.hid ((((B4.out.setCell (Nat.le_refl _) _).setCell (Nat.le_refl _) _).setCell (Nat.le_refl _) _).setCell (Nat.le_refl _) _)
  have hB5 : Blk ((((w4.setCell ⟨w.heap.size, 0, none⟩ (.slice a 1 c)).setCell ⟨w.heap.size, 1, none⟩ (.int .i64 0)).setCell ⟨w.heap.size, 2, none⟩ (.bool true)).setCell ⟨w.heap.size, 3, none⟩ (.int .i64 0)) w.heap.size #[.slice a 1 c, .int .i64 0, .bool true, .int .i64 0] 57 := (((hb4.set 0 _).set 1 _).set 2 _).set 3 _
  have HB5 := Lib.hid hB5
  clear h4 H3 hb4 hB5 hown HD HPK HB
  generalize hbq : w.heap.size = b at *
  have HBQ := Lib.hid hbq
  clear hbq
  go_wp2
  have z0 := HB5.out.cell 0
  have z1 := HB5.out.cell 1
  have z2 := HB5.out.cell 2
  have z3 := HB5.out.cell 3
  generalize ((((w4.setCell ⟨b, 0, none⟩ (.slice a 1 c)).setCell ⟨b, 1, none⟩ (.int .i64 0)).setCell ⟨b, 2, none⟩ (.bool true)).setCell ⟨b, 3, none⟩ (.int .i64 0)) = w5 at *
  simp [bodyPost, results, Try.results22, go_sem, z0, z1, z2, z3]
  exact ⟨_, _, ⟨rfl, rfl⟩, HW5.out, by rw [HBQ.out]; exact HX5.out⟩
theorem ext_tail (x : UInt8) (l : List UInt8) (n : Nat) (hl : l.length = n) : (⟨(x :: l).toArray⟩ : ByteArray).extract 1 (1 + n) = ⟨l.toArray⟩ := by
  apply ByteArray.ext
  apply Array.ext'
  rw [ext_list]
  show ((x :: l).take (1 + n)).drop 1 = l
  rw [List.take_of_length_le (by simp [hl]; omega)]
  rfl
theorem idx_0 (x : UInt8) (l : List UInt8) (k : Nat) (hk : x.toNat = k) (W : World) : (Instr.index 9 (.string ⟨(x :: l).toArray⟩) (.int .i64 0)).run Try.prog W = .ok (.int .u8 (k : Int)) W := by
  subst hk
  exact idx_rd (x :: l) 0 (by simp) W
/-- PACK: a whole number as it is written. -/
theorem rpack_int (y : Bool) (m : Nat) (hm : m < 18446744073709551616) (hy : y = true → m < 9223372036854775808) (w : World) :
    Calls Try.prog 22 #[.string ⟨(intPk y m).toArray⟩, .int .i64 1] w fun q w' => ∃ a c, q = .returned (.agg #[.slice a 1 c, .int .i64 0, .bool true, .int .i64 0]) ∧ Win w' 35 5 (.slice a 1 c) 1 (evsC [⟨2, y, m, ⟨#[]⟩, 0⟩]) ∧ Below w.heap.size w w' := by
  cases y with
  | false =>
    unfold intPk
    rw [if_pos rfl]
    by_cases h1 : m < 128
    · rw [if_pos h1]
      exact rpack_one _ _ 1 (by rw [size_of]; rfl) (by omega) (fun w0 w p r h => rd_pack_lo m h1 h (fun W => idx_0 _ _ m (by rw [UInt8.toNat_ofNat']; omega) W)) w
    rw [if_neg h1]
    by_cases h2 : m < 256
    · rw [if_pos h2]
      exact rpack_one _ _ 2 (by rw [size_of, List.length_cons, bigB_length]) (by omega) (fun w0 w p r h => rd_pack_u1 (bigB 1 m) (bigB_length 1 m) m (by rw [valB_big]; exact Nat.mod_eq_of_lt (by omega)) (by rw [size_of, List.length_cons, bigB_length]; omega) (ext_tail _ _ 1 (bigB_length 1 m)) h (fun W => idx_0 _ _ 204 rfl W)) w
    rw [if_neg h2]
    by_cases h3 : m < 65536
    · rw [if_pos h3]
      exact rpack_one _ _ 3 (by rw [size_of, List.length_cons, bigB_length]) (by omega) (fun w0 w p r h => rd_pack_u2 (bigB 2 m) (bigB_length 2 m) m (by rw [valB_big]; exact Nat.mod_eq_of_lt (by omega)) (by rw [size_of, List.length_cons, bigB_length]; omega) (ext_tail _ _ 2 (bigB_length 2 m)) h (fun W => idx_0 _ _ 205 rfl W)) w
    rw [if_neg h3]
    by_cases h4 : m < 4294967296
    · rw [if_pos h4]
      exact rpack_one _ _ 5 (by rw [size_of, List.length_cons, bigB_length]) (by omega) (fun w0 w p r h => rd_pack_u4 (bigB 4 m) (bigB_length 4 m) m (by rw [valB_big]; exact Nat.mod_eq_of_lt (by omega)) (by rw [size_of, List.length_cons, bigB_length]; omega) (ext_tail _ _ 4 (bigB_length 4 m)) h (fun W => idx_0 _ _ 206 rfl W)) w
    rw [if_neg h4]
    exact rpack_one _ _ 9 (by rw [size_of, List.length_cons, bigB_length]) (by omega) (fun w0 w p r h => rd_pack_u8 (bigB 8 m) (bigB_length 8 m) m (by rw [valB_big]; exact Nat.mod_eq_of_lt (by omega)) (by rw [size_of, List.length_cons, bigB_length]; omega) (ext_tail _ _ 8 (bigB_length 8 m)) h (fun W => idx_0 _ _ 207 rfl W)) w
  | true =>
    have hy := hy rfl
    unfold intPk
    rw [if_neg (by decide)]
    by_cases h1 : m < 32
    · rw [if_pos h1]
      exact rpack_one _ _ 1 (by rw [size_of]; rfl) (by omega) (fun w0 w p r h => rd_pack_hi (255 - m) m (by omega) (by omega) h (fun W => idx_0 _ _ (255 - m) (by rw [UInt8.toNat_ofNat']; omega) W)) w
    rw [if_neg h1]
    by_cases h2 : m < 128
    · rw [if_pos h2]
      exact rpack_one _ _ 2 (by rw [size_of, List.length_cons, bigB_length]) (by omega) (fun w0 w p r h => rd_pack_s1 (bigB 1 (18446744073709551615 - m)) (bigB_length 1 _) (255 - m) (by rw [valB_big]; omega) (by rw [size_of, List.length_cons, bigB_length]; omega) (ext_tail _ _ 1 (bigB_length 1 _)) m (by omega) rfl h (fun W => idx_0 _ _ 208 rfl W)) w
    rw [if_neg h2]
    by_cases h3 : m < 32768
    · rw [if_pos h3]
      exact rpack_one _ _ 3 (by rw [size_of, List.length_cons, bigB_length]) (by omega) (fun w0 w p r h => rd_pack_s2 (bigB 2 (18446744073709551615 - m)) (bigB_length 2 _) (65535 - m) (by rw [valB_big]; omega) (by rw [size_of, List.length_cons, bigB_length]; omega) (ext_tail _ _ 2 (bigB_length 2 _)) m (by omega) rfl h (fun W => idx_0 _ _ 209 rfl W)) w
    rw [if_neg h3]
    by_cases h4 : m < 2147483648
    · rw [if_pos h4]
      exact rpack_one _ _ 5 (by rw [size_of, List.length_cons, bigB_length]) (by omega) (fun w0 w p r h => rd_pack_s4 (bigB 4 (18446744073709551615 - m)) (bigB_length 4 _) (4294967295 - m) (by rw [valB_big]; omega) (by rw [size_of, List.length_cons, bigB_length]; omega) (ext_tail _ _ 4 (bigB_length 4 _)) m (by omega) rfl h (fun W => idx_0 _ _ 210 rfl W)) w
    rw [if_neg h4]
    exact rpack_one _ _ 9 (by rw [size_of, List.length_cons, bigB_length]) (by omega) (fun w0 w p r h => rd_pack_s8 (bigB 8 (18446744073709551615 - m)) (bigB_length 8 _) (18446744073709551615 - m) (by rw [valB_big]; omega) (by rw [size_of, List.length_cons, bigB_length]; omega) (ext_tail _ _ 8 (bigB_length 8 _)) m (by omega) rfl h (fun W => idx_0 _ _ 211 rfl W)) w
end Go.Proofs.Ytonjdnahplphhaa
