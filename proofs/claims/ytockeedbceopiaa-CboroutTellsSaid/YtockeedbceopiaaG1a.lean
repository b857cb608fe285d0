/-
  Type assertions on a part: one equation a type over all kinds of part. CONTRACTS of cborout.Writer, part E: refusesEnd, refuses. CONTRACT of head.Put: the shortest head of a number. CONTRACTS of package cborout, part D: the bytes of a part: boolOf, wholeOf, textOf, beginOf, valueOf, endOf. CONTRACT of the document's own Writer, for CBOR: a value. CONTRACTS of the book's documents out of numbers: an item that would hold others, at the depth asked. CONTRACTS of the book's documents out of numbers: an array, and the items in it.
-/
import Derived.Test.YtockeedbceopiaaHEv
import Derived.Test.YtockeedbceopiaaG0b
import Derived.Test.YtockeedbceopiaaHHeadRh
import Derived.Shelf.Strconv.Itoa0
import Derived.Deep.RegionWith
import Derived.Test.YtockeedbceopiaaHRefKr
import Derived.Deep.QuietTactic
import Derived.StillTail
import Derived.Deep.RegionLaw
import Derived.Test.YtockeedbceopiaaHDocD
/-
  Type assertions on a part: one equation a type over all kinds of part.
-/
namespace Go.Proofs.Ytockeedbceopiaa
open Go.RowKit
open Go.Lib
theorem kind8 {e : Ev} (hm : mayE e) : e.k = 0 ∨ e.k = 1 ∨ e.k = 2 ∨ e.k = 3 ∨ e.k = 4 ∨ e.k = 5 ∨ e.k = 6 ∨ e.k = 7 := by
  have h1 := hm.1
  have h2 := hm.2.1
  omega
theorem as_close (e : Ev) (hm : mayE e) (W : World) : (Instr.typeAssert (valE e) 20 61 true).run Try.prog W = .ok (.tuple #[.agg #[], .bool (decide (e.k = 7))]) W := by
  obtain ⟨k, y, m, t, c⟩ := e
  rcases kind8 hm with h | h | h | h | h | h | h | h <;> (simp only at h; subst h)
  · kernel_rfl
  · exact not_close _ (by decide) _ _
  · exact not_close _ (by decide) _ _
  · exact not_close _ (by decide) _ _
  · exact not_close _ (by decide) _ _
  · exact not_close _ (by decide) _ _
  · exact not_close _ (by decide) _ _
  · exact is_close _ _
theorem as_word (e : Ev) (hm : mayE e) (W : World) : (Instr.typeAssert (valE e) 20 59 true).run Try.prog W = .ok (.tuple #[.string (if e.k = 3 then e.t else ⟨#[]⟩), .bool (decide (e.k = 3))]) W := by
  obtain ⟨k, y, m, t, c⟩ := e
  rcases kind8 hm with h | h | h | h | h | h | h | h <;> (simp only at h; subst h)
  · kernel_rfl
  · exact not_word _ (by decide) _ _
  · exact not_word _ (by decide) _ _
  · exact is_word _ _
  · exact not_word _ (by decide) _ _
  · exact not_word _ (by decide) _ _
  · exact not_word _ (by decide) _ _
  · exact not_word _ (by decide) _ _
theorem as_begin (e : Ev) (hm : mayE e) (W : World) : (Instr.typeAssert (valE e) 20 58 true).run Try.prog W = .ok (.tuple #[.agg #[.bool (decide (e.k = 6)), .int .i64 (if e.k = 5 ∨ e.k = 6 then e.c else 0)], .bool (decide (e.k = 5 ∨ e.k = 6))]) W := by
  obtain ⟨k, y, m, t, c⟩ := e
  rcases kind8 hm with h | h | h | h | h | h | h | h <;> (simp only at h; subst h)
  · kernel_rfl
  · exact not_begin _ (by decide) _ _
  · exact not_begin _ (by decide) _ _
  · exact not_begin _ (by decide) _ _
  · exact not_begin _ (by decide) _ _
  · exact is_begin _ _
  · exact is_begin _ _
  · exact not_begin _ (by decide) _ _
end Go.Proofs.Ytockeedbceopiaa
/-
  CONTRACTS of cborout.Writer, part E: refusesEnd, refuses.
-/
namespace Go.Proofs.Ytockeedbceopiaa
open Go.RowKit
open Go.Lib
/-- The row, and the calls that ask it, as long as old blocks stand. -/
theorem QAt.asks {w : World} {b o : Nat} {F : List Nat} {q : Kq} (h : QAt w b o F q) (hd : dpQ q.s ≤ 1000) : ∃ a cp, (∀ w', Below w.heap.size w w' → w'.cell? ⟨b, o, none⟩ = some (.slice a q.s.length cp) ∧ w'.cell? ⟨b, o + 1, none⟩ = some (.bool q.dn)) ∧
    (∀ w', Below w.heap.size w w' → Calls Try.prog 38 #[.slice a q.s.length cp] w' fun r w2 => r = .returned (.bool (fulT q.s)) ∧ Below w'.heap.size w' w2) ∧
    (∀ w', Below w.heap.size w w' → Calls Try.prog 39 #[.slice a q.s.length cp] w' fun r w2 => r = .returned (.bool (keyB q.s)) ∧ Below w'.heap.size w' w2) ∧
    (∀ w', Below w.heap.size w w' → Calls Try.prog 51 #[.slice a q.s.length cp] w' fun r w2 => r = .returned (.bool (mayQ q.s)) ∧ Below w'.heap.size w' w2) := by
  obtain ⟨a, cp, hA, hW, hF⟩ := h.cells
  have hlt := h.lt
  have hw : ∀ w', Below w.heap.size w w' → Win w' 99 3 (.slice a q.s.length cp) q.s.length (kcL q.s) := fun w' k => hW.keep fun i hi => k.block i (hW.lt i hi)
  have hdl := Nat.le_trans (dp_len q.s) hd
  refine ⟨a, cp, fun w' k => ?_, fun w' k => kfull_any (hw w' k) hd h.wf, fun w' k => kkey_any (hw w' k) hdl, fun w' k => kmay_any (hw w' k) hd h.wf⟩
  have := hA.keep (k.block b hlt)
  obtain ⟨⟨c0, _⟩, ⟨c1, _⟩⟩ := oat_two this
  exact ⟨c0, c1⟩
set_option maxRecDepth 100000 in
set_option maxHeartbeats 2000000 in
theorem ref_endQ {w : World} {b o : Nat} {F : List Nat} {q : Kq} (h : QAt w b o F q) (hd : dpQ q.s ≤ 1000) :
    Calls Try.prog 37 #[.pointer (some ⟨b, o, none⟩)] w fun r w' => r = .returned (.int .i64 ((if mayQ q.s = true then 0 else 14 : Nat) : Int)) ∧ Below w.heap.size w w' := by
  obtain ⟨a, cp, h0, _, _, hM⟩ := h.asks hd
  have c0 := (h0 w (Below.refl _ _)).1
  have HM := Lib.hid (hM w (Below.refl _ _))
  clear h0 hM h
  generalize mayQ q.s = M at *
  cases M with
  | false =>
    go_enter Try.func37, Try.ntmps37
    go_wp2_with fail
    refine HM.out.mono ?_
    rintro r w1 ⟨rfl, b1⟩
    have B1 := Lib.hid b1
    clear b1
    go_wp2
    go_ret
    exact ⟨rfl, B1.out⟩
  | true =>
    go_enter Try.func37, Try.ntmps37
    go_wp2_with fail
    refine HM.out.mono ?_
    rintro r w1 ⟨rfl, b1⟩
    have B1 := Lib.hid b1
    clear b1
    go_wp2
    go_ret
    exact ⟨rfl, B1.out⟩
set_option maxRecDepth 100000 in
set_option maxHeartbeats 2000000 in
/-- What is no part. -/
theorem qrefuses_other {w : World} {b o : Nat} (v : Value) (X : Ev) (hP : ∀ W, Calls Try.prog 36 #[v] W fun r w' => r = .returned (.tuple #[evV X, .bool false]) ∧ Below W.heap.size W w') :
    Calls Try.prog 24 #[.pointer (some ⟨b, o, none⟩), v] w fun r w' => r = .returned (.int .i64 14) ∧ Below w.heap.size w w' := by
  have HP := Lib.hid hP
  obtain ⟨k, y, m, t, c⟩ := X
  simp only [evV] at HP
  clear hP
  go_enter Try.func24, Try.ntmps24
  go_wp2_with fail
  refine (HP.out _).mono ?_
  rintro r w1 ⟨rfl, b1⟩
  have B1 := Lib.hid (up_alloc b1 (.cells #[.int .i64 k, .bool y, .int .u64 m, .string t, .int .i64 c] 35))
  clear b1
  go_wp2
  go_ret
  exact ⟨rfl, B1.out⟩
set_option maxRecDepth 100000 in
set_option maxHeartbeats 4000000 in
theorem qrefuses_gen {w : World} {b o : Nat} {F : List Nat} {q : Kq} (h : QAt w b o F q) (hs : dpQ q.s ≤ 1000) (v : Value) (X : Ev) (hP : ∀ W, Calls Try.prog 36 #[v] W fun r w' => r = .returned (.tuple #[evV X, .bool true]) ∧ Below W.heap.size W w')
    (isC isW : Bool) (S : ByteArray) (hC : ∀ W, (Instr.typeAssert v 20 61 true).run Try.prog W = .ok (.tuple #[.agg #[], .bool isC]) W)
    (hW : ∀ W, (Instr.typeAssert v 20 59 true).run Try.prog W = .ok (.tuple #[.string S, .bool isW]) W) (n : Nat)
    (hn : n = if q.dn = true then 14 else if isC = true then (if mayQ q.s = true then 0 else 14) else if fulT q.s = true then 14 else if isW = true then 0 else if keyB q.s = true then 8 else 0) :
    Calls Try.prog 24 #[.pointer (some ⟨b, o, none⟩), v] w fun r w' => r = .returned (.int .i64 n) ∧ Below w.heap.size w w' := by
  have HP := Lib.hid hP
  have HC := Lib.hid hC
  have HW := Lib.hid hW
  obtain ⟨k, y, m, t, c⟩ := X
  simp only [evV] at HP
  have HE : Hid (∀ w', Below w.heap.size w w' → Calls Try.prog 37 #[.pointer (some ⟨b, o, none⟩)] w' fun r w2 => r = .returned (.int .i64 ((if mayQ q.s = true then 0 else 14 : Nat) : Int)) ∧ Below w'.heap.size w' w2) := Lib.hid (fun w' k => ref_endQ (h.go k) hs)
  obtain ⟨a, cp, hc0, hU, hK, _⟩ := h.asks hs
  have HC0 := Lib.hid hc0
  have HU := Lib.hid hU
  have HK := Lib.hid hK
  generalize (if mayQ q.s = true then 0 else 14 : Nat) = n2 at *
  clear hP h hC hW hc0 hU hK hs
  generalize fulT q.s = U at *
  generalize keyB q.s = K at *
  generalize q.s.length = l at *
  generalize q.dn = D at *
  cases D with
  | true =>
    obtain rfl : n = 14 := by rw [hn, if_pos rfl]
    clear hn
    go_enter Try.func24, Try.ntmps24
    go_wp2_with fail
    refine (HP.out _).mono ?_
    rintro r w1 ⟨rfl, b1⟩
    have B1 := Lib.hid (up_alloc b1 (.cells #[.int .i64 k, .bool y, .int .u64 m, .string t, .int .i64 c] 35))
    have d1 := (HC0.out _ B1.out).2
    clear b1
    have BX := B1
    go_wp2
    go_ret
    exact ⟨rfl, BX.out⟩
  | false =>
    rw [if_neg (by simp)] at hn
    have hC := HC.out
    cases isC with
    | true =>
      rw [if_pos rfl] at hn
      subst hn
      go_enter Try.func24, Try.ntmps24
      go_wp2_with fail
      refine (HP.out _).mono ?_
      rintro r w1 ⟨rfl, b1⟩
      have B1 := Lib.hid (up_alloc b1 (.cells #[.int .i64 k, .bool y, .int .u64 m, .string t, .int .i64 c] 35))
      have d1 := (HC0.out _ B1.out).2
      clear b1
      go_wp2_with fail
      refine (HE.out _ (up_alloc B1.out _)).mono ?_
      rintro r w3 ⟨rfl, b3⟩
      have BX := Lib.hid (up_trans (up_alloc B1.out _) b3)
      clear b3
      go_wp2
      go_ret
      exact ⟨rfl, BX.out⟩
    | false =>
      rw [if_neg (by simp)] at hn
      cases U with
      | true =>
        rw [if_pos rfl] at hn
        subst hn
        go_enter Try.func24, Try.ntmps24
        go_wp2_with fail
        refine (HP.out _).mono ?_
        rintro r w1 ⟨rfl, b1⟩
        have B1 := Lib.hid (up_alloc b1 (.cells #[.int .i64 k, .bool y, .int .u64 m, .string t, .int .i64 c] 35))
        have d1 := (HC0.out _ B1.out).2
        clear b1
        have B2 := Lib.hid (up_alloc B1.out (.cells #[] 61))
        have d2 := (HC0.out _ B2.out).1
        go_wp2_with fail
        refine (HU.out _ B2.out).mono ?_
        rintro r w2 ⟨rfl, b2⟩
        have B3 := Lib.hid (up_trans B2.out b2)
        clear b2
        have BX := B3
        go_wp2
        go_ret
        exact ⟨rfl, BX.out⟩
      | false =>
        rw [if_neg (by simp)] at hn
        have hW := HW.out
        cases isW with
        | true =>
          rw [if_pos rfl] at hn
          subst hn
          go_enter Try.func24, Try.ntmps24
          go_wp2_with fail
          refine (HP.out _).mono ?_
          rintro r w1 ⟨rfl, b1⟩
          have B1 := Lib.hid (up_alloc b1 (.cells #[.int .i64 k, .bool y, .int .u64 m, .string t, .int .i64 c] 35))
          have d1 := (HC0.out _ B1.out).2
          clear b1
          have B2 := Lib.hid (up_alloc B1.out (.cells #[] 61))
          have d2 := (HC0.out _ B2.out).1
          go_wp2_with fail
          refine (HU.out _ B2.out).mono ?_
          rintro r w2 ⟨rfl, b2⟩
          have B3 := Lib.hid (up_trans B2.out b2)
          clear b2
          have BX := B3
          go_wp2
          go_ret
          exact ⟨rfl, BX.out⟩
        | false =>
          rw [if_neg (by simp)] at hn
          cases K with
          | true =>
            rw [if_pos rfl] at hn
            subst hn
            go_enter Try.func24, Try.ntmps24
            go_wp2_with fail
            refine (HP.out _).mono ?_
            rintro r w1 ⟨rfl, b1⟩
            have B1 := Lib.hid (up_alloc b1 (.cells #[.int .i64 k, .bool y, .int .u64 m, .string t, .int .i64 c] 35))
            have d1 := (HC0.out _ B1.out).2
            clear b1
            have B2 := Lib.hid (up_alloc B1.out (.cells #[] 61))
            have d2 := (HC0.out _ B2.out).1
            go_wp2_with fail
            refine (HU.out _ B2.out).mono ?_
            rintro r w2 ⟨rfl, b2⟩
            have B3 := Lib.hid (up_trans B2.out b2)
            clear b2
            have d3 := (HC0.out _ B3.out).1
            go_wp2_with fail
            refine (HK.out _ B3.out).mono ?_
            rintro r w3 ⟨rfl, b3⟩
            have BX := Lib.hid (up_trans B3.out b3)
            clear b3
            go_wp2
            go_ret
            exact ⟨rfl, BX.out⟩
          | false =>
            rw [if_neg (by simp)] at hn
            subst hn
            go_enter Try.func24, Try.ntmps24
            go_wp2_with fail
            refine (HP.out _).mono ?_
            rintro r w1 ⟨rfl, b1⟩
            have B1 := Lib.hid (up_alloc b1 (.cells #[.int .i64 k, .bool y, .int .u64 m, .string t, .int .i64 c] 35))
            have d1 := (HC0.out _ B1.out).2
            clear b1
            have B2 := Lib.hid (up_alloc B1.out (.cells #[] 61))
            have d2 := (HC0.out _ B2.out).1
            go_wp2_with fail
            refine (HU.out _ B2.out).mono ?_
            rintro r w2 ⟨rfl, b2⟩
            have B3 := Lib.hid (up_trans B2.out b2)
            clear b2
            have d3 := (HC0.out _ B3.out).1
            go_wp2_with fail
            refine (HK.out _ B3.out).mono ?_
            rintro r w3 ⟨rfl, b3⟩
            have BX := Lib.hid (up_trans B3.out b3)
            clear b3
            go_wp2
            go_ret
            exact ⟨rfl, BX.out⟩
theorem qstep_err_val {q : Kq} {e : Ev} (hm : mayE e) :
    (stepQ q e).1.2 = if q.dn = true then 14 else if decide (e.k = 7) = true then (if mayQ q.s = true then 0 else 14) else if fulT q.s = true then 14 else if decide (e.k = 3) = true then 0 else if keyB q.s = true then 8 else 0 := by
  obtain ⟨s, dn⟩ := q
  cases dn with
  | true => rw [stepQ_bad ⟨s, true⟩ e (.inr rfl), if_pos rfl]
  | false =>
    rw [if_neg (by simp)]
    by_cases h7 : e.k = 7
    · rw [if_pos (decide_eq_true h7)]
      cases s with
      | nil => rw [stepQ_none hm h7]; rfl
      | cons x r =>
        by_cases ho : shutB x
        · rw [stepQ_shut hm h7 ho, if_neg (by simpa [mayQ] using ho)]
        · rw [stepQ_end hm h7 ho, if_pos (by simpa [mayQ] using ho)]
    · rw [if_neg (by simpa using h7)]
      by_cases hf : fulT s = true
      · rw [stepQ_full hm h7 hf, if_pos hf]
      · rw [if_neg hf]
        have hf : fulT s = false := by simpa using hf
        by_cases hk : keyB s = true ∧ e.k ≠ 3
        · rw [stepQ_key hm h7 hf hk.1 hk.2, if_neg (by simpa using hk.2), if_pos hk.1]
        · have hz : (if decide (e.k = 3) = true then 0 else if keyB s = true then 8 else 0) = 0 := by
            by_cases h3 : e.k = 3
            · rw [if_pos (decide_eq_true h3)]
            · rw [if_neg (by simpa using h3), if_neg (fun h => hk ⟨h, h3⟩)]
          rw [hz]
          by_cases h56 : e.k = 5 ∨ e.k = 6
          · have hkf : keyB s = false := by
              cases hq : keyB s with
              | false => rfl
              | true => exact absurd ⟨hq, by omega⟩ hk
            rw [stepQ_open hm h56 hf hkf]
          · rw [stepQ_val hm h7 h56 hf hk]
/-- What is refused, of a part. -/
theorem refusesQ {w : World} {b o : Nat} {F : List Nat} {q : Kq} (h : QAt w b o F q) (hs : dpQ q.s ≤ 1000) (e : Ev) (hm : mayE e) :
    Calls Try.prog 24 #[.pointer (some ⟨b, o, none⟩), valE e] w fun r w' => r = .returned (.int .i64 ((stepQ q e).1.2 : Nat)) ∧ Below w.heap.size w w' :=
  qrefuses_gen h hs (valE e) (tidyE e) (plain_any e hm) _ _ _ (as_close e hm) (as_word e hm) _ (qstep_err_val hm)
end Go.Proofs.Ytockeedbceopiaa
/-
  CONTRACT of head.Put: the shortest head of a number.
-/
namespace Go.Proofs.Ytockeedbceopiaa
open Go.RowKit
open Go.Lib
open Go.Shelf in
def lays129_ren : Go.Shelf.Ren := ⟨fun | 129 => 65 | n => n, fun | 53 => 33 | 3 => 3 | 4 => 4 | 46 => 84 | 5 => 5 | 9 => 9 | n => n, fun | n => n⟩
theorem lays129 : Go.Proofs.Lays.n129 Try.prog lays129_ren := {
  mixed := by kernel_rfl
  f129 := Try.func65.trans (congrArg some (by kernel_rfl))
  t3 := Try.underlying3
  a3 := Try.isAgg3
  z3 := Try.sizeOf3
  v3 := Try.zeroValue3
  t4 := Try.underlying4
  a4 := Try.isAgg4
  z4 := Try.sizeOf4
  v4 := Try.zeroValue4
  t5 := Try.underlying5
  a5 := Try.isAgg5
  z5 := Try.sizeOf5
  v5 := Try.zeroValue5
  t9 := Try.underlying9
  a9 := Try.isAgg9
  z9 := Try.sizeOf9
  v9 := Try.zeroValue9
  t46 := Try.underlying84
  a46 := Try.isAgg84
  z46 := Try.sizeOf84
  v46 := Try.zeroValue84
  t53 := Try.underlying33
  a53 := Try.isAgg33
  z53 := Try.sizeOf33
  v53 := Try.zeroValue33 }
theorem len64_any (v : Nat) (hv : v < 18446744073709551616) (w : World) :
    Calls Try.prog 65 #[.int .u64 v] w fun e w' => e = .returned (.int .i64 (Lib.bitLen v)) ∧ w = w' := by
  have := Any.bits_Len64 lays129 (v : Int) w (by omega) (by omega)
  rw [Int.toNat_natCast] at this
  exact Calls.mono this fun e w' h => ⟨h.1, h.2.symm⟩
theorem bitLenAux_le : ∀ (f x k : Nat), x < 2 ^ f → (Lib.bitLenAux f x ≤ k ↔ x < 2 ^ k)
  | 0, x, k, h => by
    have : x = 0 := by omega
    subst this
    simp [Lib.bitLenAux, Nat.pow_pos]
  | f + 1, x, k, h => by
    by_cases h0 : x = 0
    · subst h0
      simp [Lib.bitLenAux, Nat.pow_pos]
    · cases k with
      | zero =>
        simp [Lib.bitLenAux, h0]
      | succ k =>
        have ih := bitLenAux_le f (x / 2) k (by rw [Nat.pow_succ] at h; omega)
        rw [Lib.bitLenAux, if_neg h0, Nat.pow_succ]
        omega
theorem bitLen_le (x k : Nat) (h : x < 18446744073709551616) : Lib.bitLen x ≤ k ↔ x < 2 ^ k := bitLenAux_le 64 x k h
theorem and7 (n : Int) : bits .and .i64 n 7 = ((n % 8).toNat : Int) := by
  have h127 : (BitVec.ofInt 64 7).toNat = 2 ^ 3 - 1 := by decide
  have key : (BitVec.ofInt 64 n &&& BitVec.ofInt 64 7).toNat = (n % ((2 ^ 64 : Nat) : Int)).toNat % 2 ^ 3 := by
    rw [BitVec.toNat_and, BitVec.toNat_ofInt, h127, Nat.and_two_pow_sub_one_eq_mod]
  show IntKind.i64.wrap ((BitVec.ofInt 64 n &&& BitVec.ofInt 64 7).toNat : Nat) = _
  rw [key, IntKind.wrap_i64]
  omega
theorem big_1 (f : Nat) (X : ByteArray) (h : X = ⟨(bigB 1 f).toArray⟩) (w : World) : Calls Try.prog 64 #[.int .u64 f, .int .i64 1] w fun e w' => e = .returned (.string X) ∧ Below w.heap.size w w' := by
  subst h
  exact big_any f 1 (by omega) (by omega) w
set_option maxHeartbeats 400000 in
theorem put_small (n : Int) (v : Nat) (hv : v < 24) (w : World) :
    Calls Try.prog 56 #[.int .i64 n, .int .u64 v] w fun e w' => e = .returned (.string ⟨(headB (n % 8).toNat v).toArray⟩) ∧ Below w.heap.size w w' := by
  have ha := and7 n
  obtain ⟨m, hm⟩ : ∃ m, (n % 8).toNat = m := ⟨_, rfl⟩
  have hm8 : m < 8 := by omega
  rw [hm] at ha ⊢
  have hw1 : IntKind.u64.wrap (m : Int) = (m : Int) := wrapI_u64 _ (by omega) (by omega)
  have hw2 : (m : Int) * 32 = ((m * 2 ^ 5 : Nat) : Int) := by omega
  have ho := or_u64 m v 5 (by omega) (by omega)
  rw [← hw2] at ho
  clear hw2
  have HB := Lib.hid (fun W => big_1 (m * 2 ^ 5 + v) _ rfl W)
  have e : headB m v = bigB 1 (m * 2 ^ 5 + v) := by
    rw [big_one]
    simp [headB, sizH, hv, bigB]
  rw [e]
  have hz : ((v : Int) < 24) = True := by simp only [eq_iff_iff, iff_true]; omega
  generalize (⟨(bigB 1 (m * 2 ^ 5 + v)).toArray⟩ : ByteArray) = X at *
  generalize m * 2 ^ 5 + v = f at *
  clear e hm hv
  go_enter Try.func56, Try.ntmps56
  go_wp2_with fail
  refine (HB.out _).mono ?_
  rintro e w1 ⟨rfl, b1⟩
  go_wp2
  go_ret
  exact ⟨rfl, b1⟩
set_option maxHeartbeats 1000000 in
theorem put_great (n : Int) (v K : Nat) (hv : v < 18446744073709551616) (h24 : 24 ≤ v) (hK : K = 0 ∧ v < 256 ∨ K = 1 ∧ 256 ≤ v ∧ v < 65536 ∨ K = 2 ∧ 65536 ≤ v ∧ v < 4294967296 ∨ K = 3 ∧ 4294967296 ≤ v) (w : World) :
    Calls Try.prog 56 #[.int .i64 n, .int .u64 v] w fun e w' => e = .returned (.string ⟨(headB (n % 8).toNat v).toArray⟩) ∧ Below w.heap.size w w' := by
  have ha := and7 n
  obtain ⟨m, hm⟩ : ∃ m, (n % 8).toNat = m := ⟨_, rfl⟩
  have hm8 : m < 8 := by omega
  rw [hm] at ha ⊢
  have hK3 : K ≤ 3 := by omega
  have hw1 : IntKind.u64.wrap (m : Int) = (m : Int) := wrapI_u64 _ (by omega) (by omega)
  have hw2 : (m : Int) * 32 = ((m * 2 ^ 5 : Nat) : Int) := by omega
  have ho := or_u64 m (24 + K) 5 (by omega) (by omega)
  rw [← hw2] at ho
  clear hw2
  have HL := Lib.hid (fun W => len64_any v hv W)
  have l8 := bitLen_le v 8 hv
  have l16 := bitLen_le v 16 hv
  have l32 := bitLen_le v 32 hv
  have l64 := bitLen_le v 64 hv
  have hB1 := Lib.hid (fun W => big_1 (m * 2 ^ 5 + (24 + K)) _ rfl W)
  have hP1 : 1 ≤ 2 ^ K := Nat.pow_pos (by decide)
  have hP8 : 2 ^ K ≤ 8 := by
    have := Nat.pow_le_pow_right (n := 2) (by decide) hK3
    omega
  have hB2 := Lib.hid (fun W => big_any v (2 ^ K) hP1 hP8 W)
  have e : (⟨(headB m v).toArray⟩ : ByteArray) = (⟨(bigB 1 (m * 2 ^ 5 + (24 + K))).toArray⟩ : ByteArray) ++ ⟨(bigB (2 ^ K) v).toArray⟩ := by
    rw [ba_append, big_one]
    simp [headB, sizH_k v K hv h24 hK]
  rw [e]
  have s1 : (⟨(bigB 1 (m * 2 ^ 5 + (24 + K))).toArray⟩ : ByteArray).size = 1 := by rw [ba_size, bigB_length]
  have s2 : (⟨(bigB (2 ^ K) v).toArray⟩ : ByteArray).size ≤ 8 := by rw [ba_size, bigB_length]; exact hP8
  generalize (⟨(bigB 1 (m * 2 ^ 5 + (24 + K))).toArray⟩ : ByteArray) = X at *
  generalize (⟨(bigB (2 ^ K) v).toArray⟩ : ByteArray) = Y at *
  generalize m * 2 ^ 5 + (24 + K) = f at *
  generalize Lib.bitLen v = L at *
  have hz : ((v : Int) < 24) = False := by simp only [eq_iff_iff, iff_false]; omega
  have hsum : (9223372036854775807 < X.size + Y.size) = False := by simp only [eq_iff_iff, iff_false]; omega
  clear e hm hP1
  go_enter Try.func56, Try.ntmps56
  go_wp2_with fail
  go_loopw [6, 7] (fun l q wr => ∃ k : Nat, k ≤ K ∧ l = .int .u64 ((24 + k : Nat) : Int) ∧ q = .int .i64 ((2 ^ k : Nat) : Int) ∧ w = wr) (fun l _ _ => 24 + K - (RowKit.intOf l).toNat)
  case atStart => exact ⟨0, Nat.zero_le _, rfl, rfl, rfl⟩
  case round =>
    obtain ⟨k, hk, rfl, rfl, rfl⟩ := hrel
    by_cases hlt : k < K
    · have hd : k = 0 ∨ k = 1 ∨ k = 2 := by omega
      rcases hd with rfl | rfl | rfl
      · have hgt : ((8 : Int) < (L : Int)) = True := by
          simp only [eq_iff_iff, iff_true]
          have : ¬ L ≤ 8 := by rw [l8]; simp; omega
          omega
        clear l8 l16 l32 l64 hB1 hB2
        go_wp2_with fail
        refine (HL.out _).mono ?_
        rintro e w1 ⟨rfl, rfl⟩
        go_wp2_with fail
        go_roundw
        case rel => exact ⟨1, hlt, rfl, rfl, by first | rfl | trivial⟩
        case measure => simp [RowKit.intOf]; omega
      · have hgt : ((16 : Int) < (L : Int)) = True := by
          simp only [eq_iff_iff, iff_true]
          have : ¬ L ≤ 16 := by rw [l16]; simp; omega
          omega
        clear l8 l16 l32 l64 hB1 hB2
        go_wp2_with fail
        refine (HL.out _).mono ?_
        rintro e w1 ⟨rfl, rfl⟩
        go_wp2_with fail
        go_roundw
        case rel => exact ⟨2, hlt, rfl, rfl, by first | rfl | trivial⟩
        case measure => simp [RowKit.intOf]; omega
      · have hgt : ((32 : Int) < (L : Int)) = True := by
          simp only [eq_iff_iff, iff_true]
          have : ¬ L ≤ 32 := by rw [l32]; simp; omega
          omega
        clear l8 l16 l32 l64 hB1 hB2
        go_wp2_with fail
        refine (HL.out _).mono ?_
        rintro e w1 ⟨rfl, rfl⟩
        go_wp2_with fail
        go_roundw
        case rel => exact ⟨3, hlt, rfl, rfl, by first | rfl | trivial⟩
        case measure => simp [RowKit.intOf]; omega
    · obtain rfl : k = K := by omega
      have hgt : (((2 ^ k : Nat) : Int) * 8 < (L : Int)) = False := by
        simp only [eq_iff_iff, iff_false]
        have h8 : L ≤ 8 * 2 ^ k := by
          rcases hK with ⟨rfl, h⟩ | ⟨rfl, h⟩ | ⟨rfl, h⟩ | ⟨rfl, h⟩
          · exact l8.2 (by omega)
          · exact l16.2 (by omega)
          · exact l32.2 (by omega)
          · exact l64.2 (by omega)
        omega
      have hmul : wrap64 (((2 ^ k : Nat) : Int) * 8) = ((2 ^ k : Nat) : Int) * 8 := by
        have hp8 : ((2 ^ k : Nat) : Int) ≤ 8 := by omega
        have hp0 : 0 ≤ ((2 ^ k : Nat) : Int) := Int.natCast_nonneg _
        unfold wrap64
        generalize ((2 ^ k : Nat) : Int) = P at *
        omega
      clear l8 l16 l32 l64 hK
      generalize 2 ^ k = P at *
      generalize 24 + k = low at *
      go_wp2_with fail
      refine (HL.out _).mono ?_
      rintro e w1 ⟨rfl, rfl⟩
      go_wp2_with fail
      refine (hB1.out _).mono ?_
      rintro e w2 ⟨rfl, b2⟩
      have B2 := Lib.hid b2
      clear b2
      go_wp2_with fail
      refine (hB2.out _).mono ?_
      rintro e w3 ⟨rfl, b3⟩
      have B3 := Lib.hid (B2.out.trans (b3.mono B2.out.size))
      clear b3
      go_wp2
      go_ret
      exact ⟨rfl, B3.out⟩
theorem hput_any (n : Int) (v : Nat) (hv : v < 18446744073709551616) (w : World) :
    Calls Try.prog 56 #[.int .i64 n, .int .u64 v] w fun e w' => e = .returned (.string ⟨(headB (n % 8).toNat v).toArray⟩) ∧ Below w.heap.size w w' := by
  by_cases h : v < 24
  · exact put_small n v h w
  · obtain ⟨K, hK⟩ := class_of v
    exact put_great n v K hv (by omega) hK w
end Go.Proofs.Ytockeedbceopiaa
/-
  CONTRACTS of package cborout, part D: the bytes of a part: boolOf, wholeOf, textOf, beginOf, valueOf, endOf.
-/
namespace Go.Proofs.Ytockeedbceopiaa
open Go.RowKit
open Go.Lib
theorem qbool_of (y : Bool) (w : World) : Calls Try.prog 57 #[.bool y] w fun r w' => r = .returned (.string ⟨#[if y = true then 245 else 244]⟩) ∧ w = w' := by
  cases y
  all_goals
    go_enter Try.func57, Try.ntmps57
    go_wp2
    go_ret
    exact ⟨rfl, rfl⟩
theorem qend_of (y : Bool) (w : World) : Calls Try.prog 55 #[.bool y] w fun r w' => r = .returned (.string ⟨(if y = true then [] else [(255 : UInt8)]).toArray⟩) ∧ w = w' := by
  cases y
  all_goals
    go_enter Try.func55, Try.ntmps55
    go_wp2
    go_ret
    exact ⟨rfl, rfl⟩
set_option maxRecDepth 100000 in
set_option maxHeartbeats 1000000 in
theorem qwhole_of (y : Bool) (m : Nat) (hm : m < 18446744073709551616) (w : World) : Calls Try.prog 58 #[.agg #[.bool y, .int .u64 m]] w fun r w' => r = .returned (.string ⟨(headB (if y = true then 1 else 0) m).toArray⟩) ∧ Below w.heap.size w w' := by
  cases y
  · have HP := Lib.hid (fun W => hput_any 0 m hm W)
    rw [show ((0 : Int) % 8).toNat = 0 from rfl] at HP
    simp only [Bool.false_eq_true, if_false]
    generalize (⟨(headB 0 m).toArray⟩ : ByteArray) = Z at *
    go_enter Try.func58, Try.ntmps58
    go_wp2_with fail
    refine (HP.out _).mono ?_
    rintro r w1 ⟨rfl, b1⟩
    have B1 := Lib.hid (up_trans (up_alloc (Below.refl _ _) _) b1)
    clear b1
    go_wp2
    go_ret
    exact ⟨rfl, B1.out⟩
  · have HP := Lib.hid (fun W => hput_any 1 m hm W)
    rw [show ((1 : Int) % 8).toNat = 1 from rfl] at HP
    simp only [if_true]
    generalize (⟨(headB 1 m).toArray⟩ : ByteArray) = Z at *
    go_enter Try.func58, Try.ntmps58
    go_wp2_with fail
    refine (HP.out _).mono ?_
    rintro r w1 ⟨rfl, b1⟩
    have B1 := Lib.hid (up_trans (up_alloc (Below.refl _ _) _) b1)
    clear b1
    go_wp2
    go_ret
    exact ⟨rfl, B1.out⟩
set_option maxRecDepth 100000 in
set_option maxHeartbeats 1000000 in
theorem qtext_of (j : Nat) (hj : j < 8) (t : ByteArray) (ht : t.size ≤ 100000) (w : World) : Calls Try.prog 59 #[.int .i64 (j : Int), .string t] w fun r w' => r = .returned (.string ⟨(headB j t.data.toList.length ++ t.data.toList).toArray⟩) ∧ Below w.heap.size w w' := by
  have hl : t.data.toList.length = t.size := Array.length_toList
  have HP := Lib.hid (fun W => hput_any j t.size (by omega) W)
  rw [show ((j : Int) % 8).toNat = j by omega] at HP
  have hz := headB_len j t.size
  have hcat : (⟨(headB j t.data.toList.length ++ t.data.toList).toArray⟩ : ByteArray) = ⟨(headB j t.size).toArray⟩ ++ t := by
    rw [hl, ← cat_of]
  have hsz : (⟨(headB j t.size).toArray⟩ : ByteArray).size ≤ 9 := by rw [size_of]; exact hz
  rw [hcat]
  generalize (⟨(headB j t.size).toArray⟩ : ByteArray) = Z at *
  have z1 : ¬ 9223372036854775807 < Z.size + t.size := by omega
  have hw : IntKind.u64.wrap (t.size : Int) = (t.size : Int) := by simp only [IntKind.wrap_u64]; omega
  clear hl hz hcat hsz
  go_enter Try.func59, Try.ntmps59
  go_wp2_with fail
  refine (HP.out _).mono ?_
  rintro r w1 ⟨rfl, b1⟩
  have B1 := Lib.hid b1
  clear b1
  go_wp2
  go_ret
  exact ⟨rfl, B1.out⟩
/-- A container's begin, as bytes. -/
def begB (m : Bool) (c : Int) : List UInt8 := if c < 0 then [if m = true then 191 else 159] else headB (if m = true then 5 else 4) c.toNat
set_option maxRecDepth 100000 in
set_option maxHeartbeats 1000000 in
theorem qbegin_of (m : Bool) (c : Int) (hc : -1 ≤ c ∧ c ≤ 9223372036854775807) (w : World) : Calls Try.prog 43 #[.agg #[.bool m, .int .i64 c]] w fun r w' => r = .returned (.string ⟨(begB m c).toArray⟩) ∧ Below w.heap.size w w' := by
  by_cases hn : c = -1
  · subst hn
    cases m
    all_goals
      unfold begB
      rw [if_pos (by omega)]
      go_enter Try.func43, Try.ntmps43
      go_wp2
      go_ret
      exact ⟨rfl, up_alloc (Below.refl _ _) _⟩
  · obtain ⟨n, rfl⟩ : ∃ n : Nat, c = n := ⟨c.toNat, by omega⟩
    have hz : ((n : Int) == -1) = false := by rw [beq_eq_false_iff_ne]; exact hn
    have hw : IntKind.u64.wrap (n : Int) = (n : Int) := by simp only [IntKind.wrap_u64]; omega
    unfold begB
    rw [if_neg (by omega), Int.toNat_natCast]
    cases m
    · have HP := Lib.hid (fun W => hput_any 4 n (by omega) W)
      rw [show ((4 : Int) % 8).toNat = 4 from rfl] at HP
      simp only [Bool.false_eq_true, if_false]
      generalize (⟨(headB 4 n).toArray⟩ : ByteArray) = Z at *
      clear hn
      go_enter Try.func43, Try.ntmps43
      go_wp2_with fail
      refine (HP.out _).mono ?_
      rintro r w1 ⟨rfl, b1⟩
      have B1 := Lib.hid (up_trans (up_alloc (Below.refl _ _) _) b1)
      clear b1
      go_wp2
      go_ret
      exact ⟨rfl, B1.out⟩
    · have HP := Lib.hid (fun W => hput_any 5 n (by omega) W)
      rw [show ((5 : Int) % 8).toNat = 5 from rfl] at HP
      simp only [if_true]
      generalize (⟨(headB 5 n).toArray⟩ : ByteArray) = Z at *
      clear hn
      go_enter Try.func43, Try.ntmps43
      go_wp2_with fail
      refine (HP.out _).mono ?_
      rintro r w1 ⟨rfl, b1⟩
      have B1 := Lib.hid (up_trans (up_alloc (Below.refl _ _) _) b1)
      clear b1
      go_wp2
      go_ret
      exact ⟨rfl, B1.out⟩
set_option maxRecDepth 100000 in
set_option maxHeartbeats 4000000 in
/-- The bytes of a part that is no container, nor an end. -/
theorem qvalue_of (e : Ev) (hk : e.k = 0 ∨ e.k = 1 ∨ e.k = 2 ∨ e.k = 3 ∨ e.k = 4) (hm : e.m < 18446744073709551616) (ht : e.t.size ≤ 1000) (w : World) :
    Calls Try.prog 44 #[valE e] w fun r w' => r = .returned (.string ⟨(writeK [] e).toArray⟩) ∧ Below w.heap.size w w' := by
  have a1 := is_bool
  have a2 := is_whole
  have a3 := is_word
  have a4 := is_blob
  have b1 := fun d h => not_bool d h
  have b2 := fun d h => not_whole d h
  have b3 := fun d h => not_word d h
  have b4 := fun d h => not_blob d h
  have hB := Lib.hid (Below.refl w.heap.size w)
  obtain ⟨k, y, m, t, c⟩ := e
  simp only at hk hm ht
  rcases hk with rfl | rfl | rfl | rfl | rfl
  · have ho : writeK [] ⟨0, y, m, t, c⟩ = [246] := by simp [writeK]
    rw [ho]
    have p1 : ∀ W, (Instr.typeAssert .nilIface 20 4 true).run Try.prog W = .ok (.tuple #[.bool false, .bool false]) W := fun W => by kernel_rfl
    have p2 : ∀ W, (Instr.typeAssert .nilIface 20 54 true).run Try.prog W = .ok (.tuple #[.agg #[.bool false, .int .u64 0], .bool false]) W := fun W => by kernel_rfl
    have p3 : ∀ W, (Instr.typeAssert .nilIface 20 59 true).run Try.prog W = .ok (.tuple #[.string ⟨#[]⟩, .bool false]) W := fun W => by kernel_rfl
    have p4 : ∀ W, (Instr.typeAssert .nilIface 20 64 true).run Try.prog W = .ok (.tuple #[.string ⟨#[]⟩, .bool false]) W := fun W => by kernel_rfl
    clear ho hm ht
    simp only [valE]
    go_enter Try.func44, Try.ntmps44
    go_wp2
    go_ret
    exact ⟨rfl, by repeat (first | exact Below.refl _ _ | refine up_alloc ?_ _)⟩
  · have ho : writeK [] ⟨1, y, m, t, c⟩ = [if y = true then 245 else 244] := by simp [writeK]
    rw [ho]
    have HQ := Lib.hid (fun W => qbool_of y W)
    have hZ : (⟨[if y = true then (245 : UInt8) else 244].toArray⟩ : ByteArray) = ⟨#[if y = true then 245 else 244]⟩ := rfl
    rw [hZ]
    clear ho hm ht hZ
    generalize (⟨#[if y = true then (245 : UInt8) else 244]⟩ : ByteArray) = Z at *
    simp only [valE]
    go_enter Try.func44, Try.ntmps44
    go_wp2_with fail
    refine (HQ.out _).mono ?_
    rintro r w1 ⟨rfl, rfl⟩
    go_wp2
    go_ret
    exact ⟨rfl, hB.out⟩
  · have ho : writeK [] ⟨2, y, m, t, c⟩ = headB (if y = true then 1 else 0) m := by simp [writeK]
    rw [ho]
    have HP := Lib.hid (fun W => qwhole_of y m hm W)
    generalize (⟨(headB (if y = true then 1 else 0) m).toArray⟩ : ByteArray) = Z at *
    clear ho ht
    simp only [valE]
    go_enter Try.func44, Try.ntmps44
    go_wp2_with fail
    refine (HP.out _).mono ?_
    rintro r w1 ⟨rfl, hb⟩
    have HB1 := Lib.hid (up_trans (up_alloc hB.out _) hb)
    clear hb
    go_wp2
    go_ret
    exact ⟨rfl, HB1.out⟩
  · have ho : writeK [] ⟨3, y, m, t, c⟩ = headB 3 t.data.toList.length ++ t.data.toList := by simp [writeK]
    rw [ho]
    have HP := Lib.hid (fun W => qtext_of 3 (by omega) t (by omega) W)
    generalize (⟨(headB 3 t.data.toList.length ++ t.data.toList).toArray⟩ : ByteArray) = Z at *
    clear ho hm
    simp only [valE]
    go_enter Try.func44, Try.ntmps44
    go_wp2_with fail
    refine (HP.out _).mono ?_
    rintro r w1 ⟨rfl, hb⟩
    have HB1 := Lib.hid (up_trans (up_alloc hB.out _) hb)
    clear hb
    go_wp2
    go_ret
    exact ⟨rfl, HB1.out⟩
  · have ho : writeK [] ⟨4, y, m, t, c⟩ = headB 2 t.data.toList.length ++ t.data.toList := by simp [writeK]
    rw [ho]
    have HP := Lib.hid (fun W => qtext_of 2 (by omega) t (by omega) W)
    generalize (⟨(headB 2 t.data.toList.length ++ t.data.toList).toArray⟩ : ByteArray) = Z at *
    clear ho hm
    simp only [valE]
    go_enter Try.func44, Try.ntmps44
    go_wp2_with fail
    refine (HP.out _).mono ?_
    rintro r w1 ⟨rfl, hb⟩
    have HB1 := Lib.hid (up_trans (up_alloc hB.out _) hb)
    clear hb
    go_wp2
    go_ret
    exact ⟨rfl, HB1.out⟩
end Go.Proofs.Ytockeedbceopiaa
/-
  CONTRACT of the document's own Writer, for CBOR: a value.
-/
namespace Go.Proofs.Ytockeedbceopiaa
open Go.RowKit
open Go.Lib
set_option maxRecDepth 100000 in
set_option maxHeartbeats 4000000 in
theorem wk_val0 {M B b : Nat} {w : World} (h : WkAt M B w b [] false) (e : Ev) (hk : e.k = 0 ∨ e.k = 1 ∨ e.k = 2 ∨ e.k = 3 ∨ e.k = 4) (X : ByteArray) (hX : X.size ≤ 100000)
    (hP : ∀ W, Calls Try.prog 27 #[.int .i64 2, evV e] W fun r w' => r = .returned (.tuple #[.string X, .int .i64 0]) ∧ Below W.heap.size W w') :
    Calls Try.prog 13 #[.pointer (some ⟨b, 0, none⟩), evV e] w fun q w' => q = .returned (.tuple #[.string X, .int .i64 0]) ∧ WkAt M B w' b [] true ∧ Bew B b w w' := by
  obtain ⟨a, cp, hA, hS⟩ := h.cells
  have hBw : B ≤ w.heap.size := h.low
  have HM : Hid (∀ X, Calls Try.prog 16 #[evV e] (w.alloc X) fun r w' => r = .returned (.bool true) ∧ Below (w.alloc X).heap.size (w.alloc X) w') := Lib.hid fun X => by
    have := may_any e (w.alloc X)
    rwa [decide_eq_true (show mayE e from ⟨by omega, by omega, by omega⟩)] at this
  have HP := Lib.hid hP
  obtain ⟨k, y, m, t, c⟩ := e
  simp only [evV] at HM HP hk ⊢
  have n7 : (k == 7) = false := by rw [beq_eq_false_iff_ne]; omega
  have n5 : (k == 5) = false := by rw [beq_eq_false_iff_ne]; omega
  have n6 : (k == 6) = false := by rw [beq_eq_false_iff_ne]; omega
  have HH := Lib.hid h
  have HS := Lib.hid hS
  have HA := Lib.hid hA
  have hA0 := (hA.alloc (by simp) (.cells #[.int .i64 k, .bool y, .int .u64 m, .string t, .int .i64 c] 35))
  obtain ⟨⟨k0, _⟩, ⟨k1, _⟩, ⟨k2, _⟩⟩ := at_three hA0
  simp only [List.length_nil] at k1 HA HS
  clear h hA hS hA0 hP hk
  go_enter Try.func13, Try.ntmps13
  go_wp2_with fail
  refine (HM.out _).mono ?_
  rintro e w1 ⟨rfl, hb1⟩
  have E1 := Lib.hid ((blk_new w _ _).go hb1)
  obtain ⟨⟨e0, e1, e2, e3, e4⟩, ef⟩ := E1.out.ev
  have hbw1 := up_trans (up_alloc (Below.refl w.heap.size w) (.cells #[.int .i64 k, .bool y, .int .u64 m, .string t, .int .i64 c] 35)) hb1
  have A1 := Lib.hid (HA.out.keep (hbw1.block b HH.out.lt))
  have HB1 := Lib.hid hbw1
  clear hb1 ef k0 k1 k2 hbw1
  obtain ⟨⟨k0, q0⟩, ⟨k1, q1⟩, ⟨k2, q2⟩⟩ := at_three A1.out
  go_wp2
  go_region_with (go_at_call 27; refine (HP.out _).mono ?_; rintro r w2 ⟨rfl, hb2⟩)
  all_goals
    have hW1 := HH.out.go HB1.out
    have hb2' : Below w1.heap.size w1 w2 := ⟨hb2.os, hb2.tape, hb2.output, hb2.size, hb2.block⟩
    have A2 := A1.out.keep (hb2'.block b hW1.lt)
    have HW2 := Lib.hid (hW1.go hb2')
    have HBB := Lib.hid (up_trans HB1.out hb2')
    have HA2 := Lib.hid A2
    obtain ⟨⟨p0, r0⟩, ⟨p1, r1⟩, ⟨p2, r2⟩⟩ := at_three A2
    have hcat : (⟨#[]⟩ : ByteArray) ++ X = X := by apply ByteArray.ext; simp
    have HC := Lib.hid hcat
    have hE2 : w2.cell? ⟨w.heap.size, 0, none⟩ = some (.int .i64 k) := (World.cell?_of_block (w := w1) (a := ⟨w.heap.size, 0, none⟩) (hb2'.block _ E1.out.lt)).trans e0
    have hne : w.heap.size ≠ b := by have := HH.out.lt; omega
    have hE3 : (w2.setCell ⟨b, 2, none⟩ (.bool true)).cell? ⟨w.heap.size, 0, none⟩ = some (.int .i64 k) := by
      rw [World.cell?_setCell_other _ _ _ _ (fun e => hne (congrArg Addr.block e).symm)]
      exact hE2
    clear A2 hb2 hb2' hW1 hcat e0 e1 e2 e3 e4 k0 k1 k2 q0 q1 q2 hE2
    go_wp2
    go_ret2
    refine ⟨by rw [HC.out]; rfl, (HW2.out.fin true).1, ?_⟩
    exact (HBB.out.mono hBw).bew.trans (HW2.out.fin true).2
/-- Behind 'Open = append(nil, Open...)', stored; then one part more in the last. -/
theorem wk_inc {M B b : Nat} {V w3 : World} {bx : Bx} {r : List Bx} {v3 : Value} {n' : Nat} (hn' : r.length = n') (h : WkAt M B V b (bx :: r) false) (hM : M + 1 ≤ 1000) (hW3 : Win w3 69 3 v3 (n' + 1) (bxsL (bx :: r))) (hG3 : V.grownBy w3 (Value.slice none 0 0).ownBlock)
    (hO3 : v3.ownBlock = (Value.slice none 0 0).ownBlock ∨ v3.ownBlock = some V.heap.size ∧ V.heap.size < w3.heap.size) :
    ∃ g3 off3 c3, v3 = .slice (some ⟨g3, off3, none⟩) (n' + 1) c3 ∧ (w3.cell? ⟨b, 0, none⟩ = some (.int .i64 2) ∧ (∃ u, w3.cell? ⟨b, 1, none⟩ = some u ∧ w3.frozen? ⟨b, 1, none⟩ = false) ∧ w3.cell? ⟨b, 2, none⟩ = some (.bool false)) ∧ g3 ≠ b ∧
      (w3.cell? ⟨g3, off3 + n' * 3 + 2, none⟩ = some (.int .i64 (bx.have_ : Int)) ∧ w3.frozen? ⟨g3, off3 + n' * 3 + 2, none⟩ = false) ∧
      WkAt (M + 1) B ((w3.setCell ⟨b, 1, none⟩ v3).setCell ⟨g3, off3 + n' * 3 + 2, none⟩ (.int .i64 ((bx.have_ : Int) + 1))) b (incB (bx :: r)) false ∧
      Bew B b V ((w3.setCell ⟨b, 1, none⟩ v3).setCell ⟨g3, off3 + n' * 3 + 2, none⟩ (.int .i64 ((bx.have_ : Int) + 1))) := by
  subst hn'
  have hBV : B ≤ V.heap.size := h.low
  obtain ⟨a, cp, hA, hS⟩ := h.cells
  obtain ⟨cs, hcs⟩ := h.blk
  obtain ⟨hK, hKB⟩ := stk_new (M := M) (B := B) (s := bx :: r) hBV (by simp [Value.owner]) rfl rfl hW3 hG3 hO3 hS.ok hS.deep hS.most
  have hblk : w3.heap[b]? = V.heap[b]? := hG3.block b h.lt (by simp [Value.ownBlock])
  have A3 := hA.keep hblk
  have hw3 : w3.heap[b]? = some (.cells cs 32 (0, 0)) := hblk.trans hcs
  obtain ⟨g3, off3, N, c3, rfl, hN, _, ⟨_, _, z2⟩, ⟨_, _, f2⟩⟩ := hK.last
  subst hN
  have hap : b ∉ Value.owner (.slice (some ⟨g3, off3, none⟩) (r.length + 1) c3) := hK.win.apart (t := 32) hw3 (by decide)
  have hgb : g3 ≠ b := fun e => hap (by simp [Value.owner, e])
  obtain ⟨⟨p0, _⟩, ⟨p1, p1'⟩, ⟨p2, _⟩⟩ := at_three A3
  have K4 : Stk M B (w3.setCell ⟨b, 1, none⟩ (.slice (some ⟨g3, off3, none⟩) (r.length + 1) c3)) (bx :: r) (.slice (some ⟨g3, off3, none⟩) (r.length + 1) c3) := ⟨hK.win.setCell_far hap _, hK.vB, hK.ok, hK.deep, hK.most⟩
  obtain ⟨K5, hg5⟩ := K4.inc hM rfl
  have A4 := A3.set 1 (by simp) (.slice (some ⟨g3, off3, none⟩) (r.length + 1) c3)
  have hw4 := heap_setCell_at w3 ⟨b, 1, none⟩ (.slice (some ⟨g3, off3, none⟩) (r.length + 1) c3) _ _ _ rfl hw3
  have hw5 : ((w3.setCell ⟨b, 1, none⟩ (.slice (some ⟨g3, off3, none⟩) (r.length + 1) c3)).setCell ⟨g3, off3 + r.length * 3 + 2, none⟩ (.int .i64 ((bx.have_ : Int) + 1))).heap[b]? = (w3.setCell ⟨b, 1, none⟩ (.slice (some ⟨g3, off3, none⟩) (r.length + 1) c3)).heap[b]? := Below.heap_setCell _ _ _ b (fun e => hgb e.symm)
  refine ⟨g3, off3, c3, rfl, ⟨p0, ⟨_, p1, p1'⟩, p2⟩, hgb, ⟨z2, f2⟩, ⟨⟨some ⟨g3, off3, none⟩, c3, ?_, ?_⟩, ⟨_, hw5.trans hw4⟩, by
    have := hKB.size
    simp only [World.setCell, Array.size_modify]
    omega⟩, ?_⟩
  · have : (incB (bx :: r)).length = r.length + 1 := rfl
    rw [this]
    exact At.keep (w := w3.setCell ⟨b, 1, none⟩ (.slice (some ⟨g3, off3, none⟩) (r.length + 1) c3)) (by simpa using A4) hw5
  · exact K5.zero
  · exact (hKB.bew.set _ _).setFar hg5 _
end Go.Proofs.Ytockeedbceopiaa
/-
  CONTRACTS of the book's documents out of numbers: an item that would hold others, at the depth asked.
-/
namespace Go.Proofs.Ytockeedbceopiaa
open Go.RowKit
open Go.Lib
set_option maxHeartbeats 2000000 in
theorem low5 {D n cp at_ m bl bd bo ba bn bi : Nat} (d : Nat) {A : Option Addr} {L : Nat → Int} {W w : World} {v : Value} {out : List Ev} (h : DS W A n cp L D bl bd bo ba bn bi w v m out at_) (h1 : at_ ≤ 900000000) (h2 : n ≤ 900000000) (h3 : m ≤ 900000000) (hx : nxD n L at_ % 8 = 5) (hd : D ≤ d) :
    Calls Try.prog 33 #[.int .i64 d, .pointer (some ⟨bn, 0, none⟩), .pointer (some ⟨bo, 0, none⟩), .pointer (some ⟨bd, 0, none⟩), .pointer (some ⟨bi, 0, none⟩)] w fun r w' => ∃ v', r = .returned (.tuple #[]) ∧ DS W A n cp L D bl bd bo ba bn bi w' v' (m + 1) (out ++ [lowD (nxD n L at_)]) (at_ + 1) := by
  have hX := nxD_lt n L at_
  have x0 : w.cell? ⟨bn, 0, none⟩ = some (.func (.func 32) #[] #[.pointer (some ⟨ba, 0, none⟩), .pointer (some ⟨bl, 0, none⟩)]) := h.x.cell 0
  have HC := Lib.hid (next_ds h h1 h2)
  clear h
  generalize nxD n L at_ = x at hx hX HC
  have hpd : lowD x = ⟨3, false, 0, ⟨#[]⟩, 0⟩ := by unfold lowD; rw [if_pos hx]
  rw [hpd]
  clear hpd
  go_enter Try.func33, Try.ntmps33
  go_wp2_with (first
    | (go_at_call 32; refine HC.out.mono ?_; rintro e w1 ⟨rfl, HN⟩; have x1 := HN.o.cell 0; have x2 := HN.o.froz 0; have x3 := HN.d.cell 0; have HN := Lib.hid HN)
    | (at_builtin; go_loud (refine wpList_append_win rfl _ _ _ rfl Try.underlying22 info_ev rfl rfl (HN.out.made.2.1.alloc _) _ rfl 1 _ (src_new _ Try.underlying22 5 1 (evsC [⟨3, false, 0, ⟨#[]⟩, 0⟩]) 35 _ rfl (evsC_one _) (heap_alloc_new _ _)) ?e1 ?e2 ?_)))
  case e1 => unfold maxLen; omega
  case e2 => omega
  intro v3 w3 hW3 hG3 hO3
  have hD := HN.out.put ⟨3, false, 0, ⟨#[]⟩, 0⟩ (up_alloc (Below.refl _ _) _) hW3.out hG3.out (by simpa using hO3.out)
  have hH := HN.out.held (up_alloc (Below.refl _ _) _) hG3.out
  have y1 := hH.cell 0
  have y2 := hH.froz 0
  obtain ⟨a3, c3, rfl, _, _⟩ := hD.made.2.1.slice_form
  have hD := Lib.hid hD
  clear hW3 hG3 hO3 hH x1 x2 x0 x3
  go_wp2
  refine bodyPost_ret (results_none rfl _ _ _) rfl ?_
  exact ⟨_, rfl, hD.out⟩
set_option maxHeartbeats 2000000 in
theorem low6 {D n cp at_ m bl bd bo ba bn bi : Nat} (d : Nat) {A : Option Addr} {L : Nat → Int} {W w : World} {v : Value} {out : List Ev} (h : DS W A n cp L D bl bd bo ba bn bi w v m out at_) (h1 : at_ ≤ 900000000) (h2 : n ≤ 900000000) (h3 : m ≤ 900000000) (hx : nxD n L at_ % 8 = 6) (hd : D ≤ d) :
    Calls Try.prog 33 #[.int .i64 d, .pointer (some ⟨bn, 0, none⟩), .pointer (some ⟨bo, 0, none⟩), .pointer (some ⟨bd, 0, none⟩), .pointer (some ⟨bi, 0, none⟩)] w fun r w' => ∃ v', r = .returned (.tuple #[]) ∧ DS W A n cp L D bl bd bo ba bn bi w' v' (m + 1) (out ++ [lowD (nxD n L at_)]) (at_ + 1) := by
  have hX := nxD_lt n L at_
  have x0 : w.cell? ⟨bn, 0, none⟩ = some (.func (.func 32) #[] #[.pointer (some ⟨ba, 0, none⟩), .pointer (some ⟨bl, 0, none⟩)]) := h.x.cell 0
  have HC := Lib.hid (next_ds h h1 h2)
  clear h
  generalize nxD n L at_ = x at hx hX HC
  have hpd : lowD x = ⟨2, false, x, ⟨#[]⟩, 0⟩ := by unfold lowD; rw [if_neg (by omega)]
  rw [hpd]
  clear hpd
  have hU : IntKind.u64.wrap (x : Int) = x := by rw [IntKind.wrap_u64]; omega
  go_enter Try.func33, Try.ntmps33
  go_wp2_with (first
    | (go_at_call 32; refine HC.out.mono ?_; rintro e w1 ⟨rfl, HN⟩; have x1 := HN.o.cell 0; have x2 := HN.o.froz 0; have x3 := HN.d.cell 0; have HN := Lib.hid HN)
    | (at_builtin; go_loud (refine wpList_append_win rfl _ _ _ rfl Try.underlying22 info_ev rfl rfl (HN.out.made.2.1.alloc _) _ rfl 1 _ (src_new _ Try.underlying22 5 1 (evsC [⟨2, false, x, ⟨#[]⟩, 0⟩]) 35 _ rfl (evsC_one _) (heap_alloc_new _ _)) ?e1 ?e2 ?_)))
  case e1 => unfold maxLen; omega
  case e2 => omega
  intro v3 w3 hW3 hG3 hO3
  have hD := HN.out.put ⟨2, false, x, ⟨#[]⟩, 0⟩ (up_alloc (Below.refl _ _) _) hW3.out hG3.out (by simpa using hO3.out)
  have hH := HN.out.held (up_alloc (Below.refl _ _) _) hG3.out
  have y1 := hH.cell 0
  have y2 := hH.froz 0
  obtain ⟨a3, c3, rfl, _, _⟩ := hD.made.2.1.slice_form
  have hD := Lib.hid hD
  clear hW3 hG3 hO3 hH x1 x2 x0 x3
  go_wp2
  refine bodyPost_ret (results_none rfl _ _ _) rfl ?_
  exact ⟨_, rfl, hD.out⟩
set_option maxHeartbeats 2000000 in
theorem low7 {D n cp at_ m bl bd bo ba bn bi : Nat} (d : Nat) {A : Option Addr} {L : Nat → Int} {W w : World} {v : Value} {out : List Ev} (h : DS W A n cp L D bl bd bo ba bn bi w v m out at_) (h1 : at_ ≤ 900000000) (h2 : n ≤ 900000000) (h3 : m ≤ 900000000) (hx : nxD n L at_ % 8 = 7) (hd : D ≤ d) :
    Calls Try.prog 33 #[.int .i64 d, .pointer (some ⟨bn, 0, none⟩), .pointer (some ⟨bo, 0, none⟩), .pointer (some ⟨bd, 0, none⟩), .pointer (some ⟨bi, 0, none⟩)] w fun r w' => ∃ v', r = .returned (.tuple #[]) ∧ DS W A n cp L D bl bd bo ba bn bi w' v' (m + 1) (out ++ [lowD (nxD n L at_)]) (at_ + 1) := by
  have hX := nxD_lt n L at_
  have x0 : w.cell? ⟨bn, 0, none⟩ = some (.func (.func 32) #[] #[.pointer (some ⟨ba, 0, none⟩), .pointer (some ⟨bl, 0, none⟩)]) := h.x.cell 0
  have HC := Lib.hid (next_ds h h1 h2)
  clear h
  generalize nxD n L at_ = x at hx hX HC
  have hpd : lowD x = ⟨2, false, x, ⟨#[]⟩, 0⟩ := by unfold lowD; rw [if_neg (by omega)]
  rw [hpd]
  clear hpd
  have hU : IntKind.u64.wrap (x : Int) = x := by rw [IntKind.wrap_u64]; omega
  go_enter Try.func33, Try.ntmps33
  go_wp2_with (first
    | (go_at_call 32; refine HC.out.mono ?_; rintro e w1 ⟨rfl, HN⟩; have x1 := HN.o.cell 0; have x2 := HN.o.froz 0; have x3 := HN.d.cell 0; have HN := Lib.hid HN)
    | (at_builtin; go_loud (refine wpList_append_win rfl _ _ _ rfl Try.underlying22 info_ev rfl rfl (HN.out.made.2.1.alloc _) _ rfl 1 _ (src_new _ Try.underlying22 5 1 (evsC [⟨2, false, x, ⟨#[]⟩, 0⟩]) 35 _ rfl (evsC_one _) (heap_alloc_new _ _)) ?e1 ?e2 ?_)))
  case e1 => unfold maxLen; omega
  case e2 => omega
  intro v3 w3 hW3 hG3 hO3
  have hD := HN.out.put ⟨2, false, x, ⟨#[]⟩, 0⟩ (up_alloc (Below.refl _ _) _) hW3.out hG3.out (by simpa using hO3.out)
  have hH := HN.out.held (up_alloc (Below.refl _ _) _) hG3.out
  have y1 := hH.cell 0
  have y2 := hH.froz 0
  obtain ⟨a3, c3, rfl, _, _⟩ := hD.made.2.1.slice_form
  have hD := Lib.hid hD
  clear hW3 hG3 hO3 hH x1 x2 x0 x3
  go_wp2
  refine bodyPost_ret (results_none rfl _ _ _) rfl ?_
  exact ⟨_, rfl, hD.out⟩
end Go.Proofs.Ytockeedbceopiaa
/-
  CONTRACTS of the book's documents out of numbers: an array, and the items in it.
-/
namespace Go.Proofs.Ytockeedbceopiaa
open Go.RowKit
open Go.Lib
theorem list_cap (it : Nat → List Ev × Nat) (C : Nat) (h : ∀ a, (it a).1.length ≤ C ∧ (it a).2 ≤ a + C) : ∀ k a, (listD it k a).1.length ≤ k * C ∧ (listD it k a).2 ≤ a + k * C
  | 0, a => by simp [listD]
  | k + 1, a => by
    have h1 := h a
    have h2 := list_cap it C h k (it a).2
    rw [Nat.succ_mul]
    simp only [listD, List.length_append]
    omega
theorem map_cap (n : Nat) (L : Nat → Int) (it : Nat → List Ev × Nat) (C : Nat) (h : ∀ a, (it a).1.length ≤ C ∧ (it a).2 ≤ a + C) : ∀ k a, (mapD n L it k a).1.length ≤ k * (C + 1) ∧ (mapD n L it k a).2 ≤ a + k * (C + 1)
  | 0, a => by simp [mapD]
  | k + 1, a => by
    have h1 := h (a + 1)
    have h2 := map_cap n L it C h k (it (a + 1)).2
    rw [Nat.succ_mul]
    simp only [mapD, List.length_cons, List.length_append]
    omega
theorem item_cap (n : Nat) (L : Nat → Int) : ∀ f a, (itemD n L f a).1.length ≤ capD f ∧ (itemD n L f a).2 ≤ a + capD f
  | 0, a => by
    simp only [itemD, capD]
    split <;> simp
  | f + 1, a => by
    have h1 := list_cap (itemD n L f) (capD f) (item_cap n L f) (nxD n L a / 8 % 4) (a + 1)
    have h2 := map_cap n L (itemD n L f) (capD f) (item_cap n L f) (nxD n L a / 8 % 3) (a + 1)
    have h3 : nxD n L a / 8 % 4 * capD f ≤ 3 * capD f := Nat.mul_le_mul_right _ (by omega)
    have h4 : nxD n L a / 8 % 3 * (capD f + 1) ≤ 2 * (capD f + 1) := Nat.mul_le_mul_right _ (by omega)
    simp only [itemD, capD]
    split
    · exact ⟨by simp, by simp⟩
    · split
      · simp only [List.length_append, List.length_cons, List.length_nil]
        omega
      · simp only [List.length_append, List.length_cons, List.length_nil]
        omega
/-- What an item does, at one depth. -/
def ItemOk (W : World) (A : Option Addr) (n cp : Nat) (L : Nat → Int) (D bl bd bo ba bn bi d f : Nat) : Prop :=
  ∀ (m a : Nat) (w : World) (v : Value) (out : List Ev), DS W A n cp L D bl bd bo ba bn bi w v m out a → a + capD f ≤ 900000000 → m + capD f ≤ 900000000 →
    Calls Try.prog 33 #[.int .i64 ((d : Nat) : Int), .pointer (some ⟨bn, 0, none⟩), .pointer (some ⟨bo, 0, none⟩), .pointer (some ⟨bd, 0, none⟩), .pointer (some ⟨bi, 0, none⟩)] w fun r w' => ∃ v', r = .returned (.tuple #[]) ∧ DS W A n cp L D bl bd bo ba bn bi w' v' (m + (itemD n L f a).1.length) (out ++ (itemD n L f a).1) (itemD n L f a).2
set_option maxHeartbeats 2000000 in
theorem item_arr {D n cp at_ m bl bd bo ba bn bi d f : Nat} {A : Option Addr} {L : Nat → Int} {W w : World} {v : Value} {out : List Ev} (h : DS W A n cp L D bl bd bo ba bn bi w v m out at_) (h1 : at_ + capD (f + 1) ≤ 900000000) (h2 : n ≤ 900000000) (h3 : m + capD (f + 1) ≤ 900000000) (hx : nxD n L at_ % 8 = 5) (hd : d + (f + 1) = D) (hD : D ≤ 1000)
    (hI : ItemOk W A n cp L D bl bd bo ba bn bi (d + 1) f) :
    Calls Try.prog 33 #[.int .i64 ((d : Nat) : Int), .pointer (some ⟨bn, 0, none⟩), .pointer (some ⟨bo, 0, none⟩), .pointer (some ⟨bd, 0, none⟩), .pointer (some ⟨bi, 0, none⟩)] w fun r w' => ∃ v', r = .returned (.tuple #[]) ∧ DS W A n cp L D bl bd bo ba bn bi w' v' (m + (itemD n L (f + 1) at_).1.length) (out ++ (itemD n L (f + 1) at_).1) (itemD n L (f + 1) at_).2 := by
  have hX := nxD_lt n L at_
  have x0 : w.cell? ⟨bn, 0, none⟩ = some (.func (.func 32) #[] #[.pointer (some ⟨ba, 0, none⟩), .pointer (some ⟨bl, 0, none⟩)]) := h.x.cell 0
  have hcap := item_cap n L f
  have hC : capD (f + 1) = 3 * capD f + 5 := rfl
  rw [hC] at h1 h3
  clear hC
  have HC := Lib.hid (next_ds h (by omega) h2)
  clear h
  simp only [itemD]
  rw [if_neg (by omega), if_pos hx]
  generalize nxD n L at_ = x at hx hX HC ⊢
  obtain ⟨q, hq⟩ : ∃ q, x / 8 % 4 = q := ⟨_, rfl⟩
  rw [hq]
  have hq4 : q ≤ 3 := by omega
  obtain ⟨T, hT⟩ : ∃ T, listD (itemD n L f) q (at_ + 1) = T := ⟨_, rfl⟩
  rw [hT]
  have HCap := Lib.hid hcap
  have HI := Lib.hid hI
  have HT := Lib.hid hT
  have HQ := Lib.hid hq
  have hsh : (x : Int) / 8 % 4 = q := by omega
  have hlt : ¬ (D : Int) ≤ d := by omega
  clear hcap hI hT hq
  go_enter Try.func33, Try.ntmps33
  go_wp2_with (first
    | (go_at_call 32; refine HC.out.mono ?_; rintro e w1 ⟨rfl, HN⟩; have x1 := HN.o.cell 0; have x2 := HN.o.froz 0; have x3 := HN.d.cell 0; have HN := Lib.hid HN)
    | (at_builtin; go_loud (refine wpList_append_win rfl _ _ _ rfl Try.underlying22 info_ev rfl rfl (HN.out.made.2.1.alloc _) _ rfl 1 _ (src_new _ Try.underlying22 5 1 (evsC [⟨5, false, 0, ⟨#[]⟩, (q : Int)⟩]) 35 _ rfl (evsC_one _) (heap_alloc_new _ _)) ?e1 ?e2 ?_)))
  case e1 => unfold maxLen; omega
  case e2 => omega
  intro v3 w3 hW3 hG3 hO3
  have hD := HN.out.put ⟨5, false, 0, ⟨#[]⟩, (q : Int)⟩ (up_alloc (Below.refl _ _) _) hW3.out hG3.out (by simpa using hO3.out)
  have hH := HN.out.held (up_alloc (Below.refl _ _) _) hG3.out
  have y1 := hH.cell 0
  have y2 := hH.froz 0
  obtain ⟨a3, c3, rfl, _, _⟩ := hD.made.2.1.slice_form
  have hD := Lib.hid hD
  clear hW3 hG3 hO3 hH x1 x2 x3 x0
  have hlm := HN.out.len
  clear HC
  have HL := Lib.hid hlm
  clear hlm
  go_wp2
  obtain ⟨e5, he5⟩ : ∃ e5 : Ev, (⟨5, false, 0, ⟨#[]⟩, (q : Int)⟩ : Ev) = e5 := ⟨_, rfl⟩
  rw [he5] at hD
  have HE5 := Lib.hid he5
  clear he5
  generalize w3.setCell ⟨bo, 0, none⟩ (.slice a3 (m + 1) c3) = w4 at hD ⊢
  clear y1 y2
  go_loopw [8] (fun i wr => ∃ (j m' a' : Nat) (v' : Value) (out' : List Ev), i = .int .i64 j ∧ j ≤ q ∧ Hid (DS W A n cp L D bl bd bo ba bn bi wr v' m' out' a') ∧ Hid (out' ++ (listD (itemD n L f) (q - j) a').1 = (out ++ [e5]) ++ T.1 ∧ (listD (itemD n L f) (q - j) a').2 = T.2 ∧ m' ≤ m + 1 + j * capD f ∧ a' ≤ at_ + 1 + j * capD f)) (fun i _ => q - (RowKit.intOf i).toNat)
  case atStart => exact ⟨0, m + 1, at_ + 1, _, _, rfl, by omega, hD, Lib.hid ⟨by rw [Nat.sub_zero, HT.out], by rw [Nat.sub_zero, HT.out], by omega, by omega⟩⟩
  case round =>
    obtain ⟨j, m', a', v', out', rfl, hj, HS, HR⟩ := hrel
    by_cases hjq : j < q
    · have x0 : wr.cell? ⟨bi, 0, none⟩ = some (.func (.func 33) #[] #[.pointer (some ⟨bn, 0, none⟩), .pointer (some ⟨bo, 0, none⟩), .pointer (some ⟨bd, 0, none⟩), .pointer (some ⟨bi, 0, none⟩)]) := HS.out.i.cell 0
      have hmul : j * capD f + capD f ≤ 3 * capD f := by rw [← Nat.succ_mul]; exact Nat.mul_le_mul_right _ (by omega)
      have hr := HR.out
      have HK := Lib.hid (HI.out m' a' wr v' out' HS.out (by omega) (by omega))
      have hcp := HCap.out a'
      rw [show q - j = (q - (j + 1)) + 1 by omega] at hr
      simp only [listD] at hr
      have HR2 : Hid ((out' ++ (itemD n L f a').1) ++ (listD (itemD n L f) (q - (j + 1)) (itemD n L f a').2).1 = (out ++ [e5]) ++ T.1 ∧ (listD (itemD n L f) (q - (j + 1)) (itemD n L f a').2).2 = T.2 ∧ m' + (itemD n L f a').1.length ≤ m + 1 + (j + 1) * capD f ∧ (itemD n L f a').2 ≤ at_ + 1 + (j + 1) * capD f) := Lib.hid ⟨by rw [← hr.1, List.append_assoc], hr.2.1, by rw [Nat.succ_mul]; omega, by rw [Nat.succ_mul]; omega⟩
      clear hr hcp hmul HS HR
      go_wp2_with (go_at_call 33; refine HK.out.mono ?_; rintro e w5 ⟨v5, rfl, HS5⟩; have HS5 := Lib.hid HS5)
      go_roundw
      case rel => exact ⟨j + 1, _, _, v5, _, rfl, hjq, HS5, HR2⟩
      case measure => simp [RowKit.intOf]; omega
    · have hr := HR.out
      rw [show q - j = 0 by omega] at hr
      simp only [listD, List.append_nil] at hr
      have hmul : j * capD f ≤ 3 * capD f := Nat.mul_le_mul_right _ (by omega)
      have x1 := HS.out.o.cell 0
      have x2 := HS.out.o.froz 0
      have hm6 : m' ≤ 900000000 := by omega
      have HR3 := Lib.hid hr
      clear hr HR hmul
      go_wp2_with (at_builtin; go_loud (refine wpList_append_win rfl _ _ _ rfl Try.underlying22 info_ev rfl rfl (HS.out.made.2.1.alloc _) _ rfl 1 _ (src_new _ Try.underlying22 5 1 (evsC [⟨7, false, 0, ⟨#[]⟩, 0⟩]) 35 _ rfl (evsC_one _) (heap_alloc_new _ _)) ?e1 ?e2 ?_))
      case e1 => unfold maxLen; omega
      case e2 => omega
      intro v6 w6 hW6 hG6 hO6
      have hD6 := HS.out.put ⟨7, false, 0, ⟨#[]⟩, 0⟩ (up_alloc (Below.refl _ _) _) hW6.out hG6.out (by simpa using hO6.out)
      have hH6 := HS.out.held (up_alloc (Below.refl _ _) _) hG6.out
      have y1 := hH6.cell 0
      have y2 := hH6.froz 0
      obtain ⟨a6, c6, rfl, _, _⟩ := hD6.made.2.1.slice_form
      have hlen := hD6.len
      have hD6 := Lib.hid hD6
      have HLen := Lib.hid hlen
      clear hW6 hG6 hO6 hH6 x1 x2 hlen
      go_wp2
      refine bodyPost_end (results_none rfl _ _ _) rfl ?_
      refine ⟨.slice a6 (m' + 1) c6, rfl, ?_⟩
      have he : (out ++ (⟨5, false, 0, ⟨#[]⟩, (q : Int)⟩ :: (T.1 ++ [⟨7, false, 0, ⟨#[]⟩, 0⟩]))) = out' ++ [⟨7, false, 0, ⟨#[]⟩, 0⟩] := by
        rw [HR3.out.1, HE5.out]
        simp
      have hl2 : m + ((T.1 ++ [(⟨7, false, 0, ⟨#[]⟩, 0⟩ : Ev)]).length + 1) = m' + 1 := by
        have h9 := congrArg List.length he
        rw [HLen.out, List.length_append, List.length_cons, HL.out] at h9
        exact h9
      rw [he, hl2, ← HR3.out.2.1]
      exact hD6.out
end Go.Proofs.Ytockeedbceopiaa
