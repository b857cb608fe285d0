/-
  Parts: PoC, StgA, StgB, PipBd, FmtP.
-/
import Derived.Test.YtkgconbdmnmbnaaGreatG0o
import Derived.Test.YtkgconbdmnmbnaaGreatG0l
import Derived.Test.YtkgconbdmnmbnaaGreatG0n
import Derived.Test.YtkgconbdmnmbnaaGreatG0b
import Derived.Test.YtkgconbdmnmbnaaGreatG0a
import Derived.Deep.QuietTactic
import Derived.Test.YtkgconbdmnmbnaaGreatG0g
import Derived.Lib.Itoa
import Derived.Lib.ItoaMem
set_option maxRecDepth 100000
set_option maxHeartbeats 16000000
open Go.Lib (hid)
namespace Go.Proofs.YtkgconbdmnmbnaaGreat
section
open Go.RowKit
open Go.Lib
theorem PoAt.asks {w : World} {b o : Nat} {F : List Nat} {q : Kq} (h : PoAt w b o F q) (hd : q.s.length ≤ 1000) : ∃ a cp, (∀ w', Below w.heap.size w w' → w'.cell? ⟨b, o, none⟩ = some (.slice a q.s.length cp) ∧ w'.cell? ⟨b, o + 1, none⟩ = some (.bool q.dn)) ∧
    (∀ w', Below w.heap.size w w' → Calls Tryz.prog 271 #[.slice a q.s.length cp] w' fun r w2 => r = .returned (.bool (fulT q.s)) ∧ Below w'.heap.size w' w2) ∧
    (∀ w', Below w.heap.size w w' → Calls Tryz.prog 272 #[.slice a q.s.length cp] w' fun r w2 => r = .returned (.bool (keyB q.s)) ∧ Below w'.heap.size w' w2) := by
  obtain ⟨a, cp, hA, hW, hF⟩ := h.cells; have hlt := h.lt; have hw : ∀ w', Below w.heap.size w w' → Win w' 285 2 (.slice a q.s.length cp) q.s.length (rcL q.s) := fun w' k => hW.keep fun i hi => k.block i (hW.lt i hi)
  refine ⟨a, cp, fun w' k => ?_, fun w' k => rfull_any (hw w' k) hd h.wf, fun w' k => rkey_any (hw w' k) hd h.wf⟩; have := hA.keep (k.block b hlt); obtain ⟨⟨c0, _⟩, ⟨c1, _⟩⟩ := oat_two this; exact ⟨c0, c1⟩
theorem ref_endR {w : World} {b o : Nat} {F : List Nat} {q : Kq} (h : PoAt w b o F q) (hd : q.s.length ≤ 1000) :
    Calls Tryz.prog 270 #[.pointer (some ⟨b, o, none⟩)] w fun r w' => r = .returned (.int .i64 ((if fulT q.s = true then 0 else 14 : Nat) : Int)) ∧ Below w.heap.size w w' := by
  obtain ⟨a, cp, h0, hM, _⟩ := h.asks hd; have c0 := (h0 w (Below.refl _ _)).1; have HM := hid (hM w (Below.refl _ _)); clear h0 hM h; generalize fulT q.s = M at *
  cases M with
  | false =>
    go_enter Tryz.func270, Tryz.ntmps270; (go_wp2_with fail); refine HM.out.mono ?_; rintro r w1 ⟨rfl, b1⟩; have B1 := hid b1; clear b1; go_wp2; go_ret; exact ⟨rfl, B1.out⟩
  | true =>
    go_enter Tryz.func270, Tryz.ntmps270; (go_wp2_with fail); refine HM.out.mono ?_; rintro r w1 ⟨rfl, b1⟩; have B1 := hid b1; clear b1; go_wp2; go_ret; exact ⟨rfl, B1.out⟩
theorem as_whole (e : Ev) (hm : mayE e) (W : World) : (Instr.typeAssert (valE e) 20 123 true).run Tryz.prog W = .ok (.tuple #[.agg #[.bool (if e.k = 2 then e.y else false), .int .u64 (if e.k = 2 then (e.m : Int) else 0)], .bool (decide (e.k = 2))]) W := by
  obtain ⟨k, y, m, t, c⟩ := e; rcases kind8 hm with h | h | h | h | h | h | h | h <;> (simp only at h; subst h)
  · kernel_rfl
  · exact not_whole _ (by decide) _ _
  · exact is_whole _ _
  · exact not_whole _ (by decide) _ _
  · exact not_whole _ (by decide) _ _
  · exact not_whole _ (by decide) _ _
  · exact not_whole _ (by decide) _ _
  · exact not_whole _ (by decide) _ _
theorem rin_whole (v : Value) (y : Bool) (m : Nat) (w : World)
    (hW : ∀ W, (Instr.typeAssert v 20 123 true).run Tryz.prog W = .ok (.tuple #[.agg #[.bool y, .int .u64 (m : Int)], .bool true]) W) :
    Calls Tryz.prog 273 #[v] w fun r w' => r = .returned (.bool (!y || decide (m ≤ 9223372036854775807))) ∧ Below w.heap.size w w' := by
  have hz : ((m : Int) ≤ 9223372036854775807) = (m ≤ 9223372036854775807) := by rw [eq_iff_iff]; omega
  obtain ⟨D, hD⟩ : ∃ D, decide (m ≤ 9223372036854775807) = D := ⟨_, rfl⟩
  have hzb : decide ((m : Int) ≤ 9223372036854775807) = D := by rw [← hD]; simp only [hz]
  rw [hD]; clear hz hD; cases y with
  | false =>
    go_enter Tryz.func273, Tryz.ntmps273; go_wp2; go_ret; exact ⟨rfl, up_alloc (Below.refl _ _) _⟩
  | true =>
    go_enter Tryz.func273, Tryz.ntmps273; go_wp2; go_ret; exact ⟨by simp, up_alloc (Below.refl _ _) _⟩
theorem rin_begin (v : Value) (m : Bool) (c : Int) (hc : -1 ≤ c ∧ c ≤ 9223372036854775807) (w : World)
    (hW : ∀ W, (Instr.typeAssert v 20 123 true).run Tryz.prog W = .ok (.tuple #[.agg #[.bool false, .int .u64 0], .bool false]) W)
    (hB : ∀ W, (Instr.typeAssert v 20 163 true).run Tryz.prog W = .ok (.tuple #[.agg #[.bool m, .int .i64 c], .bool true]) W) :
    Calls Tryz.prog 273 #[v] w fun r w' => r = .returned (.bool (decide (0 ≤ c ∧ c ≤ 4294967295))) ∧ Below w.heap.size w w' := by
  by_cases h0 : 0 ≤ c
  · have z0 : (c ≥ 0) = True := by simp only [eq_iff_iff, iff_true]; exact h0
    have hw : IntKind.u64.wrap c = c := by simp only [IntKind.wrap_u64]; omega
    have hd : decide (0 ≤ c ∧ c ≤ 4294967295) = decide (c ≤ 4294967295) := by rw [Bool.eq_iff_iff, decide_eq_true_eq, decide_eq_true_eq]; omega
    rw [hd]; go_enter Tryz.func273, Tryz.ntmps273; go_wp2; go_ret; exact ⟨rfl, up_alloc (up_alloc (Below.refl _ _) _) _⟩
  · have z0 : (c ≥ 0) = False := by simp only [eq_iff_iff, iff_false]; exact h0
    have hd : decide (0 ≤ c ∧ c ≤ 4294967295) = false := by rw [decide_eq_false_iff_not]; omega
    rw [hd]; go_enter Tryz.func273, Tryz.ntmps273; go_wp2; go_ret; exact ⟨rfl, up_alloc (up_alloc (Below.refl _ _) _) _⟩
theorem rin_else (v : Value) (w : World)
    (hW : ∀ W, (Instr.typeAssert v 20 123 true).run Tryz.prog W = .ok (.tuple #[.agg #[.bool false, .int .u64 0], .bool false]) W)
    (hB : ∀ W, (Instr.typeAssert v 20 163 true).run Tryz.prog W = .ok (.tuple #[.agg #[.bool false, .int .i64 0], .bool false]) W) :
    Calls Tryz.prog 273 #[v] w fun r w' => r = .returned (.bool true) ∧ Below w.heap.size w w' := by
  go_enter Tryz.func273, Tryz.ntmps273; go_wp2; go_ret; exact ⟨rfl, up_alloc (up_alloc (Below.refl _ _) _) _⟩
theorem rin_any (e : Ev) (hm : mayE e) (hok : EvOk e) (w : World) : Calls Tryz.prog 273 #[valE e] w fun r w' => r = .returned (.bool (!decide (rangeP e))) ∧ Below w.heap.size w w' := by
  have hW := as_whole e hm; have hB := as_begin e hm; by_cases h2 : e.k = 2
  · rw [if_pos h2, if_pos h2, decide_eq_true h2] at hW
    refine (rin_whole (valE e) e.y e.m w hW).mono ?_; rintro r w' ⟨h1, h3⟩; refine ⟨?_, h3⟩; rw [h1]; congr 2; rw [Bool.eq_iff_iff, Bool.not_eq_true', decide_eq_false_iff_not]; unfold rangeP; cases hy : e.y
    · simp [h2]
    · simp [h2]
      omega
  · rw [if_neg h2, if_neg h2, decide_eq_false h2] at hW
    by_cases h56 : e.k = 5 ∨ e.k = 6
    · rw [if_pos h56, decide_eq_true h56] at hB
      refine (rin_begin (valE e) _ e.c ⟨hm.2.2 h56, hok.2.2.1.2⟩ w hW hB).mono ?_; rintro r w' ⟨h1, h3⟩; refine ⟨?_, h3⟩; rw [h1]; congr 2; rw [Bool.eq_iff_iff, Bool.not_eq_true', decide_eq_false_iff_not, decide_eq_true_eq]; unfold rangeP; omega
    · rw [if_neg h56, decide_eq_false h56, decide_eq_false (by omega : ¬ e.k = 6)] at hB
      refine (rin_else (valE e) w hW hB).mono ?_; rintro r w' ⟨h1, h3⟩; refine ⟨?_, h3⟩; rw [h1]; congr 2; rw [eq_comm, Bool.not_eq_true', decide_eq_false_iff_not]; unfold rangeP; omega
theorem rrefuses_gen {w : World} {b o : Nat} {F : List Nat} {q : Kq} (h : PoAt w b o F q) (hs : q.s.length ≤ 1000) (v : Value) (X : Ev) (hP : ∀ W, Calls Tryz.prog 56 #[v] W fun r w' => r = .returned (.tuple #[evV X, .bool true]) ∧ Below W.heap.size W w')
    (isC isW R : Bool) (S : ByteArray) (hC : ∀ W, (Instr.typeAssert v 20 166 true).run Tryz.prog W = .ok (.tuple #[.agg #[], .bool isC]) W)
    (hW : ∀ W, (Instr.typeAssert v 20 176 true).run Tryz.prog W = .ok (.tuple #[.string S, .bool isW]) W)
    (hR : ∀ W, Calls Tryz.prog 273 #[v] W fun r w' => r = .returned (.bool R) ∧ Below W.heap.size W w') (n : Nat)
    (hn : n = if q.dn = true then 14 else if isC = true then (if fulT q.s = true then 0 else 14) else if fulT q.s = true then 14 else if isW = false ∧ keyB q.s = true then 8 else if R = true then 0 else 7) :
    Calls Tryz.prog 268 #[.pointer (some ⟨b, o, none⟩), v] w fun r w' => r = .returned (.int .i64 n) ∧ Below w.heap.size w w' := by
  have HP := hid hP; have HC := hid hC; have HW := hid hW; have HR := hid hR; obtain ⟨k, y, m, t, c⟩ := X; simp only [evV] at HP; have HE : Hid (∀ w', Below w.heap.size w w' → Calls Tryz.prog 270 #[.pointer (some ⟨b, o, none⟩)] w' fun r w2 => r = .returned (.int .i64 ((if fulT q.s = true then 0 else 14 : Nat) : Int)) ∧ Below w'.heap.size w' w2) := hid (fun w' k => ref_endR (h.go k) hs); obtain ⟨a, cp, hc0, hU, hK⟩ := h.asks hs; have HC0 := hid hc0; have HU := hid hU; have HK := hid hK; generalize (if fulT q.s = true then 0 else 14 : Nat) = n2 at *
  clear hP h hC hW hR hc0 hU hK hs; generalize fulT q.s = U at *
  generalize keyB q.s = K at *
  generalize q.s.length = l at *
  generalize q.dn = D at *
  cases D with
  | true =>
    obtain rfl : n = 14 := by rw [hn, if_pos rfl]
    clear hn; go_enter Tryz.func268, Tryz.ntmps268; (go_wp2_with fail); refine (HP.out _).mono ?_; rintro r w1 ⟨rfl, b1⟩; have B1 := hid (up_alloc b1 (.cells #[.int .i64 k, .bool y, .int .u64 m, .string t, .int .i64 c] 43)); have d1 := (HC0.out _ B1.out).2; clear b1; go_wp2; go_ret; exact ⟨rfl, B1.out⟩
  | false =>
    rw [if_neg (by simp)] at hn; have hC := HC.out; cases isC with
    | true =>
      rw [if_pos rfl] at hn; subst hn; go_enter Tryz.func268, Tryz.ntmps268; (go_wp2_with fail); refine (HP.out _).mono ?_; rintro r w1 ⟨rfl, b1⟩; have B1 := hid (up_alloc b1 (.cells #[.int .i64 k, .bool y, .int .u64 m, .string t, .int .i64 c] 43)); have d1 := (HC0.out _ B1.out).2; clear b1; (go_wp2_with fail); refine (HE.out _ (up_alloc B1.out _)).mono ?_; rintro r w3 ⟨rfl, b3⟩; have BX := hid (up_trans (up_alloc B1.out _) b3); clear b3; go_wp2; go_ret; exact ⟨rfl, BX.out⟩
    | false =>
      rw [if_neg (by simp)] at hn; cases U with
      | true =>
        rw [if_pos rfl] at hn; subst hn; go_enter Tryz.func268, Tryz.ntmps268; (go_wp2_with fail); refine (HP.out _).mono ?_; rintro r w1 ⟨rfl, b1⟩; have B1 := hid (up_alloc b1 (.cells #[.int .i64 k, .bool y, .int .u64 m, .string t, .int .i64 c] 43)); have d1 := (HC0.out _ B1.out).2; clear b1; have B2 := hid (up_alloc B1.out (.cells #[] 166)); have d2 := (HC0.out _ B2.out).1; (go_wp2_with fail); refine (HU.out _ B2.out).mono ?_; rintro r w2 ⟨rfl, b2⟩; have B3 := hid (up_trans B2.out b2); clear b2; go_wp2; go_ret; exact ⟨rfl, B3.out⟩
      | false =>
        rw [if_neg (by simp)] at hn; have hW := HW.out; cases isW with
        | true =>
          rw [if_neg (by simp)] at hn; cases R with
          | true =>
            rw [if_pos rfl] at hn; subst hn; go_enter Tryz.func268, Tryz.ntmps268; (go_wp2_with fail); refine (HP.out _).mono ?_; rintro r w1 ⟨rfl, b1⟩; have B1 := hid (up_alloc b1 (.cells #[.int .i64 k, .bool y, .int .u64 m, .string t, .int .i64 c] 43)); have d1 := (HC0.out _ B1.out).2; clear b1; have B2 := hid (up_alloc B1.out (.cells #[] 166)); have d2 := (HC0.out _ B2.out).1; (go_wp2_with fail); refine (HU.out _ B2.out).mono ?_; rintro r w2 ⟨rfl, b2⟩; have B3 := hid (up_trans B2.out b2); clear b2; (go_wp2_with fail); refine (HR.out _).mono ?_; rintro r w4 ⟨rfl, b4⟩; have B5 := hid (up_trans B3.out b4); clear b4; go_wp2; go_ret; exact ⟨rfl, B5.out⟩
          | false =>
            rw [if_neg (by simp)] at hn; subst hn; go_enter Tryz.func268, Tryz.ntmps268; (go_wp2_with fail); refine (HP.out _).mono ?_; rintro r w1 ⟨rfl, b1⟩; have B1 := hid (up_alloc b1 (.cells #[.int .i64 k, .bool y, .int .u64 m, .string t, .int .i64 c] 43)); have d1 := (HC0.out _ B1.out).2; clear b1; have B2 := hid (up_alloc B1.out (.cells #[] 166)); have d2 := (HC0.out _ B2.out).1; (go_wp2_with fail); refine (HU.out _ B2.out).mono ?_; rintro r w2 ⟨rfl, b2⟩; have B3 := hid (up_trans B2.out b2); clear b2; (go_wp2_with fail); refine (HR.out _).mono ?_; rintro r w4 ⟨rfl, b4⟩; have B5 := hid (up_trans B3.out b4); clear b4; go_wp2; go_ret; exact ⟨rfl, B5.out⟩
        | false =>
          cases K with
          | true =>
            rw [if_pos (by simp)] at hn; subst hn; go_enter Tryz.func268, Tryz.ntmps268; (go_wp2_with fail); refine (HP.out _).mono ?_; rintro r w1 ⟨rfl, b1⟩; have B1 := hid (up_alloc b1 (.cells #[.int .i64 k, .bool y, .int .u64 m, .string t, .int .i64 c] 43)); have d1 := (HC0.out _ B1.out).2; clear b1; have B2 := hid (up_alloc B1.out (.cells #[] 166)); have d2 := (HC0.out _ B2.out).1; (go_wp2_with fail); refine (HU.out _ B2.out).mono ?_; rintro r w2 ⟨rfl, b2⟩; have B3 := hid (up_trans B2.out b2); clear b2; have d3 := (HC0.out _ B3.out).1; (go_wp2_with fail); refine (HK.out _ B3.out).mono ?_; rintro r w3 ⟨rfl, b3⟩; have B4 := hid (up_trans B3.out b3); clear b3; go_wp2; go_ret; exact ⟨rfl, B4.out⟩
          | false =>
            rw [if_neg (by simp)] at hn; cases R with
            | true =>
              rw [if_pos rfl] at hn; subst hn; go_enter Tryz.func268, Tryz.ntmps268; (go_wp2_with fail); refine (HP.out _).mono ?_; rintro r w1 ⟨rfl, b1⟩; have B1 := hid (up_alloc b1 (.cells #[.int .i64 k, .bool y, .int .u64 m, .string t, .int .i64 c] 43)); have d1 := (HC0.out _ B1.out).2; clear b1; have B2 := hid (up_alloc B1.out (.cells #[] 166)); have d2 := (HC0.out _ B2.out).1; (go_wp2_with fail); refine (HU.out _ B2.out).mono ?_; rintro r w2 ⟨rfl, b2⟩; have B3 := hid (up_trans B2.out b2); clear b2; have d3 := (HC0.out _ B3.out).1; (go_wp2_with fail); refine (HK.out _ B3.out).mono ?_; rintro r w3 ⟨rfl, b3⟩; have B4 := hid (up_trans B3.out b3); clear b3; (go_wp2_with fail); refine (HR.out _).mono ?_; rintro r w4 ⟨rfl, b4⟩; have B5 := hid (up_trans B4.out b4); clear b4; go_wp2; go_ret; exact ⟨rfl, B5.out⟩
            | false =>
              rw [if_neg (by simp)] at hn; subst hn; go_enter Tryz.func268, Tryz.ntmps268; (go_wp2_with fail); refine (HP.out _).mono ?_; rintro r w1 ⟨rfl, b1⟩; have B1 := hid (up_alloc b1 (.cells #[.int .i64 k, .bool y, .int .u64 m, .string t, .int .i64 c] 43)); have d1 := (HC0.out _ B1.out).2; clear b1; have B2 := hid (up_alloc B1.out (.cells #[] 166)); have d2 := (HC0.out _ B2.out).1; (go_wp2_with fail); refine (HU.out _ B2.out).mono ?_; rintro r w2 ⟨rfl, b2⟩; have B3 := hid (up_trans B2.out b2); clear b2; have d3 := (HC0.out _ B3.out).1; (go_wp2_with fail); refine (HK.out _ B3.out).mono ?_; rintro r w3 ⟨rfl, b3⟩; have B4 := hid (up_trans B3.out b3); clear b3; (go_wp2_with fail); refine (HR.out _).mono ?_; rintro r w4 ⟨rfl, b4⟩; have B5 := hid (up_trans B4.out b4); clear b4; go_wp2; go_ret; exact ⟨rfl, B5.out⟩
theorem rstep_err_val {q : Kq} {e : Ev} (hw : WfR q.s) (hm : mayE e) :
    (stepR q e).1.2 = if q.dn = true then 14 else if decide (e.k = 7) = true then (if fulT q.s = true then 0 else 14) else if fulT q.s = true then 14 else if decide (e.k = 3) = false ∧ keyB q.s = true then 8 else if (!decide (rangeP e)) = true then 0 else 7 := by
  obtain ⟨s, dn⟩ := q; cases dn with
  | true => rw [stepR_bad ⟨s, true⟩ e (.inr rfl), if_pos rfl]
  | false =>
    rw [if_neg (by simp)]; by_cases h7 : e.k = 7
    · rw [if_pos (decide_eq_true h7)]
      cases s with
      | nil => rw [stepR_none hm h7]; rfl
      | cons x r =>
        have hx := hw x (by simp); have he := shut_lak hx; rw [← ful_lak hx r] at he; rw [← he]; by_cases ho : shutB x
        · rw [stepR_shut hm h7 ho, if_neg (by simpa using ho)]
        · rw [stepR_end hm h7 ho, if_pos (by simpa using ho)]
    · rw [if_neg (by simpa using h7)]
      by_cases hf : fulT s = true
      · rw [stepR_full hm h7 hf, if_pos hf]
      · rw [if_neg hf]
        have hf : fulT s = false := by simpa using hf
        by_cases hk : keyB s = true ∧ e.k ≠ 3
        · rw [stepR_key hm h7 hf hk.1 hk.2, if_pos ⟨by simpa using hk.2, hk.1⟩]
        · rw [if_neg (fun h => hk ⟨h.2, by simpa using h.1⟩)]
          by_cases hr : rangeP e
          · rw [stepR_range hm h7 hf hk hr, if_neg (by simpa using hr)]
          · rw [if_pos (by simpa using hr)]
            by_cases h56 : e.k = 5 ∨ e.k = 6
            · have hkf : keyB s = false := by
                cases hq : keyB s with
                | false => rfl
                | true => exact absurd ⟨hq, by omega⟩ hk
              rw [stepR_open hm h56 hf hkf hr]
            · rw [stepR_val hm h7 h56 hf hk hr]
theorem refusesR {w : World} {b o : Nat} {F : List Nat} {q : Kq} (h : PoAt w b o F q) (hs : q.s.length ≤ 1000) (e : Ev) (hm : mayE e) (hok : EvOk e) :
    Calls Tryz.prog 268 #[.pointer (some ⟨b, o, none⟩), valE e] w fun r w' => r = .returned (.int .i64 ((stepR q e).1.2 : Nat)) ∧ Below w.heap.size w w' :=
  rrefuses_gen h hs (valE e) (tidyE e) (plain_any e hm) _ _ _ _ (as_close e hm) (as_word e hm) (fun W => rin_any e hm hok W) _ (rstep_err_val h.wf hm)
end
section
open Go.RowKit
open Go.Lib
def cnB (x : Cn) : List Value := [.bool x.m, .int .i64 x.c, .int .i64 (x.at_ : Int), .int .i64 (x.n : Int)]
def cnL : List Cn → List Value
  | [] => []
  | x :: r => cnL r ++ cnB x
theorem cnL_length : ∀ s : List Cn, (cnL s).length = s.length * 4
  | [] => rfl
  | x :: r => by rw [cnL, List.length_append, cnL_length r]; simp [cnB]; omega
theorem info_cn : (Tryz.prog.info? 170).map (fun i => (i.zero, i.size, i.bytes)) = some (some (.agg #[.bool false, .int .i64 0, .int .i64 0, .int .i64 0]), 4, 32) := by kernel_rfl
theorem cst_last {w : World} {v : Value} {x : Cn} {r : List Cn} (h : Win w 170 4 v (r.length + 1) (cnL r ++ cnB x)) :
    ∃ g off cap, v = .slice (some ⟨g, off, none⟩) (r.length + 1) cap ∧
      (w.cell? ⟨g, off + r.length * 4, none⟩ = some (.bool x.m) ∧ w.cell? ⟨g, off + r.length * 4 + 1, none⟩ = some (.int .i64 x.c) ∧ w.cell? ⟨g, off + r.length * 4 + 2, none⟩ = some (.int .i64 (x.at_ : Int)) ∧ w.cell? ⟨g, off + r.length * 4 + 3, none⟩ = some (.int .i64 (x.n : Int))) ∧
      w.frozen? ⟨g, off + r.length * 4 + 3, none⟩ = false := by
  obtain ⟨g, off, cap, rfl, h1, h2, _, _, h3⟩ := h.form (by simp); have hl := cnL_length r; have hx : ∀ j u, (cnB x)[j]? = some u → w.cell? ⟨g, off + (r.length * 4 + j), none⟩ = some u ∧ w.frozen? ⟨g, off + (r.length * 4 + j), none⟩ = false := fun j u hu => by
    refine h3 _ u ?_; rw [← hl, List.getElem?_append_right (by omega), Nat.add_sub_cancel_left]; exact hu
  have x0 := hx 0 _ rfl; have x1 := hx 1 _ rfl; have x2 := hx 2 _ rfl; have x3 := hx 3 _ rfl; simp only [← Nat.add_assoc, Nat.add_zero] at x0 x1 x2 x3; exact ⟨g, off, cap, rfl, ⟨x0.1, x1.1, x2.1, x3.1⟩, x3.2⟩
theorem Step.of_below (F : List Nat) {w w' : World} (h : Below w.heap.size w w') : Step F F w w' := ⟨h.os, h.tape, h.output, h.size, fun k hk _ => h.block k hk, fun _ h => .inl h⟩
def Sgb (w : World) (b : Nat) (e lim : Nat) (vh : Value) (z : Nat) (vo : Value) : Prop := Blk w b #[.bool true, .int .i64 (e : Int), .int .i64 (lim : Int), vh, .int .i64 (z : Int), vo] 110
theorem sleave_any {w : World} {b e lim z : Nat} {vh vo : Value} {x : Cn} {r : List Cn} (h : Sgb w b e lim vh z vo) (hW : Win w 170 4 vo (r.length + 1) (cnL r ++ cnB x)) (hd : r.length ≤ 100000) :
    Calls Tryz.prog 61 #[.pointer (some ⟨b, 5, none⟩)] w fun q w' => q = .returned (.agg #[.bool x.m, .int .i64 x.c, .int .i64 (x.at_ : Int), .int .i64 (x.n : Int)]) ∧
      ∃ vo', Sgb w' b e lim vh z vo' ∧ Win w' 170 4 vo' r.length (cnL r) ∧ Value.owner vo' = Value.owner vo ∧ Step [b] [b] w w' := by
  have hap := hW.apart h (by decide); obtain ⟨v', hsl, hw', ho'⟩ := hW.hi (P := Tryz.prog) (t := 108) Tryz.underlying108 (fun w => by kernel_rfl) r.length (by simp); rw [← cnL_length, List.take_left] at hw'; obtain ⟨a', c', rfl, _, _⟩ := hw'.slice_form; obtain ⟨g, off, cap, rfl, ⟨c0, c1, c2, c3⟩, f3⟩ := cst_last hW; have hb := h.lt; have h5 := h.cell 5; have f5 := h.froz 5; simp only [Value.owner, List.mem_singleton] at hap; have hgb : g ≠ b := fun e => hap e.symm
  have HH := hid h; have HW := hid hw'; have HO := hid ho'; have hwn : wrap64 (r.length : Int) = (r.length : Int) := by unfold wrap64; omega
  have hwn2 : IntKind.i64.wrap (r.length : Int) = (r.length : Int) := by simp only [IntKind.wrap_i64]; omega
  have hg : g < w.heap.size := hW.lt g (by simp [Value.owner]); obtain ⟨m, c, at_, n⟩ := x; simp only at c0 c1 c2 c3 ⊢; clear h hW hw' ho' f3; generalize cnL r = XS at *
  generalize r.length = n' at *
  go_enter Tryz.func61, Tryz.ntmps61; go_wp2; simp [bodyPost, results, Tryz.results61, go_sem]; refine ⟨_, ((HH.out.set 5 _).alloc _).alloc _, ((HW.out.setCell_far (fun hk => hgb ?_) _).alloc _).alloc _, HO.out, ?_⟩
  · have := HO.out ▸ hk
    simpa [Value.owner, eq_comm] using this
  · exact ((step_setCell [b] w _ _ (by simp)).trans (Step.of_below _ (up_alloc (up_alloc (Below.refl _ _) _) _)))
theorem scounted_any (x : Cn) (hn : x.n ≤ 100000) (w : World) :
    Calls Tryz.prog 62 #[.agg #[.bool x.m, .int .i64 x.c, .int .i64 (x.at_ : Int), .int .i64 (x.n : Int)]] w fun q w' => q = .returned (.agg #[.bool x.m, .int .i64 (cntE x).c]) ∧ Below w.heap.size w w' := by
  obtain ⟨m, c, at_, n⟩ := x; simp only [cntE] at *
  have hq : IntKind.i64.wrap ((n : Int).tdiv 2) = ((n / 2 : Nat) : Int) := by
    rw [Int.tdiv_eq_ediv_of_nonneg (by omega)]; simp only [IntKind.wrap_i64]; omega
  by_cases hc : c = -1
  · subst hc
    have e0 : ((-1 : Int) ≠ -1) = False := by simp
    rw [if_neg (by simp)]; cases m
    · go_enter Tryz.func62, Tryz.ntmps62
      go_wp2; simp [bodyPost, results, Tryz.results62, go_sem]; exact up_alloc (up_alloc (up_alloc (Below.refl _ _) _) _) _
    · go_enter Tryz.func62, Tryz.ntmps62
      go_wp2; simp [bodyPost, results, Tryz.results62, go_sem]; exact up_alloc (up_alloc (up_alloc (Below.refl _ _) _) _) _
  · have h1 : (c != -1) = true := by simpa using hc
    rw [if_pos hc]; go_enter Tryz.func62, Tryz.ntmps62; go_wp2; simp [bodyPost, results, Tryz.results62, go_sem]; exact up_alloc (up_alloc (up_alloc (Below.refl _ _) _) _) _
theorem cst_store {w : World} {x : Cn} {l : Nat} {r : List Cn} {g off cap n : Nat} (_ : n = r.length + 1) (h : Win w 170 4 (.slice (some ⟨g, off, none⟩) n cap) n (cnL r ++ cnB x)) :
    Win (w.setCell ⟨g, off + r.length * 4 + 3, none⟩ (.int .i64 (l : Int))) 170 4 (.slice (some ⟨g, off, none⟩) n cap) n (cnL r ++ cnB ⟨x.m, x.c, x.at_, l⟩) := by
  have hw := h.store (r.length * 4 + 3) (by rw [List.length_append, cnL_length]; simp [cnB]) (.int .i64 (l : Int)); have hx : (cnL r ++ cnB x).set (r.length * 4 + 3) (.int .i64 (l : Int)) = cnL r ++ cnB ⟨x.m, x.c, x.at_, l⟩ := by
    rw [← cnL_length, List.set_append, if_neg (by omega), Nat.add_sub_cancel_left]; rfl
  rw [hx, ← Nat.add_assoc] at hw; exact hw
theorem scount_any {w : World} {v : Value} {s : List Cn} (h : Win w 170 4 v s.length (cnL s)) (hd : s.length ≤ 100000) (hw : ∀ x ∈ s, x.n ≤ 100000) :
    Calls Tryz.prog 58 #[v] w fun r w' => r = .returned (.tuple #[]) ∧ Win w' 170 4 v s.length (cnL (incN s)) ∧ Step (Value.owner v) (Value.owner v) w w' := by
  cases s with
  | nil =>
    have HH := hid h; obtain ⟨a, cp, rfl, _, _⟩ := h.slice_form; clear h; go_enter Tryz.func58, Tryz.ntmps58; go_wp2
    go_end0
    exact ⟨rfl, HH.out, Step.refl _ _⟩
  | cons x r =>
    obtain ⟨g, off, cap, rfl, ⟨c0, c1, c2, c3⟩, f3⟩ := cst_last h; have hx := hw x (by simp); obtain ⟨m, c, at_, l⟩ := x; simp only [List.length_cons] at hd; simp only [List.length_cons, incN, cnL] at *
    have HS := hid (cst_store (l := l + 1) rfl h); rw [Int.natCast_add] at HS; clear h hw c0 c1 c2; generalize cnL r ++ cnB ⟨m, c, at_, l + 1⟩ = XS at *
    generalize r.length = n at *
    have hw3 : IntKind.i64.wrap ((l : Int) + 1) = (l : Int) + 1 := by simp only [IntKind.wrap_i64]; omega
    have hwn : wrap64 (n : Int) = (n : Int) := by unfold wrap64; omega
    have hwn2 : IntKind.i64.wrap (n : Int) = (n : Int) := by simp only [IntKind.wrap_i64]; omega
    have hz : ((n : Int) ≥ 0) = True := by simp
    go_enter Tryz.func58, Tryz.ntmps58; go_wp2
    go_end0
    exact ⟨rfl, HS.out, step_setCell _ _ _ _ (by simp [Value.owner])⟩
theorem senter_end {w W w3 : World} {b e lim z n cp c3 : Nat} {a a3 : Option Addr} {vh : Value} {x : Cn} {r : List Cn} {ob : Obj} (h : Sgb w b e lim vh z (.slice a n cp)) (hV : Win w 170 4 (.slice a n cp) n (cnL r)) (k : Below w.heap.size w W)
    (hW : Win w3 170 4 (.slice a3 (n + 1) c3) (n + 1) (cnL r ++ cnB x)) (hG : (W.alloc ob).drew.grownBy w3 (Value.slice a n cp).ownBlock) (hO : (Value.slice a3 (n + 1) c3).ownBlock = (Value.slice a n cp).ownBlock ∨ (Value.slice a3 (n + 1) c3).ownBlock = some (W.alloc ob).drew.heap.size ∧ (W.alloc ob).drew.heap.size < w3.heap.size) :
    (w3.cell? ⟨b, 5, none⟩ = some (.slice a n cp) ∧ w3.frozen? ⟨b, 5, none⟩ = false) ∧ Sgb (w3.setCell ⟨b, 5, none⟩ (.slice a3 (n + 1) c3)) b e lim vh z (.slice a3 (n + 1) c3) ∧ Win (w3.setCell ⟨b, 5, none⟩ (.slice a3 (n + 1) c3)) 170 4 (.slice a3 (n + 1) c3) (n + 1) (cnL (x :: r)) ∧
      Step (b :: Value.owner (.slice a n cp)) (b :: Value.owner (.slice a3 (n + 1) c3)) w (w3.setCell ⟨b, 5, none⟩ (.slice a3 (n + 1) c3)) := by
  have hb := h.lt; have hbF : b ∉ Value.owner (.slice a n cp) := hV.apart h (by decide); have hsz : w.heap.size ≤ W.heap.size := k.size; have hold : ∀ i, i < w.heap.size → i ∉ Value.owner (.slice a n cp) → w3.heap[i]? = w.heap[i]? := by
    intro i hi hiF; refine (hG.block i (by show i < (W.alloc ob).heap.size; simp; omega) (fun e => hiF ((ob_iff _ _).1 e.symm))).trans ?_; exact (Below.heap_alloc W ob i (by omega)).trans (k.block i hi)
  have hblk := hold b hb hbF; have h3 : Sgb w3 b e lim vh z (.slice a n cp) := hblk.trans h; have hap3 : b ∉ Value.owner (.slice a3 (n + 1) c3) := hW.apart h3 (by decide); refine ⟨⟨h3.cell 5, h3.froz 5⟩, h3.set 5 _, hW.setCell_far hap3 _, ?_⟩; have hstep : Step (b :: Value.owner (.slice a n cp)) (b :: Value.owner (.slice a3 (n + 1) c3)) w w3 := by
    refine ⟨hG.os.trans k.os, hG.tape.trans k.tape, hG.output.trans k.output, Nat.le_trans ?_ hG.size, fun i hi hiF => hold i hi (fun e => hiF (List.mem_cons_of_mem _ e)), fun i hi => ?_⟩
    · show w.heap.size ≤ (W.alloc ob).heap.size
      simp; omega
    · rcases List.mem_cons.1 hi with rfl | hi
      · exact .inl (by simp)
      · rcases hO with e | ⟨e, _⟩
        · exact .inl (List.mem_cons_of_mem _ ((ob_iff _ _).1 (e ▸ (ob_iff _ _).2 hi)))
        · right
          have h2 := (ob_iff _ _).2 hi; rw [e] at h2; cases h2; show w.heap.size ≤ (W.alloc ob).heap.size; simp; omega
  exact hstep.trans (step_setCell _ _ _ _ (by simp))
theorem senter_any {w : World} {b e lim z : Nat} {vh vo : Value} {r : List Cn} (h : Sgb w b e lim vh z vo) (hW : Win w 170 4 vo r.length (cnL r)) (hd : r.length ≤ 100000) (x : Cn) :
    Calls Tryz.prog 59 #[.pointer (some ⟨b, 5, none⟩), .agg #[.bool x.m, .int .i64 x.c, .int .i64 (x.at_ : Int), .int .i64 (x.n : Int)]] w fun q w' => q = .returned (.tuple #[]) ∧
      ∃ vo', Sgb w' b e lim vh z vo' ∧ Win w' 170 4 vo' (r.length + 1) (cnL (x :: r)) ∧ Step (b :: Value.owner vo) (b :: Value.owner vo') w w' := by
  obtain ⟨a, cp, rfl, _, _⟩ := hW.slice_form; obtain ⟨n, hn⟩ : ∃ n, r.length = n := ⟨_, rfl⟩
  obtain ⟨m, c, at_, q⟩ := x; simp only; have hb := h.lt; have hbel : Below w.heap.size w (w.alloc (.cells #[.bool m, .int .i64 c, .int .i64 (at_ : Int), .int .i64 (q : Int)] 170)) := up_alloc (Below.refl _ _) _; have E2 : Hid (Blk (w.alloc (.cells #[.bool m, .int .i64 c, .int .i64 (at_ : Int), .int .i64 (q : Int)] 170)) w.heap.size #[.bool m, .int .i64 c, .int .i64 (at_ : Int), .int .i64 (q : Int)] 170) := hid (blk_new w _ _); rw [hn] at h hW hd ⊢; have hA2 : Sgb (w.alloc (.cells #[.bool m, .int .i64 c, .int .i64 (at_ : Int), .int .i64 (q : Int)] 170)) b e lim vh z (.slice a n cp) := h.alloc _; have WD : ∀ y, Hid (Win ((w.alloc (.cells #[.bool m, .int .i64 c, .int .i64 (at_ : Int), .int .i64 (q : Int)] 170)).alloc y).drew 170 4 (.slice a n cp) n (cnL r)) := fun y => hid ((hW.alloc _).alloc y)
  have h5 := hA2.cell 5; have f5 : ∀ y, ((w.alloc (.cells #[.bool m, .int .i64 c, .int .i64 (at_ : Int), .int .i64 (q : Int)] 170)).alloc y).cell? ⟨b, 5, none⟩ = some (.slice a n cp) := fun y => (hA2.alloc y).cell 5
  have h0 := E2.out.cell 0; have h1 := E2.out.cell 1; have h2 := E2.out.cell 2; have h3 := E2.out.cell 3; have e0 : ∀ y, ((w.alloc (.cells #[.bool m, .int .i64 c, .int .i64 (at_ : Int), .int .i64 (q : Int)] 170)).alloc y).cell? ⟨w.heap.size, 0, none⟩ = some (.bool m) := fun y => (E2.out.alloc y).cell 0
  have e1 : ∀ y, ((w.alloc (.cells #[.bool m, .int .i64 c, .int .i64 (at_ : Int), .int .i64 (q : Int)] 170)).alloc y).cell? ⟨w.heap.size, 1, none⟩ = some (.int .i64 c) := fun y => (E2.out.alloc y).cell 1
  have e2 : ∀ y, ((w.alloc (.cells #[.bool m, .int .i64 c, .int .i64 (at_ : Int), .int .i64 (q : Int)] 170)).alloc y).cell? ⟨w.heap.size, 2, none⟩ = some (.int .i64 (at_ : Int)) := fun y => (E2.out.alloc y).cell 2
  have e3 : ∀ y, ((w.alloc (.cells #[.bool m, .int .i64 c, .int .i64 (at_ : Int), .int .i64 (q : Int)] 170)).alloc y).cell? ⟨w.heap.size, 3, none⟩ = some (.int .i64 (q : Int)) := fun y => (E2.out.alloc y).cell 3
  have HE := hid (fun (w3 : World) (a3 : Option Addr) (c3 : Nat) ob hW' hG hO => senter_end (W := w.alloc (.cells #[.bool m, .int .i64 c, .int .i64 (at_ : Int), .int .i64 (q : Int)] 170)) (w3 := w3) (a3 := a3) (c3 := c3) (x := ⟨m, c, at_, q⟩) (ob := ob) h hW hbel hW' hG hO); simp only [cnB] at HE; clear h hbel hA2 hb E2 hW hn; go_enter Tryz.func59, Tryz.ntmps59; go_wp2; generalize (w.alloc (.cells #[.bool m, .int .i64 c, .int .i64 (at_ : Int), .int .i64 (q : Int)] 170)) = W at *
  go_region_law (first
    | (refine step_append_win rfl _ _ _ rfl Tryz.underlying108 info_cn rfl rfl (WD _).out _ rfl 1 _ (src_new _ Tryz.underlying108 4 1 [.bool m, .int .i64 c, .int .i64 (at_ : Int), .int .i64 (q : Int)] 170 _ rfl (by simp [Value.oneCell']) (heap_alloc_new _ _)) (by unfold maxLen; omega) (by omega) ?_; intro v3 w3 hW3 hG3 hO3; obtain ⟨a3, c3, rfl, _, _⟩ := Win.slice_form hW3.out; have HP := hid (HE.out w3 a3 c3 _ hW3.out hG3.out hO3.out); have g0 := HP.out.1.1; have g1 := HP.out.1.2; clear hW3 hG3 hO3))
  all_goals
    go_wp2
    go_end0
    exact ⟨rfl, _, HP.out.2⟩
end
section
open Go.RowKit
open Go.Lib
def StG (w : World) (b lim : Nat) (vh vo : Value) : Gs → Prop
  | .bad => Sgb w b 10 0 (.slice none 0 0) 0 (.slice none 0 0) ∧ vh = .slice none 0 0 ∧ vo = .slice none 0 0
  | .live z H op => Sgb w b 0 lim vh z vo ∧ Win w 20 1 vh H.length (H.map valE) ∧ Win w 170 4 vo op.length (cnL op)
def errG : Gs → Nat
  | .bad => 10
  | .live _ _ _ => 0
def limG (lim : Nat) : Gs → Nat
  | .bad => 0
  | .live _ _ _ => lim
theorem StG.sgb {w : World} {b lim : Nat} {vh vo : Value} {s : Gs} (h : StG w b lim vh vo s) : Sgb w b (errG s) (limG lim s) vh (heldG s) vo := by
  cases s with
  | bad => obtain ⟨h, rfl, rfl⟩ := h; exact h
  | live z H op => exact h.1
theorem StG.rows {w : World} {b lim : Nat} {vh vo : Value} {s : Gs} (h : StG w b lim vh vo s) : ∃ n m xs ys, Win w 20 1 vh n xs ∧ Win w 170 4 vo m ys ∧ emptyG s = (decide (errG s = 0) && decide (n = 0)) := by
  cases s with
  | bad => obtain ⟨h, rfl, rfl⟩ := h; exact ⟨0, 0, [], [], Win.nil_ _ _ _, Win.nil_ _ _ _, rfl⟩
  | live z H op => exact ⟨_, _, _, _, h.2.1, h.2.2, by simp [emptyG, errG]⟩
theorem ghad_at {w : World} {b e lim z : Nat} {vh vo : Value} (h : Sgb w b e lim vh z vo) :
    Calls Tryz.prog 50 #[.pointer (some ⟨b, 0, none⟩)] w fun r w' => r = .returned (.int .i64 (e : Int)) ∧ w = w' := by
  have c0 := h.cell 0; have c1 := h.cell 1; clear h; go_enter Tryz.func50, Tryz.ntmps50; go_wp2; go_ret; exact ⟨rfl, rfl⟩
theorem gnew_any (lim : Int) (w : World) :
    Calls Tryz.prog 26 #[.int .i64 lim] w fun r w' => r = .returned (.pointer (some ⟨w.heap.size, 0, none⟩)) ∧ StG w' w.heap.size (min (max lim 0) 2000).toNat (.slice none 0 0) (.slice none 0 0) gs0 ∧ Below w.heap.size w w' := by
  have hl : ((min (max lim 0) 2000).toNat : Int) = min (max lim 0) 2000 := by omega
  have hF : ∀ W : World, Blk W w.heap.size #[.bool true, .int .i64 0, .int .i64 (min (max lim 0) 2000), .slice none 0 0, .int .i64 0, .slice none 0 0] 110 → StG W w.heap.size (min (max lim 0) 2000).toNat (.slice none 0 0) (.slice none 0 0) gs0 := fun W hB => by
    refine ⟨?_, Win.nil_ _ _ _, Win.nil_ _ _ _⟩; unfold Sgb; rw [hl]; exact hB
  have HF := hid hF; clear hF hl; generalize (min (max lim 0) 2000).toNat = L at *
  go_enter Tryz.func26, Tryz.ntmps26; go_wp2; go_ret; exact ⟨rfl, HF.out _ (blk_new _ _ _), up_alloc (Below.refl _ _) _⟩
theorem gsize_by (v : Value) (X : Ev) (hX : X.t.size ≤ 1000) (hP : ∀ w, Calls Tryz.prog 56 #[v] w fun r w' => r = .returned (.tuple #[evV X, .bool true]) ∧ Below w.heap.size w w') (w : World) :
    Calls Tryz.prog 51 #[v] w fun r w' => r = .returned (.int .i64 (1 + (X.t.size : Int))) ∧ Below w.heap.size w w' := by
  obtain ⟨k, y, m, t, c⟩ := X; have hX : (t.size : Int) ≤ 1000 := by exact Int.ofNat_le.2 hX
  have HP := hid hP; clear hP; go_enter Tryz.func51, Tryz.ntmps51; (go_wp2_with fail); refine (HP.out _).mono ?_; rintro e w1 ⟨rfl, hb⟩; have h1 := hid hb; clear hb; simp only [evV]; go_wp2; go_ret; exact ⟨rfl, up_alloc h1.out _⟩
theorem gsize_any (e : Ev) (he : mayE e) (ht : sizG e ≤ 1000) (w : World) :
    Calls Tryz.prog 51 #[valE e] w fun r w' => r = .returned (.int .i64 (sizG e : Int)) ∧ Below w.heap.size w w' := by
  have := gsize_by (valE e) (tidyE e) (by unfold sizG at ht; omega) (plain_any e he) w; simpa [sizG] using this
theorem gpasses_at {w : World} {b e lim z n : Nat} {vh : Value} {a : Option Addr} {cp : Nat} (h : Sgb w b e lim vh z (.slice a n cp)) (p : Ev) (hp : mayE p) :
    Calls Tryz.prog 52 #[.pointer (some ⟨b, 0, none⟩), valE p] w fun r w' => r = .returned (.bool (decide (n = 0 ∧ ¬ opnE p))) ∧ Below w.heap.size w w' := by
  have hA := as_begin p hp; have c5 := fun x => (h.alloc (w := w) x).cell 5
  obtain ⟨k, y, m, t, c⟩ := p; simp only [opnE] at *
  generalize valE ⟨k, y, m, t, c⟩ = V at *
  clear h hp; by_cases hk : k = 5 ∨ k = 6
  · rw [if_pos hk, decide_eq_true hk] at hA
    have e1 : (c == -1) = decide (c = -1) := by rw [Bool.eq_iff_iff, beq_iff_eq, decide_eq_true_eq]
    have e2 : ((n : Int) == 0) = decide (n = 0) := by rw [Bool.eq_iff_iff, beq_iff_eq, decide_eq_true_eq]; omega
    simp only [hk, true_and]; rw [Bool.decide_and, decide_not]; clear hk; generalize decide (k = 6) = K at *
    generalize decide (c = -1) = D at *
    generalize decide (n = 0) = N at *
    go_enter Tryz.func52, Tryz.ntmps52; cases N
    · go_wp2
      go_ret; exact ⟨by simp, up_alloc (Below.refl _ _) _⟩
    · go_wp2
      go_ret; exact ⟨by simp, up_alloc (Below.refl _ _) _⟩
  · rw [if_neg hk, decide_eq_false hk] at hA
    have e2 : ((n : Int) == 0) = decide (n = 0) := by rw [Bool.eq_iff_iff, beq_iff_eq, decide_eq_true_eq]; omega
    simp only [hk, false_and, not_false_eq_true, and_true]; clear hk; generalize decide (k = 6) = K at *
    generalize decide (n = 0) = N at *
    go_enter Tryz.func52, Tryz.ntmps52; cases N
    · go_wp2
      go_ret; exact ⟨by simp, up_alloc (Below.refl _ _) _⟩
    · go_wp2
      go_ret; exact ⟨by simp, up_alloc (Below.refl _ _) _⟩
theorem gfrees_at {w : World} {b e lim z n : Nat} {vh : Value} {a : Option Addr} {cp : Nat} (h : Sgb w b e lim vh z (.slice a n cp)) (p : Ev) (hp : mayE p) :
    Calls Tryz.prog 53 #[.pointer (some ⟨b, 0, none⟩), valE p] w fun r w' => r = .returned (.bool (decide (p.k = 7 ∧ n = 1))) ∧ Below w.heap.size w w' := by
  have hA := as_close p hp; have c5 := fun x => (h.alloc (w := w) x).cell 5
  obtain ⟨k, y, m, t, c⟩ := p; simp only at *
  generalize valE ⟨k, y, m, t, c⟩ = V at *
  have e2 : ((n : Int) == 1) = decide (n = 1) := by rw [Bool.eq_iff_iff, beq_iff_eq, decide_eq_true_eq]; omega
  rw [Bool.decide_and]; clear h hp; generalize decide (k = 7) = K at *
  generalize decide (n = 1) = N at *
  go_enter Tryz.func53, Tryz.ntmps53; cases K
  · go_wp2
    go_ret; exact ⟨by simp, up_alloc (Below.refl _ _) _⟩
  · go_wp2
    go_ret; exact ⟨by simp, up_alloc (Below.refl _ _) _⟩
end
section
open Go.RowKit
open Go.Lib
def BdAt (w : World) (B b : Nat) (G : List Nat) (l : List UInt8) : Prop :=
  ∃ p v, (p = .pointer none ∨ p = .pointer (some ⟨b, 0, none⟩)) ∧ Blk w b #[p, v] 72 ∧ B ≤ b ∧ w.ownsRowF B 5 1 v l.length (Lib.byteCells l) ∧ Win w 5 1 v l.length (Lib.byteCells l) ∧ v.ownBlock ≠ some b ∧ G = Value.owner v
theorem BdAt.isB {w : World} {B b : Nat} {G : List Nat} {l : List UInt8} (h : BdAt w B b G l) : IsB B b l w := by
  obtain ⟨p, v, hp, hb, hB, ho, _, hn, _⟩ := h; have : Lib.BuilderAtF 72 5 B b p (Lib.byteCells l) w := ⟨hB, v, hb, by rw [Lib.byteCells_length]; exact ho, hn⟩
  rcases hp with rfl | rfl
  · exact .inl this
  · exact .inr this
theorem BdAt.lt {w : World} {B b : Nat} {G : List Nat} {l : List UInt8} (h : BdAt w B b G l) : b < w.heap.size ∧ (∀ k ∈ G, k < w.heap.size ∧ B ≤ k ∧ k ≠ b) := by
  obtain ⟨p, v, hp, hb, hB, ho, hwn, hn, rfl⟩ := h; refine ⟨hb.lt, fun k hk => ?_⟩; have hk' := (ob_iff v k).2 hk; obtain ⟨h1, h2⟩ := ho.lt k hk'; exact ⟨h2, h1, fun e => hn (e ▸ hk')⟩
theorem BdAt.keep {w w' : World} {B b : Nat} {G : List Nat} {l : List UInt8} (h : BdAt w B b G l) (hk : ∀ k, k = b ∨ k ∈ G → w'.heap[k]? = w.heap[k]?) : BdAt w' B b G l := by
  obtain ⟨p, v, hp, hb, hB, ho, hwn, hn, rfl⟩ := h; refine ⟨p, v, hp, (hk b (.inl rfl)).trans hb, hB, ⟨ho.1, ?_⟩, hwn.keep fun k hk' => hk k (.inr hk'), hn, rfl⟩; rcases ho.2 with h0 | ⟨g, cap, cur, fz, hv, h1, h2, r⟩
  · exact .inl h0
  · exact .inr ⟨g, cap, cur, fz, hv, h1, (hk g (.inr (by rw [hv]; simp [Value.owner]))).trans h2, r⟩
theorem bd_new (w : World) : BdAt (w.alloc (.cells #[.pointer none, .slice none 0 0] 72)) w.heap.size w.heap.size [] [] :=
  ⟨_, _, .inl rfl, blk_new _ _ _, Nat.le_refl _, World.ownsRowF_nil _ _ _ _, Win.nil_ _ _ _, by simp [Value.ownBlock], rfl⟩
theorem bd_check {w : World} {b : Nat} {p v : Value} (hp : p = .pointer none ∨ p = .pointer (some ⟨b, 0, none⟩)) (hb : Blk w b #[p, v] 72) :
    Calls Tryz.prog 41 #[.pointer (some ⟨b, 0, none⟩)] w fun e w' => e = .returned (.tuple #[]) ∧ Blk w' b #[.pointer (some ⟨b, 0, none⟩), v] 72 ∧ Step [b] [b] w w' ∧ (∀ k, k ≠ b → w'.heap[k]? = w.heap[k]?) ∧ w'.heap.size = w.heap.size := by
  rcases hp with rfl | rfl
  · refine (Go.Proofs.Any.Builder_copyCheck_fresh { lays166 with } builder_Extra166.toX72 b w (hb.cell 0) (by unfold Blk at hb; simp [World.shape?, hb]; rfl) (hb.froz 0)).mono ?_
    rintro e w' ⟨rfl, rfl⟩; exact ⟨rfl, by have := hb.set 0 (.pointer (some ⟨b, 0, none⟩)); simpa using this, step_setCell _ _ _ _ (by simp), fun k hk => Below.heap_setCell w _ _ k hk, by simp⟩
  · refine (Go.Proofs.Any.Builder_copyCheck_used { lays166 with } builder_Extra166.toX72 b w (hb.cell 0)).mono ?_
    rintro e w' ⟨rfl, rfl⟩; exact ⟨rfl, hb, Step.refl _ _, fun _ _ => rfl, rfl⟩
theorem wpList_append_bd {P : Program} {w : World} {e t : TypeId} {v : Value} {n : Nat} {xs : List Value} {B : Nat} {ops : Array Oper} {rest : List Oper} {o : Oper} {a : Act} {Q : Exit → Act → World → Prop} (hgd : o.guard = none) (sl x : Operand) (tx : TypeId)
    (ho : o.op = .call { callee := .builtin .append, args := #[sl, x], argTypes := #[t, tx] }) (i : TypeInfo)
    (ht : P.underlying t = some (.slice e)) (hu : P.underlying tx = some .string) (hi : P.info? e = some i) (hz : i.zero = some (.int .u8 0)) (hsize : i.size = 1) (hby : i.bytes = 1)
    (hs : a.eval sl = v) (h : Win w e 1 v n xs) (hown : w.ownsRowF B e 1 v n xs) (s : ByteArray) (hx : a.eval x = .string s) (h63 : n + s.size ≤ maxLen) (hbytes : n + s.size ≤ 140737488355328) (hbase : B ≤ w.heap.size)
    (hk : ∀ v' w', Hid (Win w' e 1 v' (n + s.size) (xs ++ Lib.strCells s)) → Hid (w'.ownsRowF B e 1 v' (n + s.size) (xs ++ Lib.strCells s)) → Hid (w.grownBy w' v.ownBlock) → Hid (v'.ownBlock = v.ownBlock ∨ v'.ownBlock = some w.heap.size ∧ w.heap.size < w'.heap.size) → wpList P ops Q rest (a.put o.dst v') w') : wpList P ops Q (o :: rest) a w := by
  refine wpList_plain hgd fun K hK => ?_
  obtain ⟨v', w', hr, h2, h3, h4⟩ := h.append (ty := o.type) ht hi hz hsize rfl (by rfl) (.string s) s.size (Lib.strCells s) (by have := Src.ofString (P := P) (w := w) hu s; exact this) h63 (by rw [hby]; omega); obtain ⟨v2, w2, hr2, g2, _, _⟩ := run_append_own_stringF (P := P) w B t tx o.type e i ht hu hi hz hsize hby v n xs hown s h63 hbytes hbase; have e := hr.symm.trans hr2
  injection e with e1 e2
  subst e1 e2; unfold Oper.wp execOp; simp only [ho, resolve, invoke, builtin, Sem.run_bind, Sem.run_pure, Result.andThen_ok, List.map_toArray, List.map_cons, List.map_nil, hs, hx, hr]; exact hK _ _ (hk v' w' h2 g2 h3 h4)
theorem bd_write {w : World} {B b : Nat} {G : List Nat} {l : List UInt8} (h : BdAt w B b G l) (s : ByteArray) (hlen : l.length + s.size ≤ 140737488355328) (hBw : B ≤ w.heap.size) :
    Calls Tryz.prog 29 #[.pointer (some ⟨b, 0, none⟩), .string s] w fun e w' => e = .returned (.tuple #[.int .i64 s.size, .nilIface]) ∧ ∃ G', BdAt w' B b G' (l ++ s.data.toList) ∧ Step (b :: G) (b :: G') w w' ∧ Below B w w' := by
  obtain ⟨p, v, hp, hb, hB, ho, hwn, hn, rfl⟩ := h; obtain ⟨i0, hi, hz0, hz1, hz2⟩ := info_parts builder_Extra166.infoByte; have HC := hid (bd_check hp hb); have HL := hid hb.lt; have HO : Hid (∀ w1 : World, (∀ k : Nat, k ≠ b → w1.heap[k]? = w.heap[k]?) → w1.ownsRowF B 5 1 v l.length (Lib.byteCells l) ∧ Win w1 5 1 v l.length (Lib.byteCells l)) := hid (fun w1 hk => ⟨⟨ho.1, ho.2.imp id (fun ⟨g, cap, cur, fz, hv, h1, h2, r⟩ => ⟨g, cap, cur, fz, hv, h1, (hk g (fun e => hn (by rw [hv, e]; rfl))).trans h2, r⟩)⟩, hwn.keep fun k hk' => hk k (fun e => hn (by rw [← e]; exact (ob_iff v k).2 hk'))⟩); have HN := hid (And.intro hn hB); have HLO := hid (fun k hk => ho.lt k hk); clear hp hb ho hn hwn; go_enter Tryz.func29, Tryz.ntmps29; (go_wp2_with fail); refine HC.out.mono ?_; rintro e w1 ⟨rfl, b1, s1, k1, z1⟩; have c0 := b1.cell 0; have c1 := b1.cell 1; have f1 := b1.froz 1; have HB1 := hid b1; have HS1 := hid (And.intro s1 (And.intro k1 z1)); clear b1 s1 k1 z1 HC
  go_wp2_with (at_builtin; refine wpList_append_bd rfl _ _ 9 rfl i0 Tryz.underlying51 Tryz.underlying9 hi hz0 hz1 hz2 rfl (HO.out _ HS1.out.2.1).2 (HO.out _ HS1.out.2.1).1 s rfl ?c3 ?c4 ?c5 ?_)
  case c3 => unfold maxLen; omega
  case c4 => omega
  case c5 => have := HS1.out.2.2; omega
  intro v' w2 hwin hown hgrow hobl; have hn := HN.out.1; have hlt1 : b < w1.heap.size := by have := HL.out; have := HS1.out.2.2; omega
  have hb2 : Blk w2 b #[.pointer (some ⟨b, 0, none⟩), v] 72 := (hgrow.out.block b hlt1 (fun e => hn e.symm)).trans HB1.out; have d0 := hb2.cell 0; have d1 := hb2.cell 1; have g1 := hb2.froz 1; obtain ⟨a', cap, rfl, _, _⟩ := hwin.out.slice_form; have hne : (Value.slice a' (l.length + s.size) cap).ownBlock ≠ some b := fun e => hobl.out.elim (fun h => hn (h.symm.trans e)) (fun h => by
    have := h.1.symm.trans e; simp only [Option.some.injEq] at this; omega)
  have hfb : ∀ k, k ≠ b → (w2.setCell ⟨b, 1, none⟩ (.slice a' (l.length + s.size) cap)).heap[k]? = w2.heap[k]? := fun k hk => Below.heap_setCell w2 _ _ k hk
  have hbc : Lib.byteCells (l ++ s.data.toList) = Lib.byteCells l ++ Lib.strCells s := by rw [Lib.byteCells_append]; rfl
  have hln : (l ++ s.data.toList).length = l.length + s.size := by simp
  have hGv : ∀ k ∈ Value.owner v, B ≤ k ∧ k < w.heap.size := fun k hk => HLO.out k ((ob_iff v k).2 hk)
  have hst : Step (b :: Value.owner v) (b :: Value.owner (.slice a' (l.length + s.size) cap)) w (w2.setCell ⟨b, 1, none⟩ (.slice a' (l.length + s.size) cap)) := by
    refine ⟨hgrow.out.os.trans HS1.out.1.os, hgrow.out.tape.trans HS1.out.1.tape, hgrow.out.output.trans HS1.out.1.output, by have := hgrow.out.size; have := HS1.out.2.2; simp only [World.setCell, Array.size_modify]; omega, fun k hk hkn => ?_, fun k hk => ?_⟩
    · have hkb : k ≠ b := fun e => hkn (by simp [e])
      have hkv : some k ≠ v.ownBlock := fun e => hkn (by simp [(ob_iff v k).1 e.symm])
      rw [hfb k hkb, hgrow.out.block k (by have := HS1.out.2.2; omega) hkv, HS1.out.2.1 k hkb]
    · rcases List.mem_cons.1 hk with rfl | hk
      · exact .inl (by simp)
      · have hk' := (ob_iff _ k).2 hk
        rcases hobl.out with h | h
        · rw [hk'] at h
          exact .inl (by simp [(ob_iff v k).1 h.symm])
        · have := h.1.symm.trans hk'
          simp only [Option.some.injEq] at this; exact .inr (by have := HS1.out.2.2; omega)
  have hbd : BdAt (w2.setCell ⟨b, 1, none⟩ (.slice a' (l.length + s.size) cap)) B b (Value.owner (.slice a' (l.length + s.size) cap)) (l ++ s.data.toList) := by
    refine ⟨_, _, .inr rfl, by have := hb2.set 1 (.slice a' (l.length + s.size) cap); simpa using this, HN.out.2, ?_, ?_, hne, rfl⟩
    · rw [hbc, hln]
      exact ⟨hown.out.1, hown.out.2.imp id (fun ⟨g, c2, cur, fz, hv, h1, h2, r⟩ => ⟨g, c2, cur, fz, hv, h1, (hfb g (fun e => hne (by rw [hv, e]; rfl))).trans h2, r⟩)⟩
    · rw [hbc, hln]
      exact hwin.out.keep fun k hk => hfb k (fun e => hne (by rw [← e]; exact (ob_iff _ k).2 hk))
  have HF : Hid (BdAt (w2.setCell ⟨b, 1, none⟩ (.slice a' (l.length + s.size) cap)) B b (Value.owner (.slice a' (l.length + s.size) cap)) (l ++ s.data.toList) ∧ Step (b :: Value.owner v) (b :: Value.owner (.slice a' (l.length + s.size) cap)) w (w2.setCell ⟨b, 1, none⟩ (.slice a' (l.length + s.size) cap)) ∧ Below B w (w2.setCell ⟨b, 1, none⟩ (.slice a' (l.length + s.size) cap))) := hid ⟨hbd, hst, hst.below (fun k hk => (List.mem_cons.1 hk).elim (fun e => e ▸ HN.out.2) (fun hk => (hGv k hk).1)) hBw⟩; clear hwin hown hgrow hobl hb2 hn hne hfb hbc hln hGv hst hbd hlt1; go_wp2; go_ret2; exact ⟨rfl, _, HF.out⟩
end
section
open Go.Lib
def dgX (n u t : Nat) : UInt8 := if t = 0 ∧ n % 2 = 1 then UInt8.ofNat (48 + u / 10 ^ (n - 1)) else dg u (n - 1 - t)
def fmtL (n u : Nat) : List UInt8 := (List.range n).map (dgX n u)
theorem fmtL_len (n u : Nat) : (fmtL n u).length = n := by simp [fmtL]
structure FmtY (n u nd v : Nat) (d : Array UInt8) : Prop where
  size : d.size = n
  le : nd ≤ n
  par : nd % 2 = n % 2
  rest : v = u / 10 ^ (n - nd)
  small : v < 10 ^ (nd + 1)
  done : ∀ t, nd ≤ t → t < n → d[t]! = dgX n u t
theorem FmtY.start (d : Array UInt8) (u : Nat) (h : u < 10 ^ (d.size + 1)) : FmtY d.size u d.size u d :=
  ⟨rfl, Nat.le_refl _, rfl, by simp, h, fun t h1 h2 => by omega⟩
theorem FmtY.two {n u k v : Nat} {d : Array UInt8} (h : FmtY n u (k + 2) v d) : FmtY n u k (v / 100) ((d.setIfInBounds (k + 1) (sm (v % 100 * 2 + 1))).setIfInBounds k (sm (v % 100 * 2))) := by
  have hle := h.le; have hp : v % 100 < 100 := Nat.mod_lt _ (by decide); refine ⟨by simp [h.size], by omega, by have := h.par; omega, ?_, ?_, fun t h1 h3 => ?_⟩
  · rw [h.rest, Nat.div_div_eq_div_mul, show n - k = n - (k + 2) + 2 by omega, Nat.pow_add]
  · have hs := h.small
    rw [show k + 2 + 1 = (k + 1) + 2 by omega, Nat.pow_add] at hs; exact Nat.div_lt_of_lt_mul (by rw [Nat.mul_comm]; exact hs)
  · have hx : ¬ (t = 0 ∧ n % 2 = 1) ∨ k + 2 ≤ t := by
      have := h.par; omega
    by_cases e2 : t = k
    · rw [e2, get_set_same _ _ _ (by simp [h.size]; omega), sm_hi _ hp]
      unfold dgX dg; rw [if_neg (by have := h.par; omega), show n - 1 - k = n - (k + 2) + 1 by omega, Nat.pow_succ, ← Nat.div_div_eq_div_mul, ← h.rest]; congr 2; omega
    · rw [get_set_other _ _ _ _ e2]
      by_cases e1 : t = k + 1
      · rw [e1, get_set_same _ _ _ (by rw [h.size]; omega), sm_lo _ hp]
        unfold dgX dg; rw [if_neg (by omega), show n - 1 - (k + 1) = n - (k + 2) by omega, ← h.rest]; congr 2; omega
      · rw [get_set_other _ _ _ _ e1]
        exact h.done t (by omega) h3
theorem FmtY.last {n u v : Nat} {d : Array UInt8} (h : FmtY n u 1 v d) : ∀ t, t < n → (d.setIfInBounds 0 (UInt8.ofNat (48 + v)))[t]! = dgX n u t := fun t h3 => by
  have hle := h.le; by_cases e0 : t = 0
  · rw [e0, get_set_same _ _ _ (by rw [h.size]; omega)]
    unfold dgX; rw [if_pos ⟨rfl, by have := h.par; omega⟩, ← h.rest]
  · rw [get_set_other _ _ _ _ e0]
    exact h.done t (by omega) h3
theorem FmtY.lt7 {n u nd v : Nat} {d : Array UInt8} (h : FmtY n u nd v d) (h8 : nd < 8) : v < 100000000 :=
  Nat.lt_of_lt_of_le h.small (by have := Nat.pow_le_pow_right (n := 10) (by decide) (show nd + 1 ≤ 8 by omega); simpa using this)
def nd0X (u : Nat) : Nat := bitLen u * 78913 / 262144
def ndX (X : Nat → Nat) (u : Nat) : Nat := nd0X u + if X (nd0X u) ≤ u then 1 else 0
end
end Go.Proofs.YtkgconbdmnmbnaaGreat
