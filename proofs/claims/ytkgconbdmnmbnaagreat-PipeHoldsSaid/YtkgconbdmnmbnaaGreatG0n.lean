/-
  Parts: JoX, CoutPure, PinBack, PoutPure, StgPure, CoA, CoB, CoC.
-/
import Derived.Test.YtkgconbdmnmbnaaGreatG0m
import Derived.Test.YtkgconbdmnmbnaaGreatG0h
import Derived.Test.YtkgconbdmnmbnaaGreatG0a
import Derived.Test.YtkgconbdmnmbnaaGreatG0b
import Derived.Test.YtkgconbdmnmbnaaGreatG0l
import Derived.Deep.QuietTactic
import Derived.Deep.RegionWith
set_option maxRecDepth 100000
set_option maxHeartbeats 16000000
open Go.Lib (hid)
namespace Go.Proofs.YtkgconbdmnmbnaaGreat
section
open Go.RowKit
open Go.Lib
def outBx (pr : Bool → Nat → List UInt8) (e : Ev) : List UInt8 := if e.k = 2 then pr e.y e.m else outB e
def stepOx (pr : Bool → Nat → List UInt8) (o : Os) (e : Ev) : (List UInt8 × Nat) × Os :=
  if ¬ mayE e ∨ o.dn = true then (([], 14), o)
  else if e.k = 7 then
    match o.s with
    | [] => (([], 14), o)
    | b :: r => if b.map = true ∧ b.have_ % 2 = 1 then (([], 14), o) else (([if b.map = true then 125 else 93], 0), ⟨r, r.isEmpty⟩)
  else if keyB o.s = true ∧ e.k ≠ 3 then (([], 8), o)
  else if e.k = 5 ∨ e.k = 6 then ((sepW o.s ++ [if e.k = 6 then 123 else 91], 0), ⟨⟨decide (e.k = 6), e.c, 0⟩ :: incB o.s, false⟩)
  else ((sepW o.s ++ outBx pr e, 0), ⟨incB o.s, o.s.isEmpty⟩)
theorem stepOx_bad (pr : Bool → Nat → List UInt8) (o : Os) (e : Ev) (h : ¬ mayE e ∨ o.dn = true) : stepOx pr o e = (([], 14), o) := if_pos h
theorem stepOx_end (pr : Bool → Nat → List UInt8) {b : Bx} {r : List Bx} {e : Ev} (hm : mayE e) (h7 : e.k = 7) (h : ¬ (b.map = true ∧ b.have_ % 2 = 1)) : stepOx pr ⟨b :: r, false⟩ e = (([if b.map = true then 125 else 93], 0), ⟨r, r.isEmpty⟩) := by
  unfold stepOx; rw [if_neg (by simp [hm]), if_pos h7]; simp only; rw [if_neg h]
theorem stepOx_odd (pr : Bool → Nat → List UInt8) {b : Bx} {r : List Bx} {e : Ev} (hm : mayE e) (h7 : e.k = 7) (h : b.map = true ∧ b.have_ % 2 = 1) : stepOx pr ⟨b :: r, false⟩ e = (([], 14), ⟨b :: r, false⟩) := by
  unfold stepOx; rw [if_neg (by simp [hm]), if_pos h7]; simp only; rw [if_pos h]
theorem stepOx_none (pr : Bool → Nat → List UInt8) {e : Ev} (hm : mayE e) (h7 : e.k = 7) : stepOx pr ⟨[], false⟩ e = (([], 14), ⟨[], false⟩) := by
  unfold stepOx; rw [if_neg (by simp [hm]), if_pos h7]
theorem stepOx_key (pr : Bool → Nat → List UInt8) {s : List Bx} {e : Ev} (hm : mayE e) (h7 : e.k ≠ 7) (hk : keyB s = true) (h3 : e.k ≠ 3) : stepOx pr ⟨s, false⟩ e = (([], 8), ⟨s, false⟩) := by
  unfold stepOx; rw [if_neg (by simp [hm]), if_neg h7, if_pos ⟨hk, h3⟩]
theorem stepOx_open (pr : Bool → Nat → List UInt8) {s : List Bx} {e : Ev} (hm : mayE e) (h56 : e.k = 5 ∨ e.k = 6) (hk : keyB s = false) : stepOx pr ⟨s, false⟩ e = ((sepW s ++ [if e.k = 6 then 123 else 91], 0), ⟨⟨decide (e.k = 6), e.c, 0⟩ :: incB s, false⟩) := by
  unfold stepOx; rw [if_neg (by simp [hm]), if_neg (by omega), if_neg (by simp [hk]), if_pos h56]
theorem stepOx_val (pr : Bool → Nat → List UInt8) {s : List Bx} {e : Ev} (hm : mayE e) (h7 : e.k ≠ 7) (h56 : ¬ (e.k = 5 ∨ e.k = 6)) (hk : ¬ (keyB s = true ∧ e.k ≠ 3)) : stepOx pr ⟨s, false⟩ e = ((sepW s ++ outBx pr e, 0), ⟨incB s, s.isEmpty⟩) := by
  unfold stepOx; rw [if_neg (by simp [hm]), if_neg h7, if_neg hk, if_neg h56]
theorem xstep_len (pr : Bool → Nat → List UInt8) (q : Os) (e : Ev) : (stepOx pr q e).2.s.length ≤ q.s.length + 1 := by
  have hi : (incB q.s).length = q.s.length := by cases q.s <;> rfl
  unfold stepOx; split
  · simp
  · split
    · split
      · simp
      · split
        · simp
        · simp_all; omega
    · split
      · simp
      · split
        · simp [hi]
        · simp [hi]
theorem xstep_size {pr : Bool → Nat → List UInt8} (hpr : ∀ y m, (pr y m).length ≤ 100) (q : Os) (e : Ev) (hm : mayE e) (hmag : e.m < 18446744073709551616) (ht : e.t.size ≤ 1000) : (stepOx pr q e).1.1.length ≤ 100001 := by
  have hs : (sepW q.s).length ≤ 1 := by
    unfold sepW
    repeat' split
    all_goals simp
  unfold stepOx; split
  · simp
  · split
    · split
      · simp
      · split <;> simp
    · rename_i h7
      split
      · simp
      · split
        · simp; omega
        · rename_i h56
          have hk5 : e.k = 0 ∨ e.k = 1 ∨ e.k = 2 ∨ e.k = 3 ∨ e.k = 4 := by
            have := kind8 hm; omega
          have : (outBx pr e).length ≤ 100000 := by
            unfold outBx; split
            · have := hpr e.y e.m
              omega
            · exact outB_length e hk5 hmag ht
          simp only [List.length_append]; omega
structure PrintC (w0 : World) (pr : Bool → Nat → List UInt8) : Prop where
  call : ∀ (y : Bool) (m : Nat), m < 18446744073709551616 → ∀ w, Below w0.heap.size w0 w → Calls Tryz.prog 217 #[.agg #[.bool y, .int .u64 m]] w fun e w' => e = .returned (.string ⟨(pr y m).toArray⟩) ∧ Below w.heap.size w w'
  size : ∀ y m, (pr y m).length ≤ 100
theorem text_x {w0 : World} {pr : Bool → Nat → List UInt8} (hPr : PrintC w0 pr) (e : Ev) (hk : e.k = 0 ∨ e.k = 1 ∨ e.k = 2 ∨ e.k = 3 ∨ e.k = 4) (hm : e.m < 18446744073709551616) (ht : e.t.size ≤ 1000) (w : World) (hT : Below w0.heap.size w0 w) :
    Calls Tryz.prog 214 #[valE e] w fun r w' => r = .returned (.string ⟨(outBx pr e).toArray⟩) ∧ Below w.heap.size w w' := by
  have n0 := nil_not; have n1 := nil_is; have a1 := is_bool; have a2 := is_whole; have a3 := is_word; have a4 := is_blob; have b1 := fun d h => not_bool d h
  have b2 := fun d h => not_whole d h
  have b3 := fun d h => not_word d h
  have b4 := fun d h => not_blob d h
  have hB := hid (Below.refl w.heap.size w); obtain ⟨k, y, m, t, c⟩ := e; simp only at hk hm ht; rcases hk with rfl | rfl | rfl | rfl | rfl
  · have ho : outBx pr ⟨0, y, m, t, c⟩ = [110, 117, 108, 108] := by simp [outBx, outB, outW]
    rw [ho]; have p1 : ∀ W, (Instr.typeAssert .nilIface 20 4 true).run Tryz.prog W = .ok (.tuple #[.bool false, .bool false]) W := fun W => by kernel_rfl
    have p2 : ∀ W, (Instr.typeAssert .nilIface 20 123 true).run Tryz.prog W = .ok (.tuple #[.agg #[.bool false, .int .u64 0], .bool false]) W := fun W => by kernel_rfl
    have p3 : ∀ W, (Instr.typeAssert .nilIface 20 176 true).run Tryz.prog W = .ok (.tuple #[.string ⟨#[]⟩, .bool false]) W := fun W => by kernel_rfl
    have p4 : ∀ W, (Instr.typeAssert .nilIface 20 178 true).run Tryz.prog W = .ok (.tuple #[.string ⟨#[]⟩, .bool false]) W := fun W => by kernel_rfl
    clear ho hT hm ht; simp only [valE]; go_enter Tryz.func214, Tryz.ntmps214; go_wp2; go_ret; exact ⟨rfl, by repeat (first | exact Below.refl _ _ | refine up_alloc ?_ _)⟩
  · cases y with
    | true =>
      have ho : outBx pr ⟨1, true, m, t, c⟩ = [116, 114, 117, 101] := by simp [outBx, outB, outW]
      rw [ho]; clear ho hT hm ht; simp only [valE]; go_enter Tryz.func214, Tryz.ntmps214; go_wp2; go_ret; exact ⟨rfl, hB.out⟩
    | false =>
      have ho : outBx pr ⟨1, false, m, t, c⟩ = [102, 97, 108, 115, 101] := by simp [outBx, outB, outW]
      rw [ho]; clear ho hT hm ht; simp only [valE]; go_enter Tryz.func214, Tryz.ntmps214; go_wp2; go_ret; exact ⟨rfl, hB.out⟩
  · have ho : outBx pr ⟨2, y, m, t, c⟩ = pr y m := by simp [outBx]
    rw [ho]; have HP : Hid (∀ x, Calls Tryz.prog 217 #[.agg #[.bool y, .int .u64 m]] (w.alloc x) fun e w' => e = .returned (.string ⟨(pr y m).toArray⟩) ∧ Below (w.alloc x).heap.size (w.alloc x) w') := hid (fun x => hPr.call y m hm _ (up_alloc hT x)); generalize (⟨(pr y m).toArray⟩ : ByteArray) = Z at *
    clear ho hT ht; simp only [valE]; go_enter Tryz.func214, Tryz.ntmps214; (go_wp2_with fail); refine (HP.out _).mono ?_; rintro r w1 ⟨rfl, hb⟩; have HB1 := hid (up_trans (up_alloc hB.out _) hb); clear hb; go_wp2; go_ret; exact ⟨rfl, HB1.out⟩
  · have ho : outBx pr ⟨3, y, m, t, c⟩ = 34 :: escW t.data.toList ++ [34] := by simp [outBx, outB, outW]
    rw [ho, ← quote_of]; have hWr : Hid (∀ W, Calls Tryz.prog 219 #[.string t] W fun e w' => e = .returned (.string ⟨(escW t.data.toList).toArray⟩) ∧ Below W.heap.size W w') := hid (fun W => write_any t W (by omega)); have hXs : (⟨(escW t.data.toList).toArray⟩ : ByteArray).size ≤ 10000000 := by
      rw [size_of]; have h1 := escW_len t.data.toList; rw [size_list] at h1; omega
    generalize (⟨(escW t.data.toList).toArray⟩ : ByteArray) = X at *
    have HQ := hid (fun W => quotedO X hXs W); clear ho hXs hT; simp only [valE]; go_enter Tryz.func214, Tryz.ntmps214; (go_wp2_with fail); refine (hWr.out _).mono ?_; rintro r w1 ⟨rfl, hb⟩; have HB1 := hid (up_trans (up_alloc hB.out _) hb); clear hb; (go_wp2_with fail); refine (HQ.out _).mono ?_; rintro r w2 ⟨rfl, rfl⟩; go_wp2; go_ret; exact ⟨rfl, HB1.out⟩
  · have ho : outBx pr ⟨4, y, m, t, c⟩ = 34 :: putS t.data.toList ++ [34] := by simp [outBx, outB]
    rw [ho, ← quote_of]; have hWr : Hid (∀ W, Calls Tryz.prog 220 #[.string t] W fun e w' => e = .returned (.string ⟨(putS t.data.toList).toArray⟩) ∧ Below W.heap.size W w') := hid (fun W => bput_any t W (by omega)); have hXs : (⟨(putS t.data.toList).toArray⟩ : ByteArray).size ≤ 10000000 := by
      rw [size_of]; have h1 := putS_length t.data.toList; rw [size_list] at h1; omega
    generalize (⟨(putS t.data.toList).toArray⟩ : ByteArray) = X at *
    have HQ := hid (fun W => quotedO X hXs W); clear ho hXs hT; simp only [valE]; go_enter Tryz.func214, Tryz.ntmps214; (go_wp2_with fail); refine (hWr.out _).mono ?_; rintro r w1 ⟨rfl, hb⟩; have HB1 := hid (up_trans (up_alloc hB.out _) hb); clear hb; (go_wp2_with fail); refine (HQ.out _).mono ?_; rintro r w2 ⟨rfl, rfl⟩; go_wp2; go_ret; exact ⟨rfl, HB1.out⟩
theorem stepOx_err (pr : Bool → Nat → List UInt8) (o : Os) (e : Ev) : (stepOx pr o e).1.2 = (stepO o e).1.2 := by
  unfold stepOx stepO; by_cases h1 : ¬ mayE e ∨ o.dn = true
  · rw [if_pos h1, if_pos h1]
  · rw [if_neg h1, if_neg h1]
    by_cases h7 : e.k = 7
    · rw [if_pos h7, if_pos h7]
      obtain ⟨s, dn⟩ := o; cases s <;> rfl
    · rw [if_neg h7, if_neg h7]
      repeat' split
      all_goals rfl
theorem outx_size {w0 : World} {pr : Bool → Nat → List UInt8} (hPr : PrintC w0 pr) (e : Ev) (hk : e.k = 0 ∨ e.k = 1 ∨ e.k = 2 ∨ e.k = 3 ∨ e.k = 4) (hm : e.m < 18446744073709551616) (ht : e.t.size ≤ 1000) : (⟨(outBx pr e).toArray⟩ : ByteArray).size ≤ 100000 := by
  rw [size_of]; unfold outBx; split
  · have := hPr.size e.y e.m
    omega
  · exact outB_length e hk hm ht
theorem jx_step {pr : Bool → Nat → List UInt8} {w : World} {b o : Nat} {F : List Nat} {q : Os} (h : JAt w b o F q) (hs : q.s.length ≤ 900) (e : Ev) (hm : mayE e) (hmag : e.m < 18446744073709551616) (ht : e.t.size ≤ 1000) {w0 : World} (hT : PrintC w0 pr) (lo : w0.heap.size ≤ b) (row : ∀ k ∈ F, w0.heap.size ≤ k) (bel : Below w0.heap.size w0 w) :
    Calls Tryz.prog 206 #[.pointer (some ⟨b, o, none⟩), valE e] w fun r w' => r = .returned (.tuple #[.string ⟨(stepOx pr q e).1.1.toArray⟩, .int .i64 ((stepOx pr q e).1.2 : Nat)]) ∧ ∃ F', JAt w' b o F' (stepOx pr q e).2 ∧ Jf b o F F' w w' := by
  have hR := refusesO h (by omega) e hm; rw [← stepOx_err pr q e] at hR; have bad : ∀ n : Nat, (n = 14 ∨ n = 8) → stepOx pr q e = (([], n), q) → Calls Tryz.prog 206 #[.pointer (some ⟨b, o, none⟩), valE e] w fun r w' => r = .returned (.tuple #[.string ⟨(stepOx pr q e).1.1.toArray⟩, .int .i64 ((stepOx pr q e).1.2 : Nat)]) ∧ ∃ F', JAt w' b o F' (stepOx pr q e).2 ∧ Jf b o F F' w w' := by
    intro n hn hq; rw [hq] at hR ⊢; refine (jo_err h (valE e) n hn hR).mono ?_; rintro r w' ⟨h1, h2, h3⟩; exact ⟨h1, F, h2, h3⟩
  have hC := as_close e hm; have hB := as_begin e hm; have hf := h.fin; obtain ⟨s, dn⟩ := q; simp only at hs; cases dn with
  | true => exact bad 14 (.inl rfl) (stepOx_bad pr ⟨s, true⟩ e (.inr rfl))
  | false =>
    by_cases h7 : e.k = 7
    · cases s with
      | nil => exact bad 14 (.inl rfl) (stepOx_none pr hm h7)
      | cons x r =>
        by_cases ho : x.map = true ∧ x.have_ % 2 = 1
        · exact bad 14 (.inl rfl) (stepOx_odd pr hm h7 ho)
        · rw [stepOx_end pr hm h7 ho] at hR ⊢
          rw [decide_eq_true h7] at hC; refine jo_ok h (valE e) _ _ hR (fun W k => ?_); refine (write_end (h.go k) (by simp only [List.length_cons] at hs; omega) (valE e) hC).mono ?_; rintro q w' ⟨h1, h2, h3⟩; exact ⟨h1, F, h2, h3⟩
    · rw [decide_eq_false h7] at hC
      by_cases hk : keyB s = true ∧ e.k ≠ 3
      · exact bad 8 (.inr rfl) (stepOx_key pr hm h7 hk.1 hk.2)
      · by_cases h56 : e.k = 5 ∨ e.k = 6
        · have hkf : keyB s = false := by
            cases hq : keyB s with
            | false => rfl
            | true => exact absurd ⟨hq, by omega⟩ hk
          rw [decide_eq_true h56, if_pos h56] at hB; rw [stepOx_open pr hm h56 hkf] at hR ⊢; refine jo_ok h (valE e) _ _ hR (fun W k => ?_); refine (write_open (h.go k) rfl (by show s.length ≤ 1000; omega) hkf (valE e) (decide (e.k = 6)) e.c hC hB).mono ?_; rintro q w' ⟨h1, F', h2, h3⟩; refine ⟨?_, F', h2, h3⟩; rw [h1, ← cat_of]; by_cases h6 : e.k = 6
          · rw [decide_eq_true h6, if_pos rfl, if_pos h6]
          · rw [decide_eq_false h6, if_neg (by simp), if_neg h6]
        · rw [decide_eq_false h56, if_neg h56, decide_eq_false (by omega : ¬ e.k = 6)] at hB
          have hk5 : e.k = 0 ∨ e.k = 1 ∨ e.k = 2 ∨ e.k = 3 ∨ e.k = 4 := by
            have := kind8 hm; omega
          rw [stepOx_val pr hm h7 h56 hk] at hR ⊢; refine jo_ok h (valE e) _ _ hR (fun W k => ?_); have hX : ∀ W', Below W.heap.size W W' ∨ Jf b o F F W W' → Calls Tryz.prog 214 #[valE e] W' fun r w' => r = .returned (.string ⟨(outBx pr e).toArray⟩) ∧ Below W'.heap.size W' w' := by
            intro W' hW'; refine text_x hT e hk5 hmag ht W' ?_; have k0 : Below w0.heap.size w0 W := bel.trans (k.mono bel.size); refine k0.trans ?_; rcases hW' with hW' | hW'
            · exact hW'.mono k0.size
            · exact hW'.below lo row k0.size
          refine (write_val (h.go k) (by omega) (valE e) _ (outx_size hT e hk5 hmag ht) hC hB hX).mono ?_; rintro q w' ⟨h1, h2, h3⟩; refine ⟨?_, F, h2, h3⟩; rw [h1, cat_of]
theorem jwx_step {pr : Bool → Nat → List UInt8} {w0 w : World} {b : Nat} {F : List Nat} {q : Os} (h : JW w0 w b F q) (hT : PrintC w0 pr) (hs : q.s.length ≤ 900) (e : Ev) (hm : mayE e) (hmag : e.m < 18446744073709551616) (ht : e.t.size ≤ 1000) :
    Calls Tryz.prog 206 #[.pointer (some ⟨b, 0, none⟩), valE e] w fun r w' => r = .returned (.tuple #[.string ⟨(stepOx pr q e).1.1.toArray⟩, .int .i64 ((stepOx pr q e).1.2 : Nat)]) ∧ ∃ F', JW w0 w' b F' (stepOx pr q e).2 ∧ Jf b 0 F F' w w' := by
  refine (jx_step h.at_ hs e hm hmag ht hT h.lo h.row h.bel).mono ?_; rintro r w' ⟨h1, F', h2, h3⟩; exact ⟨h1, F', h.next h2 h3, h3⟩
end
section
open Go.Lib
structure Kq where
  s : List Bx
  dn : Bool
def fulT : List Bx → Bool
  | [] => false
  | b :: _ => decide (0 ≤ b.c ∧ (if b.map = true then 2 * b.c else b.c) ≤ (b.have_ : Int))
def stepQ (o : Kq) (e : Ev) : (List UInt8 × Nat) × Kq :=
  if ¬ mayE e ∨ o.dn = true then (([], 14), o)
  else if e.k = 7 then
    match o.s with
    | [] => (([], 14), o)
    | b :: r => if shutB b then (([], 14), o) else ((writeK (b :: r) e, 0), ⟨r, r.isEmpty⟩)
  else if fulT o.s = true then (([], 14), o)
  else if keyB o.s = true ∧ e.k ≠ 3 then (([], 8), o)
  else if e.k = 5 ∨ e.k = 6 then ((writeK o.s e, 0), ⟨⟨decide (e.k = 6), e.c, 0⟩ :: incB o.s, false⟩)
  else ((writeK o.s e, 0), ⟨incB o.s, o.s.isEmpty⟩)
theorem stepQ_bad (o : Kq) (e : Ev) (h : ¬ mayE e ∨ o.dn = true) : stepQ o e = (([], 14), o) := if_pos h
theorem stepQ_end {b : Bx} {r : List Bx} {e : Ev} (hm : mayE e) (h7 : e.k = 7) (h : ¬ shutB b) : stepQ ⟨b :: r, false⟩ e = ((writeK (b :: r) e, 0), ⟨r, r.isEmpty⟩) := by
  unfold stepQ; rw [if_neg (by simp [hm]), if_pos h7]; simp only; rw [if_neg h]
theorem stepQ_shut {b : Bx} {r : List Bx} {e : Ev} (hm : mayE e) (h7 : e.k = 7) (h : shutB b) : stepQ ⟨b :: r, false⟩ e = (([], 14), ⟨b :: r, false⟩) := by
  unfold stepQ; rw [if_neg (by simp [hm]), if_pos h7]; simp only; rw [if_pos h]
theorem stepQ_none {e : Ev} (hm : mayE e) (h7 : e.k = 7) : stepQ ⟨[], false⟩ e = (([], 14), ⟨[], false⟩) := by
  unfold stepQ; rw [if_neg (by simp [hm]), if_pos h7]
theorem stepQ_full {s : List Bx} {e : Ev} (hm : mayE e) (h7 : e.k ≠ 7) (hf : fulT s = true) : stepQ ⟨s, false⟩ e = (([], 14), ⟨s, false⟩) := by
  unfold stepQ; rw [if_neg (by simp [hm]), if_neg h7, if_pos hf]
theorem stepQ_key {s : List Bx} {e : Ev} (hm : mayE e) (h7 : e.k ≠ 7) (hf : fulT s = false) (hk : keyB s = true) (h3 : e.k ≠ 3) : stepQ ⟨s, false⟩ e = (([], 8), ⟨s, false⟩) := by
  unfold stepQ; rw [if_neg (by simp [hm]), if_neg h7, if_neg (by simp [hf]), if_pos ⟨hk, h3⟩]
theorem stepQ_open {s : List Bx} {e : Ev} (hm : mayE e) (h56 : e.k = 5 ∨ e.k = 6) (hf : fulT s = false) (hk : keyB s = false) : stepQ ⟨s, false⟩ e = ((writeK s e, 0), ⟨⟨decide (e.k = 6), e.c, 0⟩ :: incB s, false⟩) := by
  unfold stepQ; rw [if_neg (by simp [hm]), if_neg (by omega), if_neg (by simp [hf]), if_neg (by simp [hk]), if_pos h56]
theorem stepQ_val {s : List Bx} {e : Ev} (hm : mayE e) (h7 : e.k ≠ 7) (h56 : ¬ (e.k = 5 ∨ e.k = 6)) (hf : fulT s = false) (hk : ¬ (keyB s = true ∧ e.k ≠ 3)) : stepQ ⟨s, false⟩ e = ((writeK s e, 0), ⟨incB s, s.isEmpty⟩) := by
  unfold stepQ; rw [if_neg (by simp [hm]), if_neg h7, if_neg (by simp [hf]), if_neg hk, if_neg h56]
end
section
open Go.Lib
def lenBs (one two four v : Nat) : List UInt8 :=
  if one ≠ 0 ∧ v < 256 then UInt8.ofNat one :: bigB 1 v else if v < 65536 then UInt8.ofNat two :: bigB 2 v else UInt8.ofNat four :: bigB 4 v
def intPk (y : Bool) (v : Nat) : List UInt8 :=
  if y = false then (if v < 128 then [UInt8.ofNat v] else if v < 256 then UInt8.ofNat 204 :: bigB 1 v else if v < 65536 then UInt8.ofNat 205 :: bigB 2 v else if v < 4294967296 then UInt8.ofNat 206 :: bigB 4 v else UInt8.ofNat 207 :: bigB 8 v)
  else if v < 32 then [UInt8.ofNat (255 - v)]
  else if v < 128 then UInt8.ofNat 208 :: bigB 1 (18446744073709551615 - v) else if v < 32768 then UInt8.ofNat 209 :: bigB 2 (18446744073709551615 - v) else if v < 2147483648 then UInt8.ofNat 210 :: bigB 4 (18446744073709551615 - v) else UInt8.ofNat 211 :: bigB 8 (18446744073709551615 - v)
def txPk (m : Bool) (n : Nat) : List UInt8 := if m = true then (if n < 32 then [UInt8.ofNat (160 + n)] else lenBs 217 218 219 n) else lenBs 196 197 198 n
def cntPk (m : Bool) (n : Nat) : List UInt8 := if m = true then (if n < 16 then [UInt8.ofNat (128 + n)] else lenBs 0 222 223 n) else (if n < 16 then [UInt8.ofNat (144 + n)] else lenBs 0 220 221 n)
def writeP (e : Ev) : List UInt8 :=
  if e.k = 7 then []
  else if e.k = 0 then [192]
  else if e.k = 1 then [if e.y = true then 195 else 194]
  else if e.k = 2 then intPk e.y e.m
  else if e.k = 3 ∨ e.k = 4 then txPk (decide (e.k = 3)) e.t.data.toList.length ++ e.t.data.toList
  else cntPk (decide (e.k = 6)) e.c.toNat
def rangeP (e : Ev) : Prop := e.k = 2 ∧ e.y = true ∧ 9223372036854775808 ≤ e.m ∨ (e.k = 5 ∨ e.k = 6) ∧ (e.c < 0 ∨ 4294967295 < e.c)
end
section
open Go.Lib
instance (e : Ev) : Decidable (rangeP e) := by unfold rangeP; infer_instance
def stepR (o : Kq) (e : Ev) : (List UInt8 × Nat) × Kq :=
  if ¬ mayE e ∨ o.dn = true then (([], 14), o)
  else if e.k = 7 then
    match o.s with
    | [] => (([], 14), o)
    | b :: r => if shutB b then (([], 14), o) else (([], 0), ⟨r, r.isEmpty⟩)
  else if fulT o.s = true then (([], 14), o)
  else if keyB o.s = true ∧ e.k ≠ 3 then (([], 8), o)
  else if rangeP e then (([], 7), o)
  else if e.k = 5 ∨ e.k = 6 then ((writeP e, 0), ⟨⟨decide (e.k = 6), e.c, 0⟩ :: incB o.s, false⟩)
  else ((writeP e, 0), ⟨incB o.s, o.s.isEmpty⟩)
theorem stepR_bad (o : Kq) (e : Ev) (h : ¬ mayE e ∨ o.dn = true) : stepR o e = (([], 14), o) := if_pos h
theorem stepR_end {b : Bx} {r : List Bx} {e : Ev} (hm : mayE e) (h7 : e.k = 7) (h : ¬ shutB b) : stepR ⟨b :: r, false⟩ e = (([], 0), ⟨r, r.isEmpty⟩) := by
  unfold stepR; rw [if_neg (by simp [hm]), if_pos h7]; simp only; rw [if_neg h]
theorem stepR_shut {b : Bx} {r : List Bx} {e : Ev} (hm : mayE e) (h7 : e.k = 7) (h : shutB b) : stepR ⟨b :: r, false⟩ e = (([], 14), ⟨b :: r, false⟩) := by
  unfold stepR; rw [if_neg (by simp [hm]), if_pos h7]; simp only; rw [if_pos h]
theorem stepR_none {e : Ev} (hm : mayE e) (h7 : e.k = 7) : stepR ⟨[], false⟩ e = (([], 14), ⟨[], false⟩) := by
  unfold stepR; rw [if_neg (by simp [hm]), if_pos h7]
theorem stepR_full {s : List Bx} {e : Ev} (hm : mayE e) (h7 : e.k ≠ 7) (hf : fulT s = true) : stepR ⟨s, false⟩ e = (([], 14), ⟨s, false⟩) := by
  unfold stepR; rw [if_neg (by simp [hm]), if_neg h7, if_pos hf]
theorem stepR_key {s : List Bx} {e : Ev} (hm : mayE e) (h7 : e.k ≠ 7) (hf : fulT s = false) (hk : keyB s = true) (h3 : e.k ≠ 3) : stepR ⟨s, false⟩ e = (([], 8), ⟨s, false⟩) := by
  unfold stepR; rw [if_neg (by simp [hm]), if_neg h7, if_neg (by simp [hf]), if_pos ⟨hk, h3⟩]
theorem stepR_range {s : List Bx} {e : Ev} (hm : mayE e) (h7 : e.k ≠ 7) (hf : fulT s = false) (hk : ¬ (keyB s = true ∧ e.k ≠ 3)) (hr : rangeP e) : stepR ⟨s, false⟩ e = (([], 7), ⟨s, false⟩) := by
  unfold stepR; rw [if_neg (by simp [hm]), if_neg h7, if_neg (by simp [hf]), if_neg hk, if_pos hr]
theorem stepR_open {s : List Bx} {e : Ev} (hm : mayE e) (h56 : e.k = 5 ∨ e.k = 6) (hf : fulT s = false) (hk : keyB s = false) (hr : ¬ rangeP e) : stepR ⟨s, false⟩ e = ((writeP e, 0), ⟨⟨decide (e.k = 6), e.c, 0⟩ :: incB s, false⟩) := by
  unfold stepR; rw [if_neg (by simp [hm]), if_neg (by omega), if_neg (by simp [hf]), if_neg (by simp [hk]), if_neg hr, if_pos h56]
theorem stepR_val {s : List Bx} {e : Ev} (hm : mayE e) (h7 : e.k ≠ 7) (h56 : ¬ (e.k = 5 ∨ e.k = 6)) (hf : fulT s = false) (hk : ¬ (keyB s = true ∧ e.k ≠ 3)) (hr : ¬ rangeP e) : stepR ⟨s, false⟩ e = ((writeP e, 0), ⟨incB s, s.isEmpty⟩) := by
  unfold stepR; rw [if_neg (by simp [hm]), if_neg h7, if_neg (by simp [hf]), if_neg hk, if_neg hr, if_neg h56]
end
section
open Go.Lib
def sizG (e : Ev) : Nat := 1 + (tidyE e).t.size
structure Cn where
  m : Bool
  c : Int
  at_ : Nat
  n : Nat
deriving DecidableEq
def cntE (x : Cn) : Ev := ⟨if x.m = true then 6 else 5, false, 0, ⟨#[]⟩, if x.c ≠ -1 then x.c else if x.m = true then ((x.n / 2 : Nat) : Int) else (x.n : Int)⟩
inductive Gs
  | bad
  | live (z : Nat) (H : List Ev) (op : List Cn)
def gs0 : Gs := .live 0 [] []
def opnE (e : Ev) : Prop := (e.k = 5 ∨ e.k = 6) ∧ e.c = -1
instance (e : Ev) : Decidable (opnE e) := by unfold opnE; infer_instance
def incN : List Cn → List Cn
  | [] => []
  | x :: r => ⟨x.m, x.c, x.at_, x.n + 1⟩ :: r
def endHg (H : List Ev) : List Cn → List Ev
  | [] => H
  | x :: _ => H.set x.at_ (cntE x)
def openN (e : Ev) (n : Nat) (op : List Cn) : List Cn := if e.k = 7 then op.tail else if e.k = 5 ∨ e.k = 6 then ⟨decide (e.k = 6), e.c, n, 0⟩ :: incN op else incN op
def heldN (e : Ev) (H : List Ev) (op : List Cn) : List Ev := (if e.k = 7 then endHg H op else H) ++ [e]
structure Gr where
  s : Gs
  l : List Ev
  e : Nat
def stepG (lim : Nat) : Gs → Ev → Gr
  | .bad, _ => ⟨.bad, [], 10⟩
  | .live z H op, e =>
    if op = [] ∧ ¬ opnE e then ⟨.live z H op, [e], 0⟩
    else if e.k = 7 ∧ op.length = 1 then ⟨gs0, endHg H op ++ [e], 0⟩
    else if lim < z + sizG e then ⟨.bad, [], 10⟩
    else ⟨.live (z + sizG e) (heldN e H op) (openN e H.length op), [], 0⟩
def heldG : Gs → Nat
  | .bad => 0
  | .live z _ _ => z
def emptyG : Gs → Bool
  | .bad => false
  | .live _ H _ => decide (H.length = 0)
def WfG (lim : Nat) : Gs → Prop
  | .bad => True
  | .live z H op => z ≤ lim ∧ H.length ≤ z ∧ op.length ≤ H.length ∧ ∀ x ∈ op, x.at_ < H.length ∧ x.n ≤ H.length
theorem endH_length (H : List Ev) (op : List Cn) : (endHg H op).length = H.length := by
  cases op <;> simp [endHg]
theorem heldN_length (e : Ev) (H : List Ev) (op : List Cn) : (heldN e H op).length = H.length + 1 := by
  unfold heldN; split <;> simp [endH_length]
theorem sizG_pos (e : Ev) : 1 ≤ sizG e := by unfold sizG; omega
theorem incN_length (op : List Cn) : (incN op).length = op.length := by cases op <;> rfl
theorem incN_mem {op : List Cn} {N : Nat} (h : ∀ x ∈ op, x.at_ < N ∧ x.n ≤ N) : ∀ x ∈ incN op, x.at_ < N + 1 ∧ x.n ≤ N + 1 := by
  cases op with
  | nil => intro x hx; simp [incN] at hx
  | cons y r =>
    intro x hx; simp only [incN, List.mem_cons] at hx; rcases hx with rfl | hx
    · have := h y (by simp); simp only; omega
    · have := h x (by simp [hx]); omega
theorem wf_stepG {lim : Nat} {s : Gs} (h : WfG lim s) (e : Ev) : WfG lim (stepG lim s e).s := by
  cases s with
  | bad => trivial
  | live z H op =>
    obtain ⟨h1, h2, h3, h4⟩ := h; simp only [stepG]; split
    · exact ⟨h1, h2, h3, h4⟩
    · split
      · exact ⟨Nat.zero_le _, Nat.le_refl _, Nat.le_refl _, fun x hx => by simp at hx⟩
      · split
        · trivial
        · have := sizG_pos e
          refine ⟨by omega, by rw [heldN_length]; omega, ?_, ?_⟩
          · rw [heldN_length]
            unfold openN; split
            · simp; omega
            · split
              · simp [incN_length]; omega
              · rw [incN_length]; omega
          · rw [heldN_length]
            unfold openN; split
            · intro x hx
              have := h4 x (List.mem_of_mem_tail hx); omega
            · split
              · intro x hx
                rcases List.mem_cons.1 hx with rfl | hx
                · simp
                · exact incN_mem h4 x hx
              · exact incN_mem h4
theorem wf_gs0 (lim : Nat) : WfG lim gs0 := ⟨Nat.zero_le _, Nat.le_refl _, Nat.le_refl _, fun x hx => by simp at hx⟩
end
section
open Go.RowKit
open Go.Lib
def kcB (b : Bx) : List Value := [.bool b.map, .int .i64 b.c, .int .i64 (b.have_ : Int)]
def kcL : List Bx → List Value
  | [] => []
  | b :: r => kcL r ++ kcB b
theorem kcL_length : ∀ s : List Bx, (kcL s).length = s.length * 3
  | [] => rfl
  | b :: r => by rw [kcL, List.length_append, kcL_length r]; simp [kcB]; omega
def WfQ (s : List Bx) : Prop := ∀ b ∈ s, -1 ≤ b.c ∧ b.c ≤ 9223372036854775807 ∧ (0 ≤ b.c → (b.have_ : Int) ≤ if b.map = true then 2 * b.c else b.c)
theorem WfQ.tail {x : Bx} {r : List Bx} (h : WfQ (x :: r)) : WfQ r := fun b hb => h b (List.mem_cons_of_mem _ hb)
theorem WfQ.inc {s : List Bx} (h : WfQ s) (hf : fulT s = false) : WfQ (incB s) := by
  cases s with
  | nil => exact h
  | cons x r =>
    intro b hb; simp only [incB, List.mem_cons] at hb; rcases hb with rfl | hb
    · obtain ⟨h1, h2, _⟩ := h x (by simp)
      simp only [fulT, decide_eq_false_iff_not] at hf; refine ⟨h1, h2, fun h0 => ?_⟩; have h0 : 0 ≤ x.c := h0; have : ¬ (if x.map = true then 2 * x.c else x.c) ≤ (x.have_ : Int) := fun hh => hf ⟨h0, hh⟩
      show ((x.have_ + 1 : Nat) : Int) ≤ if x.map = true then 2 * x.c else x.c
      omega
    · exact h b (List.mem_cons_of_mem _ hb)
def dpQ (s : List Bx) : Nat := max s.length (s.foldr (fun b m => max b.have_ m) 0)
theorem dp_len (s : List Bx) : s.length ≤ dpQ s := Nat.le_max_left _ _
theorem dp_fold : ∀ (s : List Bx) (b : Bx), b ∈ s → b.have_ ≤ s.foldr (fun b m => max b.have_ m) 0
  | x :: r, b, h => by
    rw [List.foldr_cons]; rcases List.mem_cons.1 h with rfl | h
    · exact Nat.le_max_left _ _
    · exact Nat.le_trans (dp_fold r b h) (Nat.le_max_right _ _)
theorem dp_have {s : List Bx} {b : Bx} (h : b ∈ s) : b.have_ ≤ dpQ s := Nat.le_trans (dp_fold s b h) (Nat.le_max_right _ _)
theorem dp_tail (x : Bx) (r : List Bx) : dpQ r ≤ dpQ (x :: r) := by
  unfold dpQ; simp only [List.length_cons, List.foldr_cons]; omega
theorem dp_inc (s : List Bx) : dpQ (incB s) ≤ dpQ s + 1 := by
  cases s with
  | nil => exact Nat.le_succ _
  | cons x r =>
    unfold dpQ; simp only [incB, List.length_cons, List.foldr_cons]; omega
theorem dp_open (s : List Bx) (m : Bool) (c : Int) : dpQ (⟨m, c, 0⟩ :: incB s) ≤ dpQ s + 1 := by
  cases s with
  | nil => simp [dpQ, incB]
  | cons x r =>
    unfold dpQ; simp only [incB, List.length_cons, List.foldr_cons]; omega
theorem qstep_dp (q : Kq) (e : Ev) : dpQ (stepQ q e).2.s ≤ dpQ q.s + 1 := by
  unfold stepQ; split
  · exact Nat.le_succ _
  · split
    · split
      · exact Nat.le_succ _
      · rename_i b r hs
        split
        · exact Nat.le_succ _
        · rw [hs]
          exact Nat.le_trans (dp_tail b r) (Nat.le_succ _)
    · split
      · exact Nat.le_succ _
      · split
        · exact Nat.le_succ _
        · split
          · exact dp_open _ _ _
          · exact dp_inc _
theorem info_kc : (Tryz.prog.info? 281).map (fun i => (i.zero, i.size, i.bytes)) = some (some (.agg #[.bool false, .int .i64 0, .int .i64 0]), 3, 24) := by kernel_rfl
def hasK (m : Bool) (c : Int) (h : Nat) : Bool := decide (((if m = true then h / 2 else h : Nat) : Int) = c)
theorem has_ful {b : Bx} (h1 : -1 ≤ b.c) (h2 : 0 ≤ b.c → (b.have_ : Int) ≤ if b.map = true then 2 * b.c else b.c) : hasK b.map b.c b.have_ = decide (0 ≤ b.c ∧ (if b.map = true then 2 * b.c else b.c) ≤ (b.have_ : Int)) := by
  obtain ⟨m, c, h⟩ := b; simp only at h1 h2; unfold hasK; simp only; rw [Bool.eq_iff_iff, decide_eq_true_eq, decide_eq_true_eq]; cases m <;> simp at h2 ⊢ <;> omega
theorem end_shut_k {b : Bx} (h1 : -1 ≤ b.c) (h2 : 0 ≤ b.c → (b.have_ : Int) ≤ if b.map = true then 2 * b.c else b.c) : (if b.c = -1 then !(b.map && decide (b.have_ % 2 = 1)) else hasK b.map b.c b.have_) = decide (¬ shutB b) := by
  obtain ⟨m, c, h⟩ := b; simp only at h1 h2; unfold hasK shutB; simp only; rw [Bool.eq_iff_iff, decide_eq_true_eq]; by_cases hc : c = -1
  · subst hc
    rw [if_pos rfl]; cases m <;> simp
  · rw [if_neg hc, decide_eq_true_eq]
    cases m <;> simp at h2 ⊢ <;> omega
theorem klacks_any (m : Bool) (c : Int) (h : Nat) (w : World) :
    Calls Tryz.prog 257 #[.agg #[.bool m, .int .i64 c, .int .i64 (h : Int)]] w fun r w' => r = .returned (.bool (m && decide (h % 2 = 1))) ∧ Below w.heap.size w w' := by
  have hz : ((h : Int) % 2 != 0) = decide (h % 2 = 1) := by
    rw [Bool.eq_iff_iff, bne_iff_ne, decide_eq_true_eq]; omega
  go_enter Tryz.func257, Tryz.ntmps257; cases m with
  | false =>
    go_wp2; go_ret; exact ⟨rfl, up_alloc (Below.refl _ _) _⟩
  | true =>
    go_wp2; go_ret; exact ⟨rfl, up_alloc (Below.refl _ _) _⟩
theorem khas_any (m : Bool) (c : Int) (h : Nat) (hh : h ≤ 1000000) (w : World) :
    Calls Tryz.prog 256 #[.agg #[.bool m, .int .i64 c, .int .i64 (h : Int)]] w fun r w' => r = .returned (.bool (hasK m c h)) ∧ Below w.heap.size w w' := by
  unfold hasK; cases m with
  | false =>
    have hz : ((h : Int) == c) = decide ((h : Int) = c) := by
      rw [Bool.eq_iff_iff, beq_iff_eq, decide_eq_true_eq]
    simp only [Bool.false_eq_true, if_false]; rw [← hz]; clear hz; go_enter Tryz.func256, Tryz.ntmps256; go_wp2; go_ret; exact ⟨rfl, up_alloc (Below.refl _ _) _⟩
  | true =>
    simp only [if_true]; have hz : ((h : Int) / 2 == c) = decide (((h / 2 : Nat) : Int) = c) := by
      rw [Bool.eq_iff_iff, beq_iff_eq, decide_eq_true_eq, Int.natCast_ediv]; rfl
    have hw : IntKind.i64.wrap ((h : Int) / 2) = (h : Int) / 2 := by simp only [IntKind.wrap_i64]; omega
    rw [← hz]; clear hz; go_enter Tryz.func256, Tryz.ntmps256; go_wp2; go_ret; exact ⟨rfl, up_alloc (Below.refl _ _) _⟩
end
section
open Go.RowKit
open Go.Lib
theorem kend_any (m : Bool) (c : Int) (h : Nat) (hh : h ≤ 1000000) (w : World) :
    Calls Tryz.prog 264 #[.agg #[.bool m, .int .i64 c, .int .i64 (h : Int)]] w fun r w' => r = .returned (.bool (if c = -1 then !(m && decide (h % 2 = 1)) else hasK m c h)) ∧ Below w.heap.size w w' := by
  have HL := hid (fun (W : World) => klacks_any m c h W); have HH := hid (fun (W : World) => khas_any m c h hh W); by_cases hc : c = -1
  · subst hc
    rw [if_pos rfl]; generalize (m && decide (h % 2 = 1)) = K at *
    go_enter Tryz.func264, Tryz.ntmps264; (go_wp2_with fail); refine (HL.out _).mono ?_; rintro r w1 ⟨rfl, b1⟩; have B1 := hid (up_trans (up_alloc (Below.refl _ _) _) b1); clear b1; go_wp2; go_ret; exact ⟨rfl, B1.out⟩
  · rw [if_neg hc]
    have hz : (c == -1) = false := by rw [beq_eq_false_iff_ne]; exact hc
    generalize hasK m c h = K at *
    clear hc; go_enter Tryz.func264, Tryz.ntmps264; (go_wp2_with fail); refine (HH.out _).mono ?_; rintro r w1 ⟨rfl, b1⟩; have B1 := hid (up_trans (up_alloc (Below.refl _ _) _) b1); clear b1; go_wp2; go_ret; exact ⟨rfl, B1.out⟩
theorem kst_last {w : World} {v : Value} {b : Bx} {r : List Bx} (h : Win w 281 3 v (r.length + 1) (kcL r ++ kcB b)) :
    ∃ g off cap, v = .slice (some ⟨g, off, none⟩) (r.length + 1) cap ∧
      (w.cell? ⟨g, off + r.length * 3, none⟩ = some (.bool b.map) ∧ w.cell? ⟨g, off + r.length * 3 + 1, none⟩ = some (.int .i64 b.c) ∧ w.cell? ⟨g, off + r.length * 3 + 2, none⟩ = some (.int .i64 (b.have_ : Int))) ∧
      (w.frozen? ⟨g, off + r.length * 3, none⟩ = false ∧ w.frozen? ⟨g, off + r.length * 3 + 1, none⟩ = false ∧ w.frozen? ⟨g, off + r.length * 3 + 2, none⟩ = false) := by
  obtain ⟨g, off, cap, rfl, h1, h2, _, _, h3⟩ := h.form (by simp); have hl := kcL_length r; have hx : ∀ j u, (kcB b)[j]? = some u → w.cell? ⟨g, off + (r.length * 3 + j), none⟩ = some u ∧ w.frozen? ⟨g, off + (r.length * 3 + j), none⟩ = false := fun j u hu => by
    refine h3 _ u ?_; rw [← hl, List.getElem?_append_right (by omega), Nat.add_sub_cancel_left]; exact hu
  have x0 := hx 0 _ rfl; have x1 := hx 1 _ rfl; have x2 := hx 2 _ rfl; simp only [← Nat.add_assoc, Nat.add_zero] at x0 x1 x2; exact ⟨g, off, cap, rfl, ⟨x0.1, x1.1, x2.1⟩, ⟨x0.2, x1.2, x2.2⟩⟩
theorem key_eq_k (x : Bx) (r : List Bx) : keyB (x :: r) = (x.map && !decide (x.have_ % 2 = 1)) := by
  simp only [keyB]; rw [Bool.eq_iff_iff]; simp
theorem kkey_any {w : World} {v : Value} {s : List Bx} (h : Win w 281 3 v s.length (kcL s)) (hd : s.length ≤ 1000) :
    Calls Tryz.prog 249 #[v] w fun r w' => r = .returned (.bool (keyB s)) ∧ Below w.heap.size w w' := by
  cases s with
  | nil =>
    obtain ⟨a, cp, rfl, _, _⟩ := h.slice_form; clear h; go_enter Tryz.func249, Tryz.ntmps249; go_wp2; go_ret; exact ⟨rfl, Below.refl _ _⟩
  | cons x r =>
    obtain ⟨g, off, cap, rfl, ⟨c0, c1, c2⟩, ⟨f0, f1, f2⟩⟩ := kst_last h; rw [key_eq_k]; obtain ⟨m, c, k⟩ := x; simp only [List.length_cons] at *
    have HL := hid (fun (W : World) => klacks_any m c k W); clear h; generalize r.length = n at *
    have hwn : wrap64 (n : Int) = (n : Int) := by unfold wrap64; omega
    have hwn2 : IntKind.i64.wrap (n : Int) = (n : Int) := by simp only [IntKind.wrap_i64]; omega
    have hz : ((n : Int) ≥ 0) = True := by simp
    generalize decide (k % 2 = 1) = K at *
    cases m with
    | false =>
      go_enter Tryz.func249, Tryz.ntmps249; go_wp2; go_ret; exact ⟨rfl, Below.refl _ _⟩
    | true =>
      go_enter Tryz.func249, Tryz.ntmps249; (go_wp2_with fail); refine (HL.out _).mono ?_; rintro r w1 ⟨rfl, b1⟩; have B1 := hid b1; clear b1; go_wp2; go_ret; exact ⟨by simp, B1.out⟩
theorem kfull_any {w : World} {v : Value} {s : List Bx} (h : Win w 281 3 v s.length (kcL s)) (hd : dpQ s ≤ 1000) (hw : WfQ s) :
    Calls Tryz.prog 248 #[v] w fun r w' => r = .returned (.bool (fulT s)) ∧ Below w.heap.size w w' := by
  have hl := dp_len s; cases s with
  | nil =>
    obtain ⟨a, cp, rfl, _, _⟩ := h.slice_form; clear h; go_enter Tryz.func248, Tryz.ntmps248; go_wp2; go_ret; exact ⟨rfl, Below.refl _ _⟩
  | cons x r =>
    obtain ⟨g, off, cap, rfl, ⟨c0, c1, c2⟩, ⟨f0, f1, f2⟩⟩ := kst_last h; have hwx := hw x (by simp); have hdx := dp_have (s := x :: r) (b := x) (by simp); have he : fulT (x :: r) = hasK x.map x.c x.have_ := (has_ful hwx.1 hwx.2.2).symm; rw [he]; have HL := hid (fun (W : World) => khas_any x.map x.c x.have_ (by omega) W); obtain ⟨m, c, k⟩ := x; simp only [List.length_cons] at *
    generalize hasK m c k = K at *
    have HD := hid hd; clear h hw hwx hdx he hd; generalize r.length = n at *
    have hln : n + 1 ≤ 1000 := Nat.le_trans hl HD.out; clear hl; have hwn : wrap64 (n : Int) = (n : Int) := by unfold wrap64; omega
    have hwn2 : IntKind.i64.wrap (n : Int) = (n : Int) := by simp only [IntKind.wrap_i64]; omega
    have hz : ((n : Int) ≥ 0) = True := by simp
    go_enter Tryz.func248, Tryz.ntmps248; (go_wp2_with fail); refine (HL.out _).mono ?_; rintro r w1 ⟨rfl, b1⟩; have B1 := hid b1; clear b1; go_wp2; go_ret; exact ⟨by simp, B1.out⟩
def mayQ : List Bx → Bool
  | [] => false
  | b :: _ => decide (¬ shutB b)
theorem kmay_any {w : World} {v : Value} {s : List Bx} (h : Win w 281 3 v s.length (kcL s)) (hd : dpQ s ≤ 1000) (hw : WfQ s) :
    Calls Tryz.prog 255 #[v] w fun r w' => r = .returned (.bool (mayQ s)) ∧ Below w.heap.size w w' := by
  have hl := dp_len s; cases s with
  | nil =>
    obtain ⟨a, cp, rfl, _, _⟩ := h.slice_form; clear h; go_enter Tryz.func255, Tryz.ntmps255; go_wp2; go_ret; exact ⟨rfl, Below.refl _ _⟩
  | cons x r =>
    obtain ⟨g, off, cap, rfl, ⟨c0, c1, c2⟩, ⟨f0, f1, f2⟩⟩ := kst_last h; have hwx := hw x (by simp); have hdx := dp_have (s := x :: r) (b := x) (by simp); have he : mayQ (x :: r) = (if x.c = -1 then !(x.map && decide (x.have_ % 2 = 1)) else hasK x.map x.c x.have_) := (end_shut_k hwx.1 hwx.2.2).symm; rw [he]; have HL := hid (fun (W : World) => kend_any x.map x.c x.have_ (by omega) W); generalize (if x.c = -1 then !(x.map && decide (x.have_ % 2 = 1)) else hasK x.map x.c x.have_) = K at *
    obtain ⟨m, c, k⟩ := x; simp only [List.length_cons] at *
    have HD := hid hd; clear h hw hwx hdx he hd; generalize r.length = n at *
    have hln : n + 1 ≤ 1000 := Nat.le_trans hl HD.out; clear hl; have hwn : wrap64 (n : Int) = (n : Int) := by unfold wrap64; omega
    have hwn2 : IntKind.i64.wrap (n : Int) = (n : Int) := by simp only [IntKind.wrap_i64]; omega
    have hz : ((n : Int) ≥ 0) = True := by simp
    go_enter Tryz.func255, Tryz.ntmps255; (go_wp2_with fail); refine (HL.out _).mono ?_; rintro r w1 ⟨rfl, b1⟩; have B1 := hid b1; clear b1; go_wp2; go_ret; exact ⟨by simp, B1.out⟩
theorem kst_store {w : World} {m : Bool} {c : Int} {k k' : Nat} {r : List Bx} {g off cap n : Nat} (_ : n = r.length + 1) (h : Win w 281 3 (.slice (some ⟨g, off, none⟩) n cap) n (kcL r ++ kcB ⟨m, c, k⟩)) :
    Win (w.setCell ⟨g, off + r.length * 3 + 2, none⟩ (.int .i64 (k' : Int))) 281 3 (.slice (some ⟨g, off, none⟩) n cap) n (kcL r ++ kcB ⟨m, c, k'⟩) := by
  have hw := h.store (r.length * 3 + 2) (by rw [List.length_append, kcL_length]; simp [kcB]) (.int .i64 (k' : Int)); have hx : (kcL r ++ kcB ⟨m, c, k⟩).set (r.length * 3 + 2) (.int .i64 (k' : Int)) = kcL r ++ kcB ⟨m, c, k'⟩ := by
    rw [← kcL_length, List.set_append, if_neg (by omega), Nat.add_sub_cancel_left]; rfl
  rw [hx, ← Nat.add_assoc] at hw; exact hw
theorem kcount_any {w : World} {v : Value} {s : List Bx} (h : Win w 281 3 v s.length (kcL s)) (hd : dpQ s ≤ 1000) :
    Calls Tryz.prog 251 #[v] w fun r w' => r = .returned (.tuple #[]) ∧ Win w' 281 3 v s.length (kcL (incB s)) ∧ Step (Value.owner v) (Value.owner v) w w' := by
  have hl := dp_len s; cases s with
  | nil =>
    have HH := hid h; obtain ⟨a, cp, rfl, _, _⟩ := h.slice_form; clear h; go_enter Tryz.func251, Tryz.ntmps251; go_wp2
    go_end0
    exact ⟨rfl, HH.out, Step.refl _ _⟩
  | cons x r =>
    obtain ⟨g, off, cap, rfl, ⟨c0, c1, c2⟩, ⟨f0, f1, f2⟩⟩ := kst_last h; have hdx := dp_have (s := x :: r) (b := x) (by simp); obtain ⟨m, c, k⟩ := x; simp only [List.length_cons, incB] at *
    have HS := hid (kst_store (k' := k + 1) rfl h); have hk : k ≤ 1000 := Nat.le_trans hdx hd; have hln : r.length + 1 ≤ 1000 := Nat.le_trans hl hd; clear h hdx hd hl; simp only [kcL]; generalize kcL r ++ kcB ⟨m, c, k + 1⟩ = XS at *
    generalize r.length = n at *
    have hw : IntKind.i64.wrap ((k : Int) + 1) = (k : Int) + 1 := by simp only [IntKind.wrap_i64]; omega
    have hwn : wrap64 (n : Int) = (n : Int) := by unfold wrap64; omega
    have hwn2 : IntKind.i64.wrap (n : Int) = (n : Int) := by simp only [IntKind.wrap_i64]; omega
    have hz : ((n : Int) ≥ 0) = True := by simp
    go_enter Tryz.func251, Tryz.ntmps251; go_wp2
    go_end0
    exact ⟨rfl, HS.out, step_setCell _ _ _ _ (by simp [Value.owner])⟩
end
section
open Go.RowKit
open Go.Lib
structure QAt (w : World) (b o : Nat) (F : List Nat) (q : Kq) : Prop where
  cells : ∃ a cp, At w b o [.slice a q.s.length cp, .bool q.dn] ∧ Win w 281 3 (.slice a q.s.length cp) q.s.length (kcL q.s) ∧ Value.owner (.slice a q.s.length cp) = F
  blk : ∃ cs t fr, w.heap[b]? = some (.cells cs t fr) ∧ t ≠ 281
  fin : q.dn = true → q.s = []
  wf : WfQ q.s
theorem QAt.lt {w : World} {b o : Nat} {F : List Nat} {q : Kq} (h : QAt w b o F q) : b < w.heap.size := by
  obtain ⟨cs, t, fr, hc, _⟩ := h.blk; exact (Array.getElem?_eq_some_iff.1 hc).1
theorem QAt.row {w : World} {b o : Nat} {F : List Nat} {q : Kq} (h : QAt w b o F q) : ∀ k ∈ F, k < w.heap.size ∧ k ≠ b ∧ ∃ cur, w.heap[k]? = some (.cells cur 281 (0, 0)) := by
  obtain ⟨a, cp, _, hW, hF⟩ := h.cells; obtain ⟨cs, t, fr, hc, ht⟩ := h.blk; subst hF; exact fun k hk => ⟨hW.lt k hk, fun e => hW.apart hc (fun e' => ht e'.symm) (e ▸ hk), hW.typed k hk⟩
theorem QAt.keep {w w' : World} {b o : Nat} {F : List Nat} {q : Kq} (h : QAt w b o F q) (hk : ∀ k, k = b ∨ k ∈ F → w'.heap[k]? = w.heap[k]?) : QAt w' b o F q := by
  obtain ⟨a, cp, hA, hW, hF⟩ := h.cells; obtain ⟨cs, t, fr, hc, ht⟩ := h.blk; exact ⟨⟨a, cp, hA.keep (hk b (.inl rfl)), hW.keep (fun k ho => hk k (.inr (hF ▸ ho))), hF⟩, ⟨cs, t, fr, (hk b (.inl rfl)).trans hc, ht⟩, h.fin, h.wf⟩
theorem QAt.go {w w' : World} {b o : Nat} {F : List Nat} {q : Kq} (h : QAt w b o F q) (k : Below w.heap.size w w') : QAt w' b o F q :=
  h.keep fun i hi => k.block i (hi.elim (fun e => e ▸ h.lt) (fun hi => (h.row i hi).1))
theorem QAt.drewN {w : World} {b o : Nat} {F : List Nat} {q : Kq} (h : QAt w b o F q) (n : Nat) : QAt (w.drewN n) b o F q := h.keep fun _ _ => rfl
theorem QAt.alloc {w : World} {b o : Nat} {F : List Nat} {q : Kq} (h : QAt w b o F q) (x : Obj) : QAt (w.alloc x) b o F q := h.go (up_alloc (Below.refl _ _) x)
theorem qleave_at {w : World} {b o : Nat} {F : List Nat} {x : Bx} {r : List Bx} {a' : Option Addr} {c' : Nat} (h : QAt w b o F ⟨x :: r, false⟩) (hW : Win w 281 3 (.slice a' r.length c') r.length (kcL r)) (hO : Value.owner (.slice a' r.length c') = F) :
    QAt (w.setCell ⟨b, o, none⟩ (.slice a' r.length c')) b o F ⟨r, false⟩ ∧ Jf b o F F w (w.setCell ⟨b, o, none⟩ (.slice a' r.length c')) := by
  obtain ⟨a, cp, hA, _, _⟩ := h.cells; obtain ⟨cs, t, fr, hc, ht⟩ := h.blk; have hap : b ∉ Value.owner (.slice a' r.length c') := hW.apart hc (fun e => ht e.symm); have hset := hA.set 0 (by simp) (.slice a' r.length c'); refine ⟨⟨⟨a', c', by simpa using hset, hW.setCell_far hap _, hO⟩, ⟨_, t, fr, heap_setCell_at w ⟨b, o, none⟩ _ _ _ _ rfl hc, ht⟩, fun e => (by cases e), h.wf.tail⟩, (Jf.refl b o F w).set o _ (by omega)⟩
theorem leaveQ {w : World} {b o : Nat} {F : List Nat} {x : Bx} {r : List Bx} (h : QAt w b o F ⟨x :: r, false⟩) (hs : r.length ≤ 999) :
    Calls Tryz.prog 258 #[.pointer (some ⟨b, o, none⟩)] w fun q w' => q = .returned (.bool (x.c != -1)) ∧ QAt w' b o F ⟨r, false⟩ ∧ Jf b o F F w w' := by
  have hfin : ∃ a cp, (w.cell? ⟨b, o, none⟩ = some (.slice a (r.length + 1) cp) ∧ w.frozen? ⟨b, o, none⟩ = false) ∧ (∃ g off, a = some ⟨g, off, none⟩ ∧ w.cell? ⟨g, off + r.length * 3 + 1, none⟩ = some (.int .i64 x.c)) ∧
      ∃ a' c', (∀ W, (Instr.slice 98 (.slice a (r.length + 1) cp) none (some (.int .i64 (r.length : Int))) none).run Tryz.prog W = .ok (.slice a' r.length c') W) ∧
        QAt (w.setCell ⟨b, o, none⟩ (.slice a' r.length c')) b o F ⟨r, false⟩ ∧ Jf b o F F w (w.setCell ⟨b, o, none⟩ (.slice a' r.length c')) := by
    obtain ⟨a, cp, hA, hW, hF⟩ := h.cells; obtain ⟨⟨c0, f0⟩, ⟨c1, f1⟩⟩ := oat_two hA; obtain ⟨v', hsl, hw', ho'⟩ := hW.hi (P := Tryz.prog) (t := 98) Tryz.underlying98 (fun w => by kernel_rfl) r.length (by simp); simp only at hw' hsl; simp only [kcL] at hw'; rw [← kcL_length, List.take_left] at hw'; obtain ⟨a', c', rfl, _, _⟩ := hw'.slice_form; obtain ⟨g, off, cap, hv, ⟨_, x1, _⟩, _⟩ := kst_last (r := r) (b := x) hW; cases hv; refine ⟨_, cp, ⟨c0, f0⟩, ⟨g, off, rfl, x1⟩, a', c', hsl, ?_⟩; exact qleave_at h hw' (ho'.trans hF)
  have hl : IntKind.i64.wrap (r.length : Int) = (r.length : Int) := by simp only [IntKind.wrap_i64]; omega
  have hl2 : wrap64 (r.length : Int) = (r.length : Int) := by unfold wrap64; omega
  obtain ⟨xm, xc, xh⟩ := x; simp only at *
  have HFI := hid hfin; generalize r.length = n' at *
  clear h hfin; obtain ⟨a, cp, ⟨y1, y2⟩, ⟨g, off, rfl, y3⟩, a', c', hsl, hE⟩ := HFI.out; have HE := hid hE; clear hE HFI; go_enter Tryz.func258, Tryz.ntmps258; go_wp2; go_ret; exact ⟨rfl, HE.out⟩
theorem qenter_end {w W w3 : World} {b o n cp c3 : Nat} {a a3 : Option Addr} {F : List Nat} {s : List Bx} {m : Bool} {c : Int} {ob : Obj} (h : QAt w b o F ⟨s, false⟩) (hn : s.length = n) (hA : At w b o [.slice a n cp, .bool false]) (hF : Value.owner (.slice a n cp) = F) (k : Below w.heap.size w W) (hc : -1 ≤ c ∧ c ≤ 9223372036854775807)
    (hW : Win w3 281 3 (.slice a3 (n + 1) c3) (n + 1) (kcL s ++ [.bool m, .int .i64 c, .int .i64 0])) (hG : (W.alloc ob).drew.grownBy w3 (Value.slice a n cp).ownBlock) (hO : (Value.slice a3 (n + 1) c3).ownBlock = (Value.slice a n cp).ownBlock ∨ (Value.slice a3 (n + 1) c3).ownBlock = some (W.alloc ob).drew.heap.size ∧ (W.alloc ob).drew.heap.size < w3.heap.size) :
    (w3.cell? ⟨b, o, none⟩ = some (.slice a n cp) ∧ w3.frozen? ⟨b, o, none⟩ = false) ∧ ∃ F', QAt (w3.setCell ⟨b, o, none⟩ (.slice a3 (n + 1) c3)) b o F' ⟨⟨m, c, 0⟩ :: s, false⟩ ∧ Jf b o F F' w (w3.setCell ⟨b, o, none⟩ (.slice a3 (n + 1) c3)) := by
  have hb := h.lt; obtain ⟨cs, t, fr, hcb, ht⟩ := h.blk; have hbF : b ∉ F := fun hk => (h.row b hk).2.1 rfl
  have hnb : (Value.slice a n cp).ownBlock ≠ some b := fun e => hbF (hF ▸ (ob_iff _ _).1 e)
  have hsz : w.heap.size ≤ W.heap.size := k.size; have hold : ∀ i, i < w.heap.size → i ∉ F → w3.heap[i]? = w.heap[i]? := by
    intro i hi hiF; refine (hG.block i (by show i < (W.alloc ob).heap.size; simp; omega) (fun e => hiF (hF ▸ (ob_iff _ _).1 e.symm))).trans ?_; exact (Below.heap_alloc W ob i (by omega)).trans (k.block i hi)
  have hblk := hold b hb hbF; have A3 := hA.keep hblk; have hw3 : w3.heap[b]? = some (.cells cs t fr) := hblk.trans hcb; have hap3 : b ∉ Value.owner (.slice a3 (n + 1) c3) := hW.apart hw3 (fun e => ht e.symm); have hset := A3.set 0 (by simp) (.slice a3 (n + 1) c3); refine ⟨A3 0 _ rfl, Value.owner (.slice a3 (n + 1) c3), ⟨⟨a3, c3, ?_, ?_, ?_⟩, ⟨_, t, fr, heap_setCell_at w3 ⟨b, o, none⟩ _ _ _ _ rfl hw3, ht⟩, fun e => (by cases e), fun x hx => ?_⟩, ?_⟩
  · simp only [List.length_cons, hn]
    simpa using hset
  · simp only [List.length_cons, hn]
    exact hW.setCell_far hap3 _
  · simp only [List.length_cons, hn]
  · simp only [List.mem_cons] at hx
    rcases hx with rfl | hx
    · refine ⟨hc.1, hc.2, fun h0 => ?_⟩
      have h0 : 0 ≤ c := h0; show ((0 : Nat) : Int) ≤ if m = true then 2 * c else c
      split <;> omega
    · exact h.wf x hx
  · have hstep : Step (b :: F) (b :: Value.owner (.slice a3 (n + 1) c3)) w w3 := by
      refine ⟨hG.os.trans k.os, hG.tape.trans ?_, hG.output.trans k.output, Nat.le_trans ?_ hG.size, fun i hi hiF => hold i hi (fun e => hiF (List.mem_cons_of_mem _ e)), fun i hi => ?_⟩
      · exact k.tape
      · show w.heap.size ≤ (W.alloc ob).heap.size
        simp; omega
      · rcases List.mem_cons.1 hi with rfl | hi
        · exact .inl (by simp)
        · rcases hO with e | ⟨e, _⟩
          · left
            refine List.mem_cons_of_mem _ ?_; rw [← hF]; exact (ob_iff _ _).1 (e ▸ (ob_iff _ _).2 hi)
          · right
            have h2 := (ob_iff _ _).2 hi; rw [e] at h2; cases h2; show w.heap.size ≤ (W.alloc ob).heap.size; simp; omega
    have hj : Jf b o F (Value.owner (.slice a3 (n + 1) c3)) w w3 := ⟨hstep, fun c1 t1 fr1 h1 => ⟨c1, hblk.trans h1, rfl⟩, fun i _ => World.cell?_of_block (w := w) hblk⟩
    exact hj.set o _ (by omega)
theorem enterQ {w : World} {b o : Nat} {F : List Nat} {s : List Bx} (h : QAt w b o F ⟨s, false⟩) (hs : s.length ≤ 1000) (m : Bool) (c : Int) (hc : -1 ≤ c ∧ c ≤ 9223372036854775807) :
    Calls Tryz.prog 252 #[.pointer (some ⟨b, o, none⟩), .agg #[.bool m, .int .i64 c]] w fun e w' => e = .returned (.tuple #[]) ∧ ∃ F', QAt w' b o F' ⟨⟨m, c, 0⟩ :: s, false⟩ ∧ Jf b o F F' w w' := by
  have hb := h.lt; obtain ⟨n, hn⟩ : ∃ n, s.length = n := ⟨_, rfl⟩
  have hbel : Below w.heap.size w (w.alloc (.cells #[.bool m, .int .i64 c] 163)) := up_alloc (Below.refl _ _) _; have E2 : Hid (Blk (w.alloc (.cells #[.bool m, .int .i64 c] 163)) w.heap.size #[.bool m, .int .i64 c] 163) := hid (blk_new w #[.bool m, .int .i64 c] 163); obtain ⟨a, cp, hA, hWin, hF⟩ := h.cells; simp only [hn] at hA hWin hF; have hA2 := hA.keep (w' := (w.alloc (.cells #[.bool m, .int .i64 c] 163))) (hbel.block b hb); have WD : ∀ x, Hid (Win (((w.alloc (.cells #[.bool m, .int .i64 c] 163))).alloc x).drew 281 3 (.slice a n cp) n (kcL s)) := fun x => hid ((hWin.alloc _).alloc x)
  have h5 : (w.alloc (.cells #[.bool m, .int .i64 c] 163)).cell? ⟨b, o, none⟩ = some (.slice a n cp) := (hA2 0 _ rfl).1; have f5 : ∀ x, ((w.alloc (.cells #[.bool m, .int .i64 c] 163)).alloc x).cell? ⟨b, o, none⟩ = some (.slice a n cp) := fun x => ((hA2.alloc (by simp) x) 0 _ rfl).1
  have h0 : (w.alloc (.cells #[.bool m, .int .i64 c] 163)).cell? ⟨w.heap.size, 0, none⟩ = some (.bool m) := E2.out.cell 0; have h1 : (w.alloc (.cells #[.bool m, .int .i64 c] 163)).cell? ⟨w.heap.size, 1, none⟩ = some (.int .i64 c) := E2.out.cell 1; have e0 : ∀ x, ((w.alloc (.cells #[.bool m, .int .i64 c] 163)).alloc x).cell? ⟨w.heap.size, 0, none⟩ = some (.bool m) := fun x => (E2.out.alloc x).cell 0
  have e1 : ∀ x, ((w.alloc (.cells #[.bool m, .int .i64 c] 163)).alloc x).cell? ⟨w.heap.size, 1, none⟩ = some (.int .i64 c) := fun x => (E2.out.alloc x).cell 1
  have HE := hid (fun (w3 : World) (a3 : Option Addr) (c3 : Nat) ob hW hG hO => qenter_end (w := w) (W := (w.alloc (.cells #[.bool m, .int .i64 c] 163))) (w3 := w3) (a3 := a3) (c3 := c3) (m := m) (c := c) (ob := ob) h hn hA hF hbel hc hW hG hO); clear h hbel hA hA2 hb E2 hWin hF; go_enter Tryz.func252, Tryz.ntmps252; go_wp2; generalize (w.alloc (.cells #[.bool m, .int .i64 c] 163)) = W at *
  go_region_law (first
    | (refine step_append_win rfl _ _ _ rfl Tryz.underlying98 info_kc rfl rfl (WD _).out _ rfl 1 _ (src_new _ Tryz.underlying98 3 1 [.bool m, .int .i64 c, .int .i64 0] 281 _ rfl (by simp [Value.oneCell']) (heap_alloc_new _ _)) (by unfold maxLen; omega) (by omega) ?_; intro v3 w3 hW3 hG3 hO3; obtain ⟨a3, c3, rfl, _, _⟩ := Win.slice_form hW3.out; have HP := hid (HE.out w3 a3 c3 _ hW3.out hG3.out hO3.out); have g0 := HP.out.1.1; have g1 := HP.out.1.2; clear hW3 hG3 hO3))
  all_goals
    go_wp2
    go_end0
    exact ⟨rfl, HP.out.2⟩
end
end Go.Proofs.YtkgconbdmnmbnaaGreat
