/-
  CONTRACTS of lexer.Lexer, part G: letter, at a word's last byte; digit.
-/
import Derived.Test.YteonbajndghfcaaLexF
namespace Go.Proofs.Yteonbajndghfcaa
open Go.RowKit
open Go.Lib
set_option maxRecDepth 100000 in
set_option maxHeartbeats 4000000 in
theorem letter_last {w : World} {b o : Nat} {k i x : Nat} {W : ByteArray} (hW : Wrd k W i [x]) (hx : x < 256) (h16 : At w b (o + 16) [.string W, .int .i64 (i : Nat)]) (hR : Room w b o 18) :
    Calls Try.prog 21 #[.pointer (some ⟨b, o, none⟩), .int .u8 x] w fun r w' => ∃ v, r = .returned (.tuple #[v, .int .i64 0]) ∧ Tks w w' v [sgnT k] ∧ At w' b o (lxZ 0) ∧ Sub b o 18 w w' := by
  have HL := Lib.hid (fun W0 => letter_word hW W0)
  have HK := Lib.hid (fun W0 => kindOf_any hW W0)
  have hb := hR.lt
  obtain ⟨⟨c0, f0⟩, c1, f1⟩ := at_two h16
  have hw : IntKind.i32.wrap (x : Int) = (x : Int) := wrap32 _ (by omega) (by omega)
  obtain ⟨hs1, hs2, _⟩ := hW.size
  have hi : i ≤ 5 := by omega
  have hlt : ((i : Int) + 1 < (W.size : Int)) = False := by simp only [List.length_cons, List.length_nil] at hs1; simp only [eq_iff_iff, iff_false]; omega
  have hsm : W.size ≤ 1000 := by omega
  have HG : Hid (∀ q w1, Below (w.drewN q).heap.size (w.drewN q) w1 → (w1.cell? ⟨b, o + 16, none⟩ = some (.string W) ∧ w1.frozen? ⟨b, o + 16, none⟩ = false) ∧ (w1.cell? ⟨b, o + 17, none⟩ = some (.int .i64 i) ∧ w1.frozen? ⟨b, o + 17, none⟩ = false) ∧
      (∀ u p, Calls Try.prog 24 #[.pointer (some ⟨b, o, none⟩), .agg #[.int .u8 k, .string ⟨#[]⟩, .bool false, .int .u64 0]] ((w1.setCell ⟨b, o + 17, none⟩ u).drewN p) fun r w' => ∃ v, r = .returned v ∧ Tks w w' v [sgnT k] ∧ At w' b o (lxZ 0) ∧ Sub b o 18 w w')) := Lib.hid (fun q w1 hB => by
    have hB' : Below w.heap.size w w1 := ⟨hB.os, hB.tape, hB.output, hB.size, hB.block⟩
    have hA := h16.keep (hB'.block b hb)
    refine ⟨(at_two hA).1, (at_two hA).2, fun u p => ?_⟩
    have hs : Sub b o 18 w ((w1.setCell ⟨b, o + 17, none⟩ u).drewN p) := ((sub_of_below hB' hb o 18).setCell (o + 17) u (by omega)).drewN p
    refine (lend_at (hR.sub hs) (sgnT k)).mono ?_
    rintro r w' ⟨v, rfl, hT, hA2, hS⟩
    exact ⟨v, rfl, hT.old hs.step.size, hA2, hs.trans hS⟩)
  clear hW h16 hs1 hs2 hR hb
  go_enter Try.func21, Try.ntmps21
  go_wp2
  go_region_with (go_at_call 28; refine (HL.out _).mono ?_; rintro r w1 ⟨rfl, hb1⟩)
  all_goals
    obtain ⟨⟨d0, e0⟩, ⟨d1, e1⟩, hX⟩ := HG.out 1 w1 hb1
    have HX := Lib.hid hX
    clear hb1 hX c0 f0 c1 f1
    go_wp2
    go_quiet (fail)
    go_wp2_with fail
    refine (HK.out _).mono ?_
    rintro r w3 ⟨rfl, rfl⟩
    go_wp2_with fail
    refine (HX.out _ _).mono ?_
    rintro r w4 ⟨v, rfl, hT⟩
    have HT := Lib.hid hT
    clear hT
    go_wp2
    go_ret2
    exact ⟨v, rfl, HT.out⟩
/-- LETTER. -/
theorem letter_at {w : World} {b o : Nat} {k : Nat} {r : List Nat} (h : LAt w b o (.word k r)) (y : UInt8) :
    Calls Try.prog 21 #[.pointer (some ⟨b, o, none⟩), .int .u8 y.toNat] w fun r' w' => ∃ v, r' = .returned (.tuple #[v, .int .i64 (errX (stepX (.word k r) y).1)]) ∧ TPostL w b o (stepX (.word k r) y) v w' := by
  have hb := h.lt
  obtain ⟨W, i, hW, h0, h10, h16, hR⟩ := h
  obtain ⟨_, _, hne⟩ := hW.size
  match r, hne with
  | x :: q, _ =>
  have hy : y.toNat < 256 := y.toNat_lt
  by_cases hxy : y.toNat = x
  · by_cases hq : q = []
    · subst hq
      have e : stepX (.word k [x]) y = (.idle, [sgnT k]) := by simp only [stepX]; rw [if_pos hxy, if_pos trivial]
      rw [e, hxy]
      refine (letter_last hW (by omega) h16 hR).mono ?_
      rintro r' w' ⟨v, rfl, hT, hA, hS⟩
      exact ⟨v, rfl, LPost.idle hA hS, fun _ => hT⟩
    · have e : stepX (.word k (x :: q)) y = (.word k q, []) := by simp only [stepX]; rw [if_pos hxy, if_neg hq]
      rw [e, hxy]
      refine (letter_more hW (by omega) hq h16 hb).mono ?_
      rintro r' w' ⟨rfl, w1, hB, rfl⟩
      have hs1 := sub_of_below hB hb (o + 17) 1
      have hs2 := sub_setCell (b := b) (o := o + 17) (n := 1) w1 (o + 17) (.int .i64 ((i + 1 : Nat) : Int)) (by omega)
      have hs := hs1.trans hs2
      refine ⟨_, rfl, ⟨hs.widen (by omega) (by omega), fun _ => ⟨W, i + 1, hW.next hq, h0.sub hs (by simp only [List.length_cons, List.length_nil]; omega), h10.sub hs (by simp only [List.length_cons, List.length_nil]; omega), ?_, hR.sub hs⟩⟩, fun _ => Tks.nil_ _ _⟩
      exact (h16.keep (hB.block b hb)).set 1 (by simp) _
  · have e : stepX (.word k (x :: q)) y = (.bad 2, []) := by simp only [stepX]; rw [if_neg hxy]
    rw [e]
    refine (letter_no hW h16 y.toNat hy hxy).mono ?_
    rintro r' w' ⟨rfl, hB⟩
    exact ⟨_, rfl, ⟨sub_of_below hB hb _ _, fun e => absurd e (by decide)⟩, fun e => absurd e (by decide)⟩
end Go.Proofs.Yteonbajndghfcaa
