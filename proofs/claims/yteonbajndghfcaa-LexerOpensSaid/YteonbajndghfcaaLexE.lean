/-
  CONTRACTS of lexer.Lexer, part E: inner (a byte of a string), letter (a byte of a word).
-/
import Derived.Test.YteonbajndghfcaaLexD
import Derived.Test.YteonbajndghfcaaBits
import Derived.Deep.QuietTactic
import Derived.Deep.RegionWith
namespace Go.Proofs.Yteonbajndghfcaa
open Go.RowKit
open Go.Lib
theorem at_ten {w : World} {b o : Nat} {v : Value} (h : At w b o [v]) : w.cell? ⟨b, o, none⟩ = some v ∧ w.frozen? ⟨b, o, none⟩ = false := h 0 v rfl
theorem u8eq (x : UInt8) (y : Nat) (h : x.toNat ≠ y) : ((x.toNat : Int) == (y : Int)) = false := by rw [beq_eq_false_iff_ne]; omega
/-- What inner, letter, digit tell: the tokens only without an error. -/
def TPostL (w : World) (b o : Nat) (p : Lx × List Tk) (v : Value) (w' : World) : Prop := LPost w b o p.1 w' ∧ (errX p.1 = 0 → Tks w w' v p.2)
set_option maxRecDepth 100000 in
set_option maxHeartbeats 1000000 in
theorem inner_end {w : World} {b o : Nat} {s : Ins} {t : List UInt8} (h : LAt w b o (.str s t)) (hw : wholeI s = true) :
    Calls Try.prog 19 #[.pointer (some ⟨b, o, none⟩), .int .u8 34] w fun r w' => ∃ v, r = .returned (.tuple #[v, .int .i64 0]) ∧ TPostL w b o (.idle, [⟨115, t, (false, 0)⟩]) v w' := by
  have HW := Lib.hid (ewhole_at h.2.2.1)
  rw [hw] at HW
  obtain ⟨c10, f10⟩ := at_ten h.2.2.2.1
  have HX : Hid (Calls Try.prog 24 #[.pointer (some ⟨b, o, none⟩), .agg #[.int .u8 115, .string ⟨t.toArray⟩, .bool false, .int .u64 0]] w fun r w' => ∃ v, r = .returned v ∧ Tks w w' v [⟨115, t, (false, 0)⟩] ∧ At w' b o (lxZ 0) ∧ Sub b o 18 w w') := Lib.hid (lend_at h.room ⟨115, t, (false, 0)⟩)
  obtain ⟨X, hX⟩ : ∃ X : ByteArray, (⟨t.toArray⟩ : ByteArray) = X := ⟨_, rfl⟩
  rw [hX] at c10 HX
  clear h hw hX
  go_enter Try.func19, Try.ntmps19
  go_wp2_with fail
  refine HW.out.mono ?_
  rintro r w1 ⟨rfl, rfl⟩
  go_wp2_with fail
  refine HX.out.mono ?_
  rintro r w1 ⟨v, rfl, hT, hA, hs⟩
  have HT : Hid (TPostL w b o (.idle, [⟨115, t, (false, 0)⟩]) v w1) := Lib.hid ⟨LPost.idle hA hs, fun _ => hT⟩
  clear hT hA hs
  go_wp2
  go_ret2
  exact ⟨v, rfl, HT.out⟩
set_option maxRecDepth 100000 in
set_option maxHeartbeats 2000000 in
theorem inner_go {w : World} {b o : Nat} {s : Ins} {t : List UInt8} (h : LAt w b o (.str s t)) (x : UInt8) (hx : ¬ (x.toNat = 34 ∧ wholeI s = true)) :
    Calls Try.prog 19 #[.pointer (some ⟨b, o, none⟩), .int .u8 x.toNat] w fun r w' => r = .returned (.tuple #[.slice none 0 0, .int .i64 (errX (stepX (.str s t) x).1)]) ∧ TPostL w b o (stepX (.str s t) x) (.slice none 0 0) w' := by
  obtain ⟨⟨he, ht⟩, h0, hE, h10, hR⟩ := h
  have hS := estep_at hE x
  have hlen := step_len (hE.wf he) x
  simp only [stepX, insE_eq]
  rw [if_neg hx]
  generalize (stepI s x).1 = s1 at *
  generalize (stepI s x).2 = l at *
  have hq : x.toNat = 34 → wholeI s = false := fun h => by simpa using fun h2 => hx ⟨h, h2⟩
  have HW := Lib.hid (ewhole_at hE)
  obtain ⟨c10, f10⟩ := at_ten h10
  have hl1 : (⟨t.toArray⟩ : ByteArray).size = t.length := size_of t
  have hl2 : (⟨l.toArray⟩ : ByteArray).size = l.length := size_of l
  have hcat : (⟨t.toArray⟩ : ByteArray) ++ ⟨l.toArray⟩ = ⟨(t ++ l).toArray⟩ := cat_of t l
  have HF : Hid (∀ w1, EAt w1 b (o + 2) s1 → Sub b (o + 2) 8 w w1 → (w1.cell? ⟨b, o + 10, none⟩ = some (.string ⟨t.toArray⟩) ∧ w1.frozen? ⟨b, o + 10, none⟩ = false) ∧
      (errI s1 ≠ 0 → LPost w b o (.bad (errI s1)) w1) ∧ LPost w b o (.bad 5) w1 ∧ (errI s1 = 0 → (t ++ l).length ≤ 200 → LPost w b o (.str s1 (t ++ l)) (w1.setCell ⟨b, o + 10, none⟩ (.string ⟨(t ++ l).toArray⟩)))) := Lib.hid (by
    intro w1 hE1 hs1
    have hs2 := hs1.widen (o' := o) (n' := 18) (by omega) (by omega)
    have a10 := h10.sub hs1 (by simp only [List.length_cons, List.length_nil]; omega)
    refine ⟨at_ten a10, fun h => ⟨hs2, fun e => absurd e h⟩, ⟨hs2, fun e => absurd e (by decide)⟩, fun e1 e2 => ?_⟩
    have hs3 := sub_setCell (b := b) (o := o + 10) (n := 1) w1 (o + 10) (.string ⟨(t ++ l).toArray⟩) (by omega)
    exact ⟨hs2.trans (hs3.widen (by omega) (by omega)), fun _ => ⟨⟨e1, e2⟩, (h0.sub hs1 (by simp only [List.length_cons, List.length_nil]; omega)).sub hs3 (by simp only [List.length_cons, List.length_nil]; omega), hE1.sub hs3 (by omega), a10.set 0 (by simp) _, (hR.sub hs1).sub hs3⟩⟩)
  have hlt : (t ++ l).length = t.length + l.length := List.length_append
  obtain ⟨X, hX⟩ : ∃ X : ByteArray, (⟨t.toArray⟩ : ByteArray) = X := ⟨_, rfl⟩
  obtain ⟨Y, hY⟩ : ∃ Y : ByteArray, (⟨l.toArray⟩ : ByteArray) = Y := ⟨_, rfl⟩
  obtain ⟨Z, hZ⟩ : ∃ Z : ByteArray, (⟨(t ++ l).toArray⟩ : ByteArray) = Z := ⟨_, rfl⟩
  obtain ⟨E, hEE⟩ : ∃ E : Nat, errI s1 = E := ⟨_, rfl⟩
  simp only [hX, hY, hZ, hEE] at hS c10 hl1 hl2 hcat HF ⊢
  have HS := Lib.hid hS
  have key : Calls Try.prog 19 #[.pointer (some ⟨b, o, none⟩), .int .u8 x.toNat] w fun r w' => (E ≠ 0 → r = .returned (.tuple #[.slice none 0 0, .int .i64 E]) ∧ LPost w b o (.bad E) w') ∧
      (E = 0 → 200 < (t ++ l).length → r = .returned (.tuple #[.slice none 0 0, .int .i64 5]) ∧ LPost w b o (.bad 5) w') ∧ (E = 0 → (t ++ l).length ≤ 200 → r = .returned (.tuple #[.slice none 0 0, .int .i64 0]) ∧ LPost w b o (.str s1 (t ++ l)) w') := by
    rw [hlt]
    generalize t.length = n1 at *
    generalize l.length = n2 at *
    have HLT := Lib.hid hlt
    clear hS hE h0 h10 hR hx hX hY hZ hlt
    by_cases h34 : x.toNat = 34
    · have hw : wholeI s = false := hq h34
      rw [hw] at HW
      rw [h34]
      rw [h34] at HS
      clear hq hw h34
      by_cases hE0 : E = 0
      · subst hE0
        by_cases hbig : 200 < n1 + n2
        · have hb : ((200 : Int) < (n1 : Int) + (n2 : Int)) = True := by simp only [eq_iff_iff, iff_true]; omega
          go_enter Try.func19, Try.ntmps19
          go_wp2_with fail
          refine HW.out.mono ?_
          rintro r w1 ⟨rfl, rfl⟩
          go_wp2_with fail
          refine HS.out.mono ?_
          rintro r w1 ⟨rfl, hE1, hs1⟩
          obtain ⟨⟨k10, g10⟩, hh⟩ := HF.out w1 hE1 hs1
          have HH := Lib.hid hh
          clear hE1 hs1 hh
          go_wp2
          go_ret2
          exact ⟨fun h => absurd rfl h, fun _ _ => ⟨rfl, HH.out.2.1⟩, fun _ h => absurd hbig (by omega)⟩
        · have hb : ((200 : Int) < (n1 : Int) + (n2 : Int)) = False := by simp only [eq_iff_iff, iff_false]; omega
          go_enter Try.func19, Try.ntmps19
          go_wp2_with fail
          refine HW.out.mono ?_
          rintro r w1 ⟨rfl, rfl⟩
          go_wp2_with fail
          refine HS.out.mono ?_
          rintro r w1 ⟨rfl, hE1, hs1⟩
          obtain ⟨⟨k10, g10⟩, hh⟩ := HF.out w1 hE1 hs1
          have HH := Lib.hid hh
          clear hE1 hs1 hh
          go_wp2
          go_ret2
          exact ⟨fun h => absurd rfl h, fun _ h => absurd h hbig, fun _ h => ⟨rfl, HH.out.2.2 (by trivial) (by rw [HLT.out]; exact h)⟩⟩
      · have hz : ((E : Int) != 0) = true := by simp; omega
        go_enter Try.func19, Try.ntmps19
        go_wp2_with fail
        refine HW.out.mono ?_
        rintro r w1 ⟨rfl, rfl⟩
        go_wp2_with fail
        refine HS.out.mono ?_
        rintro r w1 ⟨rfl, hE1, hs1⟩
        obtain ⟨⟨k10, g10⟩, hh⟩ := HF.out w1 hE1 hs1
        have HH := Lib.hid hh
        clear hE1 hs1 hh
        go_wp2
        go_ret2
        exact ⟨fun h => ⟨rfl, HH.out.1 h⟩, fun h => absurd h hE0, fun h => absurd h hE0⟩
    · have h34' : ((x.toNat : Int) == 34) = false := u8eq x 34 h34
      clear hq HW h34
      generalize x.toNat = X34 at *
      by_cases hE0 : E = 0
      · subst hE0
        by_cases hbig : 200 < n1 + n2
        · have hb : ((200 : Int) < (n1 : Int) + (n2 : Int)) = True := by simp only [eq_iff_iff, iff_true]; omega
          go_enter Try.func19, Try.ntmps19
          go_wp2_with fail
          refine HS.out.mono ?_
          rintro r w1 ⟨rfl, hE1, hs1⟩
          obtain ⟨⟨k10, g10⟩, hh⟩ := HF.out w1 hE1 hs1
          have HH := Lib.hid hh
          clear hE1 hs1 hh
          go_wp2
          go_ret2
          exact ⟨fun h => absurd rfl h, fun _ _ => ⟨rfl, HH.out.2.1⟩, fun _ h => absurd hbig (by omega)⟩
        · have hb : ((200 : Int) < (n1 : Int) + (n2 : Int)) = False := by simp only [eq_iff_iff, iff_false]; omega
          go_enter Try.func19, Try.ntmps19
          go_wp2_with fail
          refine HS.out.mono ?_
          rintro r w1 ⟨rfl, hE1, hs1⟩
          obtain ⟨⟨k10, g10⟩, hh⟩ := HF.out w1 hE1 hs1
          have HH := Lib.hid hh
          clear hE1 hs1 hh
          go_wp2
          go_ret2
          exact ⟨fun h => absurd rfl h, fun _ h => absurd h hbig, fun _ h => ⟨rfl, HH.out.2.2 (by trivial) (by rw [HLT.out]; exact h)⟩⟩
      · have hz : ((E : Int) != 0) = true := by simp; omega
        go_enter Try.func19, Try.ntmps19
        go_wp2_with fail
        refine HS.out.mono ?_
        rintro r w1 ⟨rfl, hE1, hs1⟩
        obtain ⟨⟨k10, g10⟩, hh⟩ := HF.out w1 hE1 hs1
        have HH := Lib.hid hh
        clear hE1 hs1 hh
        go_wp2
        go_ret2
        exact ⟨fun h => ⟨rfl, HH.out.1 h⟩, fun h => absurd h hE0, fun h => absurd h hE0⟩
  refine key.mono ?_
  rintro r w' ⟨k1, k2, k3⟩
  by_cases hE0 : E = 0
  · rw [if_neg (by rw [hE0]; simp)]
    by_cases hbig : 200 < (t ++ l).length
    · rw [if_pos hbig]
      obtain ⟨rfl, hp⟩ := k2 hE0 hbig
      exact ⟨rfl, hp, fun e => absurd e (by decide)⟩
    · rw [if_neg hbig]
      obtain ⟨rfl, hp⟩ := k3 hE0 (by omega)
      exact ⟨rfl, hp, fun _ => Tks.nil_ _ _⟩
  · rw [if_pos hE0]
    obtain ⟨rfl, hp⟩ := k1 hE0
    exact ⟨rfl, hp, fun e => absurd e hE0⟩
end Go.Proofs.Yteonbajndghfcaa
