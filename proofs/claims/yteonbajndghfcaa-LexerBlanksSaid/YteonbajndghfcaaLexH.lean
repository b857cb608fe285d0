/-
  CONTRACTS of lexer.Lexer, part H: digit.
-/
import Derived.Test.YteonbajndghfcaaLexG
import Derived.OwnWalk
namespace Go.Proofs.Yteonbajndghfcaa
open Go.RowKit
open Go.Lib
theorem start_len (x : Nat) : (startX x).2.length ≤ 1 := by
  unfold startX
  repeat' split
  all_goals simp
theorem step_stay {d : Dec} {x : Nat} (he : errD (stepD d x).1 = 0) (ht : (stepD d x).2 = false) : (stepD d x).1 = d := by
  cases d with
  | bad f => rfl
  | num p m v =>
    simp only [stepD] at he ht ⊢
    split
    · rename_i h; rw [if_pos h] at ht; cases ht
    · rename_i h
      rw [if_neg h] at he ht
      split
      · rename_i h2
        rw [if_pos h2] at ht
        split at ht <;> cases ht
      · rename_i h2
        rw [if_neg h2] at he
        split
        · rename_i h3
          rw [if_pos h3] at he
          cases he
        · rename_i h3
          rw [if_neg h3] at he
          split
          · rename_i h4
            rw [if_pos h4] at he
            cases he
          · rfl
theorem sub_grown {b o n : Nat} {w w3 w4 : World} {row : Option Nat} (h : Sub b o n w w3) (g : w3.grownBy w4 row) (hb : b < w.heap.size) (hr : ∀ k, row = some k → w.heap.size ≤ k) : Sub b o n w w4 := by
  have hg : ∀ k, k < w.heap.size → w4.heap[k]? = w3.heap[k]? := fun k hk => g.block k (Nat.lt_of_lt_of_le hk h.step.size) (fun e => by have := hr k e.symm; omega)
  refine ⟨⟨g.os.trans h.step.os, g.tape.trans h.step.tape, g.output.trans h.step.output, Nat.le_trans h.step.size g.size, fun k hk hF => (hg k hk).trans (h.step.block k hk hF), fun _ h => .inl h⟩, fun c t fr hc => ?_, fun k hk => ?_⟩
  · obtain ⟨c', hc', hs⟩ := h.shape c t fr hc
    exact ⟨c', (hg b hb).trans hc', hs⟩
  · exact (World.cell?_of_block (w := w3) (a := ⟨b, k, none⟩) (hg b hb)).trans (h.cell k hk)
set_option maxRecDepth 100000 in
set_option maxHeartbeats 1000000 in
theorem digit_take {w : World} {b o : Nat} (tk : Bool) (e : Nat) (hq : tk = true ∨ e ≠ 0) (y : Nat) (R : World → Prop)
    (hS : Calls Try.prog 27 #[.pointer (some ⟨b, o + 11, none⟩), .int .u8 y] w fun r w' => r = .returned (.tuple #[.bool tk, .int .i64 e]) ∧ R w') :
    Calls Try.prog 20 #[.pointer (some ⟨b, o, none⟩), .int .u8 y] w fun r w' => r = .returned (.tuple #[.slice none 0 0, .int .i64 e]) ∧ R w' := by
  have HS := Lib.hid hS
  clear hS
  cases tk with
  | true =>
    clear hq
    go_enter Try.func20, Try.ntmps20
    go_wp2_with fail
    refine HS.out.mono ?_
    rintro r w1 ⟨rfl, hR⟩
    have HR := Lib.hid hR
    clear hR
    go_wp2
    go_ret2
    exact ⟨rfl, HR.out⟩
  | false =>
    have he : e ≠ 0 := by rcases hq with h | h; cases h; exact h
    have hz : ((e : Int) != 0) = true := by simp; omega
    clear hq he
    go_enter Try.func20, Try.ntmps20
    go_wp2_with fail
    refine HS.out.mono ?_
    rintro r w1 ⟨rfl, hR⟩
    have HR := Lib.hid hR
    clear hR
    go_wp2
    go_ret2
    exact ⟨rfl, HR.out⟩
set_option maxRecDepth 100000 in
set_option maxHeartbeats 1000000 in
theorem digit_err {w : World} {b o : Nat} (y e : Nat) (he : e ≠ 0) (R S : World → Prop)
    (hS : Calls Try.prog 27 #[.pointer (some ⟨b, o + 11, none⟩), .int .u8 y] w fun r w' => r = .returned (.tuple #[.bool false, .int .i64 0]) ∧ R w')
    (hE : ∀ w1, R w1 → Calls Try.prog 18 #[.pointer (some ⟨b, o, none⟩)] w1 fun r w' => ∃ v, r = .returned (.tuple #[v, .int .i64 e]) ∧ S w') :
    Calls Try.prog 20 #[.pointer (some ⟨b, o, none⟩), .int .u8 y] w fun r w' => r = .returned (.tuple #[.slice none 0 0, .int .i64 e]) ∧ S w' := by
  have HS := Lib.hid hS
  have HE := Lib.hid hE
  have hz : ((e : Int) != 0) = true := by simp; omega
  clear hS hE he
  go_enter Try.func20, Try.ntmps20
  go_wp2_with fail
  refine HS.out.mono ?_
  rintro r w1 ⟨rfl, hR⟩
  have HR := Lib.hid hR
  clear hR
  go_wp2_with fail
  refine (HE.out w1 HR.out).mono ?_
  rintro r w2 ⟨v, rfl, hS2⟩
  have HS2 := Lib.hid hS2
  clear hS2
  go_wp2
  go_ret2
  exact ⟨rfl, HS2.out⟩
set_option maxRecDepth 100000 in
set_option maxHeartbeats 2000000 in
theorem digit_both {w : World} {b o : Nat} (y : Nat) (t : Tk) (L : List Tk) (hL : L.length ≤ 1) (E : Nat) (R : World → Prop) (hb : b < w.heap.size)
    (hS : Calls Try.prog 27 #[.pointer (some ⟨b, o + 11, none⟩), .int .u8 y] w fun r w' => r = .returned (.tuple #[.bool false, .int .i64 0]) ∧ R w' ∧ Sub b o 18 w w')
    (hE : ∀ w1, R w1 → Calls Try.prog 18 #[.pointer (some ⟨b, o, none⟩)] w1 fun r w' => ∃ v, r = .returned (.tuple #[v, .int .i64 0]) ∧ Sub b o 18 w1 w' ∧ Tks w1 w' v [t] ∧ At w' b o (lxZ 0))
    (s : Lx) (hB : ∀ w2, At w2 b o (lxZ 0) → Calls Try.prog 22 #[.pointer (some ⟨b, o, none⟩), .int .u8 y] w2 fun r w' => ∃ v, r = .returned (.tuple #[v, .int .i64 E]) ∧ Tks w2 w' v L ∧ LPost w2 b o s w') :
    Calls Try.prog 20 #[.pointer (some ⟨b, o, none⟩), .int .u8 y] w fun r w' => ∃ v, r = .returned (.tuple #[v, .int .i64 E]) ∧ Tks w w' v ([t] ++ L) ∧ LPost w b o s w' := by
  have HS := Lib.hid hS
  have HE := Lib.hid hE
  have HBG := Lib.hid hB
  have HBL := Lib.hid hb
  clear hS hE hB hb
  go_enter Try.func20, Try.ntmps20
  go_wp2_with fail
  refine HS.out.mono ?_
  rintro r w1 ⟨rfl, hR, hs1⟩
  have HR := Lib.hid (And.intro hR hs1)
  clear hR hs1
  go_wp2_with fail
  refine (HE.out w1 HR.out.1).mono ?_
  rintro r w2 ⟨v1, rfl, hs2, hT1, hA⟩
  obtain ⟨a1, c1, rfl⟩ := hT1.form
  have HA := Lib.hid (And.intro hA (And.intro hs2 hT1))
  clear hs2 hT1 hA
  go_wp2_with fail
  refine (HBG.out w2 HA.out.1).mono ?_
  rintro r w3 ⟨v2, rfl, hT2, hP⟩
  obtain ⟨a2, c2, rfl⟩ := hT2.form
  have hT1' : Tks w1 w3 (.slice a1 [t].length c1) [t] := HA.out.2.2.sub hP.1 (Nat.lt_of_lt_of_le HBL.out HR.out.2.step.size)
  have HT := Lib.hid (And.intro hT1' (And.intro hT2 hP))
  clear hT1' hT2 hP
  have HW1 : Hid (Win w3 42 4 (.slice a1 1 c1) 1 (tksC [t])) := Lib.hid HT.out.1.win
  have HW2 : Hid (Win w3 42 4 (.slice a2 L.length c2) L.length (tksC L)) := Lib.hid HT.out.2.1.win
  generalize hn : L.length = n at *
  go_wp2_with (at_builtin; refine wpList_append_win rfl _ _ _ rfl Try.underlying36 info_tk rfl rfl HW1.out _ rfl n _ (HW2.out.src Try.underlying36 (tksC_one _)) ?e1 ?e2 ?_)
  case e1 => unfold maxLen; omega
  case e2 => omega
  intro v3 w4 hW3 hG3 hO3
  have HF : Hid (Tks w w4 v3 ([t] ++ L) ∧ LPost w b o s w4) := Lib.hid (by
    have w01 : w.heap.size ≤ w1.heap.size := HR.out.2.step.size
    have w12 : w1.heap.size ≤ w2.heap.size := HA.out.2.1.step.size
    have w23 : w2.heap.size ≤ w3.heap.size := HT.out.2.2.1.step.size
    have hrow : ∀ k, (Value.slice a1 1 c1).ownBlock = some k → w.heap.size ≤ k := fun k hk => Nat.le_trans w01 (HT.out.1.new k ((ob_iff _ _).1 hk))
    have hs3 : Sub b o 18 w w3 := (HR.out.2.trans HA.out.2.1).trans HT.out.2.2.1
    have hs4 := sub_grown hs3 hG3.out HBL.out hrow
    refine ⟨⟨?_, fun k hk => ?_⟩, hs4, fun e => (HT.out.2.2.2 e).keep (hG3.out.block b (Nat.lt_of_lt_of_le HBL.out hs3.step.size) (fun e => ?_))⟩
    · have := hW3.out
      rw [← tksC_append] at this
      simpa [hn, Nat.add_comm] using this
    · rcases hO3.out with e | ⟨e, _⟩
      · exact hrow k (e ▸ (ob_iff _ _).2 hk)
      · have h2 := (ob_iff _ _).2 hk
        rw [e] at h2
        cases h2
        omega
    · have := HT.out.1.new b ((ob_iff _ _).1 e.symm)
      have := HBL.out
      omega)
  clear hW3 hG3 hO3
  go_wp2
  go_ret2
  exact ⟨v3, rfl, HF.out⟩
theorem start_bad (x e : Nat) (h : (startX x).1 = .bad e) : e ≠ 0 := by
  unfold startX at h
  repeat' split at h
  all_goals first | cases h; decide | cases h
/-- DIGIT. -/
theorem digit_at {w : World} {b o : Nat} {d : Dec} (h : LAt w b o (.num d)) (y : UInt8) :
    Calls Try.prog 20 #[.pointer (some ⟨b, o, none⟩), .int .u8 y.toNat] w fun r w' => ∃ v, r = .returned (.tuple #[v, .int .i64 (errX (stepX (.num d) y).1)]) ∧ TPostL w b o (stepX (.num d) y) v w' := by
  have hb := h.lt
  have hD := h.2.2.2.1
  have hS := dstep_at hD y.toNat
  have hP : ∀ w', DPost w b (o + 11) (stepD d y.toNat).1 w' → Sub b o 18 w w' ∧ (errD (stepD d y.toNat).1 = 0 → LAt w' b o (.num (stepD d y.toNat).1)) := fun w' hp =>
    ⟨hp.2.widen (by omega) (by omega), fun he => ⟨he, h.2.1.sub hp.2 (by simp only [List.length_cons, List.length_nil]; omega), h.2.2.1.sub hp.2 (by simp only [List.length_cons, List.length_nil]; omega), hp.1, h.2.2.2.2.sub hp.2⟩⟩
  simp only [stepX]
  by_cases he : errD (stepD d y.toNat).1 = 0
  · rw [if_neg (by rw [he]; exact fun h => h rfl)]
    by_cases ht : (stepD d y.toNat).2 = true
    · rw [if_pos ht]
      refine (digit_take (stepD d y.toNat).2 _ (.inl ht) y.toNat _ hS).mono ?_
      rintro r w' ⟨rfl, hp⟩
      obtain ⟨hs, hl⟩ := hP w' hp
      exact ⟨_, by rw [he]; rfl, ⟨hs, fun _ => hl he⟩, fun _ => Tks.nil_ _ _⟩
    · have ht' : (stepD d y.toNat).2 = false := by simpa using ht
      rw [if_neg ht]
      rw [step_stay he ht'] at hS hP
      rw [ht', h.1] at hS
      have hS' : Calls Try.prog 27 #[.pointer (some ⟨b, o + 11, none⟩), .int .u8 y.toNat] w fun r w' => r = .returned (.tuple #[.bool false, .int .i64 0]) ∧ LAt w' b o (.num d) ∧ Sub b o 18 w w' := hS.mono (by
        rintro r w' ⟨rfl, hp⟩
        exact ⟨rfl, (hP w' hp).2 h.1, (hP w' hp).1⟩)
      by_cases h2 : (endD d).2 = 0
      · rw [if_neg (by rw [h2]; exact fun h => h rfl)]
        refine (digit_both y.toNat ⟨110, [], (endD d).1⟩ (startX y.toNat).2 (start_len _) (errX (startX y.toNat).1) (fun w' => LAt w' b o (.num d)) hb hS' (fun w1 h1 => (lendnum_at h1).mono (by
          rintro r w' ⟨v, rfl, hs, hk⟩
          exact ⟨v, by rw [h2]; rfl, hs, hk h2⟩)) (startX y.toNat).1 (fun w2 hA => begin_at hA y.toNat)).mono ?_
        rintro r w' ⟨v, rfl, hT, hL⟩
        have hsb := start_bad y.toNat
        generalize startX y.toNat = q at *
        obtain ⟨q1, q2⟩ := q
        cases q1 with
        | bad e =>
          exact ⟨v, rfl, hL, fun e0 => absurd e0 (hsb e rfl)⟩
        | idle => exact ⟨v, rfl, hL, fun _ => hT⟩
        | str s t => exact ⟨v, rfl, hL, fun _ => hT⟩
        | num d => exact ⟨v, rfl, hL, fun _ => hT⟩
        | word k r => exact ⟨v, rfl, hL, fun _ => hT⟩
      · rw [if_pos h2]
        refine (digit_err y.toNat (endD d).2 h2 (fun w' => LAt w' b o (.num d) ∧ Sub b o 18 w w') (fun w' => Sub b o 18 w w') hS' (fun w1 h1 => (lendnum_at h1.1).mono (by
          rintro r w' ⟨v, rfl, hs, _⟩
          exact ⟨v, rfl, h1.2.trans hs⟩))).mono ?_
        rintro r w' ⟨rfl, hs⟩
        exact ⟨_, rfl, ⟨hs, fun e => absurd e h2⟩, fun e => absurd e h2⟩
  · rw [if_pos he]
    refine (digit_take (stepD d y.toNat).2 _ (.inr he) y.toNat _ hS).mono ?_
    rintro r w' ⟨rfl, hp⟩
    exact ⟨_, rfl, ⟨(hP w' hp).1, fun e => absurd e he⟩, fun e => absurd e he⟩
end Go.Proofs.Yteonbajndghfcaa
