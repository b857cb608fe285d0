/-
  CONTRACTS of lexer.Lexer, part D: endNumber, inner, digit, letter.
-/
import Derived.Test.YteonbajndghfcaaLexC
namespace Go.Proofs.Yteonbajndghfcaa
open Go.RowKit
open Go.Lib
set_option maxRecDepth 100000 in
set_option maxHeartbeats 1000000 in
/-- endNumber. -/
theorem lendnum_at {w : World} {b o : Nat} {d : Dec} (h : LAt w b o (.num d)) :
    Calls Try.prog 18 #[.pointer (some ⟨b, o, none⟩)] w fun r w' => ∃ v, r = .returned (.tuple #[v, .int .i64 (endD d).2]) ∧ Sub b o 18 w w' ∧ ((endD d).2 = 0 → Tks w w' v [⟨110, [], (endD d).1⟩] ∧ At w' b o (lxZ 0)) := by
  have hb := h.lt
  have hR := h.room
  have hE := dend_at h.2.2.2.1
  obtain ⟨⟨⟨q, n⟩, e⟩, he⟩ : ∃ p, endD d = p := ⟨_, rfl⟩
  rw [he] at hE ⊢
  simp only [] at hE ⊢
  have HR := Lib.hid (And.intro hb hR)
  have HE := Lib.hid hE
  clear hE he h hb hR
  by_cases h0 : e = 0
  · subst h0
    go_enter Try.func18, Try.ntmps18
    go_wp2_with fail
    refine HE.out.mono ?_
    rintro r w1 ⟨rfl, hB⟩
    have HB := Lib.hid hB
    clear hB
    obtain ⟨W, hW⟩ : ∃ W, w1.alloc (.cells #[.bool q, .int .u64 n] 40) = W := ⟨_, rfl⟩
    have hBW : Below w.heap.size w W := by rw [← hW]; exact HB.out.alloc HB.out.size _
    have hRW : Room W b o 18 := HR.out.2.keep (hBW.block b HR.out.1)
    have hsW : Sub b o 18 w W := sub_of_below hBW HR.out.1 _ _
    have c0 : W.cell? ⟨w1.heap.size, 0, none⟩ = some (.bool q) := by rw [← hW]; exact (blk_new w1 _ _).cell 0
    have c1 : W.cell? ⟨w1.heap.size, 1, none⟩ = some (.int .u64 n) := by rw [← hW]; exact (blk_new w1 _ _).cell 1
    have HX : Hid (Calls Try.prog 24 #[.pointer (some ⟨b, o, none⟩), .agg #[.int .u8 110, .string ⟨#[]⟩, .bool q, .int .u64 n]] W fun r w' => ∃ v, r = .returned v ∧ Tks W w' v [⟨110, [], (q, n)⟩] ∧ At w' b o (lxZ 0) ∧ Sub b o 18 W w') := Lib.hid (lend_at hRW ⟨110, [], (q, n)⟩)
    have HS := Lib.hid (And.intro hsW hBW)
    clear hBW hRW hsW
    go_wp2_with (rw [hW])
    refine HX.out.mono ?_
    rintro r w2 ⟨v, rfl, hT, hA, hs⟩
    have HT := Lib.hid (And.intro hT (And.intro hA hs))
    clear hT hA hs
    go_wp2
    go_ret2
    exact ⟨v, rfl, HS.out.1.trans HT.out.2.2, fun _ => ⟨HT.out.1.old HS.out.2.size, HT.out.2.1⟩⟩
  · have hz : ((e : Int) != 0) = true := by simp; omega
    go_enter Try.func18, Try.ntmps18
    go_wp2_with fail
    refine HE.out.mono ?_
    rintro r w1 ⟨rfl, hB⟩
    have HB := Lib.hid hB
    clear hB
    go_wp2
    go_ret2
    refine ⟨_, rfl, ?_, fun h => absurd h h0⟩
    exact sub_of_below (HB.out.alloc HB.out.size _) HR.out.1 _ _
end Go.Proofs.Yteonbajndghfcaa
