/-
  LAWS of chapter 10: alive; what laws keep of a Lexer, and of lists of tokens that grow.
-/
import Derived.Test.YteonbajndghfcaaLexJ
import Derived.Deep.DeepCutAuto
import Derived.Lib.SmallJoins
namespace Go.Proofs.Yteonbajndghfcaa
open Go.RowKit
open Go.Lib
/-- Tokens that were appended. -/
theorem tks_more {w0 w w2 : World} {v v' : Value} {L K : List Tk} {m : Nat} (h : Tks w0 w v L) (hm : K.length = m) (hs : w0.heap.size ≤ w.heap.size) (hW : Win w2 42 4 v' (L.length + m) (tksC L ++ tksC K))
    (hO : v'.ownBlock = v.ownBlock ∨ v'.ownBlock = some w.heap.size ∧ w.heap.size < w2.heap.size) : Tks w0 w2 v' (L ++ K) := by
  refine ⟨by rw [tksC_append, List.length_append, hm]; exact hW, fun k hk => ?_⟩
  rcases hO with e | ⟨e, _⟩
  · exact h.new k ((ob_iff _ _).1 (e ▸ (ob_iff _ _).2 hk))
  · have h2 := (ob_iff _ _).2 hk
    rw [e] at h2
    cases h2
    exact hs
/-- A LEXER OF A LAW's OWN: it lies alone in block g, which was not there at w. -/
structure LS (w wr : World) (g : Nat) (s : Lx) : Prop where
  b : Below w.heap.size w wr
  at_ : LAt wr g 0 s
  new : w.heap.size ≤ g
theorem LS.go {w wr w' : World} {g : Nat} {s : Lx} (h : LS w wr g s) (k : Below wr.heap.size wr w') : LS w w' g s := ⟨up_trans h.b k, h.at_.below k h.at_.lt, h.new⟩
theorem LS.step {w wr w' : World} {g : Nat} {s s' : Lx} (h : LS w wr g s) (k : Sub g 0 18 wr w') (hl : LAt w' g 0 s') : LS w w' g s' := ⟨h.b.trans (k.below h.new h.b.size), hl, h.new⟩
theorem LS.grown {w wr w' : World} {g : Nat} {s : Lx} {row : Option Nat} (h : LS w wr g s) (k : wr.grownBy w' row) (hr : ∀ i, row = some i → w.heap.size ≤ i ∧ i ≠ g) : LS w w' g s :=
  ⟨h.b.grown k h.b.size (fun i hi => (hr i hi).1), h.at_.keep (k.block g h.at_.lt (fun e => (hr g e.symm).2 rfl)), h.new⟩
theorem ls_new {w wr : World} (h : Below w.heap.size w wr) : LS w (wr.alloc (.cells (lxZ 0).toArray 35)) wr.heap.size .idle := ⟨up_alloc h _, lat_new wr, h.size⟩
def aliveL : List UInt8 := [91, 49, 50, 44, 116, 114, 117, 101, 93]
theorem alive_ok : ∀ j : Fin 9, errX (runX .idle (aliveL.take (j.val + 1))).1 = 0 := by decide
theorem alive_len : ∀ j : Fin 9, (runX .idle (aliveL.take (j.val + 1))).2.length ≤ 5 := by decide
theorem alive_end : (runX .idle aliveL).2 = [sgnT 91, ⟨110, [], (false, 12)⟩, sgnT 44, sgnT 116, sgnT 93] := by decide
/-- alive, at its loop. -/
structure AL (w w2 wr : World) (j : Nat) (v : Value) : Prop where
  ls : LS w wr w.heap.size (runX .idle (aliveL.take j)).1
  bytes : wr.heap[w.heap.size + 1]? = some (.cells (bCells aliveL).toArray 5 (9, 10))
  toks : Tks w2 wr v (runX .idle (aliveL.take j)).2
  size : w2.heap.size = w.heap.size + 2
  old : w2.heap.size ≤ wr.heap.size
theorem al_new (w : World) : AL w ((w.alloc (.cells (lxZ 0).toArray 35)).alloc (.cells (bCells aliveL).toArray 5 (9, 10))) ((w.alloc (.cells (lxZ 0).toArray 35)).alloc (.cells (bCells aliveL).toArray 5 (9, 10))) 0 (.slice none 0 0) := by
  refine ⟨(ls_new (Below.refl _ w)).go ((Below.refl _ _).alloc (Nat.le_refl _) _), ?_, Tks.nil_ _ _, by simp, Nat.le_refl _⟩
  have := heap_alloc_new (w.alloc (.cells (lxZ 0).toArray 35)) (.cells (bCells aliveL).toArray 5 (9, 10))
  simpa using this
theorem AL.cell {w w2 wr : World} {j : Nat} {v : Value} (h : AL w w2 wr j v) (hj : j < 9) : wr.cell? ⟨w.heap.size + 1, j, none⟩ = some (.int .u8 ((aliveL[j]'(by simp [aliveL]; omega)).toNat : Int)) := by
  rw [Joins.cell_of_block h.bytes]
  simp [bCells, show j < aliveL.length by simp [aliveL]; omega]
/-- Behind a step. -/
theorem AL.step {w w2 wr w1 : World} {j : Nat} {v v1 : Value} (h : AL w w2 wr j v) (hj : j < 9) (y : UInt8) (hy : y = aliveL[j]'(by simp [aliveL]; omega)) (hT : Tks wr w1 v1 (stepX (runX .idle (aliveL.take j)).1 y).2) (hL : LAt w1 w.heap.size 0 (stepX (runX .idle (aliveL.take j)).1 y).1) (hs : Sub w.heap.size 0 18 wr w1) :
    LS w w1 w.heap.size (runX .idle (aliveL.take (j + 1))).1 ∧ w1.heap[w.heap.size + 1]? = some (.cells (bCells aliveL).toArray 5 (9, 10)) ∧ Tks w2 w1 v (runX .idle (aliveL.take j)).2 ∧ Tks w2 w1 v1 (stepX (runX .idle (aliveL.take j)).1 y).2 ∧
    (runX .idle (aliveL.take (j + 1))).2 = (runX .idle (aliveL.take j)).2 ++ (stepX (runX .idle (aliveL.take j)).1 y).2 ∧ w2.heap.size ≤ w1.heap.size := by
  have hsn := runX_snoc .idle aliveL j (by simp [aliveL]; omega)
  rw [← hy] at hsn
  rw [hsn]
  have hlt : w.heap.size + 1 < wr.heap.size := (Array.getElem?_eq_some_iff.1 h.bytes).1
  refine ⟨h.ls.step hs hL, ?_, h.toks.sub hs (by rw [h.size]; omega), hT.old h.old, rfl, Nat.le_trans h.old hs.step.size⟩
  rw [hs.step.block _ hlt (by simp)]
  exact h.bytes
set_option maxRecDepth 100000 in
set_option maxHeartbeats 4000000 in
theorem alive_any (w : World) : Calls Try.prog 8 #[] w fun e w' => e = .returned (.bool true) ∧ Below w.heap.size w w' := by
  have H0 := Lib.hid (al_new w)
  have hcv := Joins.run_convert_bytes_const_at (P := Try.prog) (w.alloc (.cells #[.int .i64 0, .int .i64 0, .int .i64 0, .int .i64 0, .int .u8 0, .int .u8 0, .bool false, .int .i64 0, .int .i64 0, .int .i64 0, .string ⟨#[]⟩, .int .i64 0, .int .i64 0, .bool false, .int .u64 0, .int .u64 0, .string ⟨#[]⟩, .int .i64 0] 35)) 53 5
    #[.int .u8 91, .int .u8 49, .int .u8 50, .int .u8 44, .int .u8 116, .int .u8 114, .int .u8 117, .int .u8 101, .int .u8 93] 9 9 (w.heap.size + 1) (by simp) Try.underlying53 Try.underlying5
  obtain ⟨w2, hw2⟩ : ∃ w2, (w.alloc (.cells #[.int .i64 0, .int .i64 0, .int .i64 0, .int .i64 0, .int .u8 0, .int .u8 0, .bool false, .int .i64 0, .int .i64 0, .int .i64 0, .string ⟨#[]⟩, .int .i64 0, .int .i64 0, .bool false, .int .u64 0, .int .u64 0, .string ⟨#[]⟩, .int .i64 0] 35)).alloc (.cells #[.int .u8 91, .int .u8 49, .int .u8 50, .int .u8 44, .int .u8 116, .int .u8 114, .int .u8 117, .int .u8 101, .int .u8 93] 5 (9, 10)) = w2 := ⟨_, rfl⟩
  have H1 : Hid (AL w w2 w2 0 (.slice none 0 0)) := Lib.hid (by rw [← hw2]; exact H0.out)
  have hcv' : _ = Result.ok _ w2 := hcv.trans (by rw [← hw2]; rfl)
  clear H0 hcv hw2
  go_enter Try.func8, Try.ntmps8
  go_wp2
  go_loopw [2, 4, 5, 6, 12] (fun v _ _ _ i wr => ∃ j : Nat, i = .int .i64 j ∧ j ≤ 9 ∧ Hid (AL w w2 wr j v)) (fun _ _ _ _ i _ => 9 - (RowKit.intOf i).toNat)
  case atStart => exact ⟨0, rfl, by omega, H1⟩
  case round =>
    obtain ⟨j, rfl, hj, HA⟩ := hrel
    clear hcv' H1
    obtain ⟨a, c, rfl⟩ := HA.out.toks.form
    by_cases hlt : j < 9
    · have hcell := HA.out.cell hlt
      obtain ⟨y, hy⟩ : ∃ y, aliveL[j]'(by simp [aliveL]; omega) = y := ⟨_, rfl⟩
      rw [hy] at hcell
      have hok := alive_ok ⟨j, hlt⟩
      have hln := alive_len ⟨j, hlt⟩
      simp only [runX_snoc .idle aliveL j (by simp [aliveL]; omega), hy] at hok hln
      have HS := Lib.hid (lstep_at HA.out.ls.at_ y)
      have HN := Lib.hid (fun w1 v1 => HA.out.step (w1 := w1) (v1 := v1) hlt y hy.symm)
      rw [hok] at HS
      rw [List.length_append] at hln
      have HL1 := Lib.hid HA.out.toks.win.1
      generalize hL : (runX .idle (aliveL.take j)).2 = L at *
      generalize hK : (stepX (runX .idle (aliveL.take j)).1 y).2 = K at *
      have HKK : Hid (K.length ≤ 5 ∧ L.length ≤ 5) := Lib.hid (by omega)
      clear hok hy HL1
      generalize hn : L.length = n at *
      have Hn := Lib.hid hn
      have hn5 : n ≤ 5 := by omega
      clear hln hn
      go_wp2_with fail
      refine HS.out.mono ?_
      rintro r w1 ⟨v1, rfl, hT, hLx, hs⟩
      obtain ⟨q1, q2, q3, q4, q5, q6⟩ := HN.out w1 v1 hT hLx hs
      obtain ⟨a1, c1, rfl⟩ := q4.form
      have hsz := HA.out.size
      have HF : Hid (∀ v3 w3, Win w3 42 4 v3 (L.length + K.length) (tksC L ++ tksC K) → w1.grownBy w3 (Value.slice a n c).ownBlock → (v3.ownBlock = (Value.slice a n c).ownBlock ∨ v3.ownBlock = some w1.heap.size ∧ w1.heap.size < w3.heap.size) → AL w w2 w3 (j + 1) v3) := Lib.hid (by
        intro v3 w3 hW hG hO
        have hrow : ∀ i, (Value.slice a n c).ownBlock = some i → w2.heap.size ≤ i := fun i hi => q3.new i ((ob_iff _ _).1 hi)
        refine ⟨q1.grown hG (fun i hi => ?_), ?_, ?_, hsz, Nat.le_trans q6 hG.size⟩
        · have := hrow i hi
          omega
        · rw [hG.block (w.heap.size + 1) (Array.getElem?_eq_some_iff.1 q2).1 (fun e => by have := hrow _ e.symm; omega)]
          exact q2
        · rw [q5]
          exact tks_more q3 rfl q6 hW hO)
      have HW1 : Hid (Win w1 42 4 (.slice a n c) n (tksC L)) := Lib.hid (by have := q3.win; rw [Hn.out] at this; exact this)
      have HW2 : Hid (Win w1 42 4 (.slice a1 K.length c1) K.length (tksC K)) := Lib.hid q4.win
      rw [Hn.out] at HF
      have hm5 : K.length ≤ 5 := HKK.out.1
      generalize K.length = m at *
      clear q1 q2 q3 q4 q5 q6 hT hLx hs hsz
      go_wp2_with (at_builtin; refine wpList_append_win rfl _ _ _ rfl Try.underlying36 info_tk rfl rfl HW1.out _ rfl m _ (HW2.out.src Try.underlying36 (tksC_one _)) ?e1 ?e2 ?_)
      case e1 => unfold maxLen; omega
      case e2 => omega
      intro v3 w3 hW3 hG3 hO3
      have HN3 := Lib.hid (HF.out v3 w3 hW3.out hG3.out hO3.out)
      clear hW3 hG3 hO3
      go_wp2
      go_roundw
      case rel => exact ⟨j + 1, rfl, by omega, HN3⟩
      case measure => simp [RowKit.intOf]; omega
    · obtain rfl : j = 9 := by omega
      have hT := HA.out.toks
      have hE : (runX .idle (aliveL.take 9)).2 = [sgnT 91, ⟨110, [], (false, 12)⟩, sgnT 44, sgnT 116, sgnT 93] := alive_end
      rw [hE] at hT
      have HB := Lib.hid HA.out.ls.b
      have hlen : (runX .idle (aliveL.take 9)).2.length = 5 := by rw [hE]; rfl
      obtain ⟨g, off, c', hv, h5, _, _, _, hc⟩ := hT.win.form (by simp)
      injection hv with hv1 hv2 hv3
      subst hv1
      have x0 : wr.cell? ⟨g, off, none⟩ = some (.int .u8 91) := (hc 0 _ rfl).1
      have x1 : wr.cell? ⟨g, off + 4, none⟩ = some (.int .u8 110) := (hc 4 _ rfl).1
      have x2 : wr.cell? ⟨g, off + 4 + 3, none⟩ = some (.int .u64 12) := (hc 7 _ rfl).1
      have x3 : wr.cell? ⟨g, off + 12, none⟩ = some (.int .u8 116) := (hc 12 _ rfl).1
      have x4 : wr.cell? ⟨g, off + 16, none⟩ = some (.int .u8 93) := (hc 16 _ rfl).1
      rw [hlen]
      clear hT hE hc hv2 hv3 HA hj hlt hlen h5
      go_wp2
      go_ret
      exact ⟨rfl, HB.out⟩
end Go.Proofs.Yteonbajndghfcaa
