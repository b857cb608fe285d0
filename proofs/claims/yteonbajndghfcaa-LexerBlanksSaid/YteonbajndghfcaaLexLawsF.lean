/-
  LAWS of chapter 10: a Lexer that reads a text, its tokens kept in a list that grows.
-/
import Derived.Test.YteonbajndghfcaaLexLawsC
import Derived.Laws.StructEq
namespace Go.Proofs.Yteonbajndghfcaa
open Go.RowKit
open Go.Lib
theorem tk_neq (t : Tk) (W : World) : (binOp .neq 42 (tkV t) (tkV t)).run Try.prog W = .ok (.bool false) W := by
  have hp : Try.prog.stoodInHeld 42 = false := by kernel_rfl
  have hs : Try.prog.underlying 42 = some (.struct (Try.prog.fieldsOf 42)) := by kernel_rfl
  simp only [run_neq_struct, tkV]
  rw [run_equalIn_agg _ _ _ _ _ hs hp]
  simp [go_sem]
/-- A LEXER AND ITS TOKENS: of the text L the first q bytes are read; the tokens lie in blocks that were not there at wB; of all blocks that were there only the Lexer's own has turned. -/
structure LT (w wB wr : World) (g : Nat) (L : List UInt8) (q : Nat) (v : Value) : Prop where
  ls : LS w wr g (runX .idle (L.take q)).1
  toks : Tks wB wr v (runX .idle (L.take q)).2
  hg : g < wB.heap.size
  fr : Sub g 0 18 wB wr
theorem LT.start {w wB : World} {g : Nat} (L : List UInt8) (h : LS w wB g .idle) : LT w wB wB g L 0 (.slice none 0 0) := ⟨h, Tks.nil_ _ _, h.at_.lt, Sub.refl _ _ _ _⟩
/-- Behind a step, ahead of append. -/
theorem LT.mid {w wB wr w1 : World} {g : Nat} {L : List UInt8} {q : Nat} {v v1 : Value} (h : LT w wB wr g L q v) {x : UInt8} (hT : Tks wr w1 v1 (stepX (runX .idle (L.take q)).1 x).2) (hs : Sub g 0 18 wr w1) :
    Tks wB w1 v (runX .idle (L.take q)).2 ∧ Tks wB w1 v1 (stepX (runX .idle (L.take q)).1 x).2 := ⟨h.toks.sub hs h.hg, hT.old h.fr.step.size⟩
/-- Behind append. -/
theorem LT.next {w wB wr w1 w3 : World} {g : Nat} {L : List UInt8} {q : Nat} {v v1 v3 : Value} (h : LT w wB wr g L q v) (hq : q < L.length) {x : UInt8} (hx : L[q] = x) (hT : Tks wr w1 v1 (stepX (runX .idle (L.take q)).1 x).2)
    (hL : LAt w1 g 0 (stepX (runX .idle (L.take q)).1 x).1) (hs : Sub g 0 18 wr w1) (hW : Win w3 42 4 v3 ((runX .idle (L.take q)).2.length + (stepX (runX .idle (L.take q)).1 x).2.length) (tksC (runX .idle (L.take q)).2 ++ tksC (stepX (runX .idle (L.take q)).1 x).2))
    (hG : w1.grownBy w3 v.ownBlock) (hO : v3.ownBlock = v.ownBlock ∨ v3.ownBlock = some w1.heap.size ∧ w1.heap.size < w3.heap.size) : LT w wB w3 g L (q + 1) v3 := by
  have hm := (h.mid hT hs).1
  have hrow : ∀ i, v.ownBlock = some i → wB.heap.size ≤ i := fun i hi => hm.new i ((ob_iff _ _).1 hi)
  have hl := h.ls.read hq hx hs hL
  have hgw := h.hg
  have hw := h.ls.b.size
  have hfs := h.fr.step.size
  refine ⟨hl.grown hG (fun i hi => ?_), ?_, h.hg, sub_grown (h.fr.trans hs) hG h.hg hrow⟩
  · have := hrow i hi
    have := h.ls.new
    omega
  · rw [runX_snoc .idle L q hq, hx]
    exact tks_more hm rfl (Nat.le_trans hfs hs.step.size) hW hO
/-- Another Lexer stays. -/
theorem LT.other {w wB wr : World} {g g2 : Nat} {L : List UInt8} {q : Nat} {v : Value} {s : Lx} (h : LT w wB wr g L q v) (k : LS w wB g2 s) (hne : g2 ≠ g) : LS w wr g2 s :=
  ⟨h.ls.b, k.at_.keep (h.fr.step.block g2 k.at_.lt (by simpa using hne)), k.new⟩
/-- Tokens of another list stay. -/
theorem LT.kept {w wA wB wr : World} {g : Nat} {L : List UInt8} {q : Nat} {v p : Value} {T : List Tk} (h : LT w wB wr g L q v) (k : Tks wA wB p T) (hg : g < wA.heap.size) : Tks wA wr p T :=
  k.keep fun i hi h0 => h.fr.step.block i hi (by simp only [List.mem_singleton]; omega)
/-! ### Words with blanks -/
def wordsV : List Value := (List.range 11).map fun i => .string ⟨(wordX i).toArray⟩
theorem words_at (j : Nat) (h : j < 11) : wordsV[j]? = some (.string ⟨(wordX j).toArray⟩) := by simp [wordsV, h]
theorem word_len : ∀ j : Fin 11, (wordX j.val).length ≤ 5 := by decide
def Pairs (js : List (Nat × List UInt8)) : Prop := ∀ p ∈ js, p.1 < 11 ∧ p.2.length ≤ 2 ∧ ∀ b ∈ p.2, isBlank b.toNat = true
def textA (js : List (Nat × List UInt8)) : List UInt8 := js.flatMap fun p => wordX p.1
def textB (js : List (Nat × List UInt8)) : List UInt8 := js.flatMap fun p => wordX p.1 ++ p.2
theorem textA_run (js : List (Nat × List UInt8)) (h : Pairs js) : runX .idle (textA js) = (.idle, js.map fun p => tokX p.1) := by
  have := words_run (js.map fun p => (p.1, [])) (by
    intro p hp
    obtain ⟨r, hr, rfl⟩ := List.mem_map.1 hp
    exact ⟨(h r hr).1, by simp⟩)
  simpa [textA, List.flatMap_map, Function.comp_def] using this
theorem textB_run (js : List (Nat × List UInt8)) (h : Pairs js) : runX .idle (textB js) = (.idle, js.map fun p => tokX p.1) := words_run js fun p hp => ⟨(h p hp).1, (h p hp).2.2⟩
theorem text_len (js : List (Nat × List UInt8)) (h : Pairs js) : (textA js).length ≤ 5 * js.length ∧ (textB js).length ≤ 7 * js.length := by
  induction js with
  | nil => simp [textA, textB]
  | cons p r ih =>
    obtain ⟨h1, h2⟩ := ih (fun x hx => h x (by simp [hx]))
    have h3 := word_len ⟨p.1, (h p (by simp)).1⟩
    have h4 := (h p (by simp)).2.1
    simp only [textA, textB, List.flatMap_cons, List.length_append, List.length_cons] at *
    omega
theorem text_more (js : List (Nat × List UInt8)) (j : Nat) (bl : List UInt8) : textA (js ++ [(j, bl)]) = textA js ++ wordX j ∧ textB (js ++ [(j, bl)]) = textB js ++ wordX j ++ bl := by
  simp [textA, textB]
theorem pairs_more {js : List (Nat × List UInt8)} (h : Pairs js) {j : Nat} (hj : j < 11) {bl : List UInt8} (hb : bl.length ≤ 2 ∧ ∀ b ∈ bl, isBlank b.toNat = true) : Pairs (js ++ [(j, bl)]) := by
  intro p hp
  rcases List.mem_append.1 hp with hp | hp
  · exact h p hp
  · simp only [List.mem_singleton] at hp
    subst hp
    exact ⟨hj, hb.1, hb.2⟩
/-- On the way no error. -/
theorem good_mid {L : List UInt8} {T : List Tk} (h : runX .idle L = (.idle, T)) (q : Nat) (hq : q < L.length) {x : UInt8} (hx : L[q] = x) : errX (stepX (runX .idle (L.take q)).1 x).1 = 0 := by
  have hg := mid_good .idle L (fun e he => by rw [h] at he; cases he) (q + 1)
  rw [runX_snoc .idle L q hq, hx] at hg
  simp only at hg
  match hs : (stepX (runX .idle (L.take q)).1 x).1 with
  | .bad e => exact absurd hs (hg e)
  | .idle => rfl
  | .str _ _ => rfl
  | .num _ => rfl
  | .word _ _ => rfl
theorem run_len {L : List UInt8} {T : List Tk} (h : runX .idle L = (.idle, T)) (q : Nat) : (runX .idle (L.take q)).2.length ≤ T.length := by
  have h1 : L = L.take q ++ L.drop q := (List.take_append_drop q L).symm
  rw [h1, runX_append] at h
  have := congrArg (fun p => p.2.length) h
  simp only [List.length_append] at this
  omega
end Go.Proofs.Yteonbajndghfcaa
