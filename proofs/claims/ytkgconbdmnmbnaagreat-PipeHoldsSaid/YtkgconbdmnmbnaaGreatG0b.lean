/-
  Parts: LexPure, JinPure, JinWf, Sub, Kit, Room, Tok.
-/
import Derived.Test.YtkgconbdmnmbnaaGreatG0a
import Derived.Lib.OthersKept
import Derived.Test.YtkgconbdmnmbnaaGreatProg
import Derived.WalkKit
import Derived.WalkSpells
import Derived.WalkLawsBesides
import Derived.Deep.QuietTactic
import Derived.BigQuiet
import Derived.Lib.Hide
import Derived.Lib.BufferWrite
import Derived.Lib.SlBuf
import Derived.Lib.SlBytesRow
import Derived.Laws.MakeOwn
import Derived.Laws.CopyOwn
import Derived.StillTailTactics
import Derived.Handy
import Derived.Deep.Light
import Derived.Deep.AppendLies
import Derived.Deep.RegionWith
import Derived.Outline
import Derived.Deep.MidRow
set_option maxRecDepth 100000
open Go.Lib (hid)
namespace Go.Proofs.YtkgconbdmnmbnaaGreat
section
open Go.Lib
structure Tk where
  k : Nat
  t : List UInt8
  n : Bool × Nat
deriving DecidableEq
inductive Lx
  | idle
  | str (s : Ins) (t : List UInt8)
  | num (d : Dec)
  | word (k : Nat) (r : List Nat)
  | bad (e : Nat)
def sgnT (k : Nat) : Tk := ⟨k, [], (false, 0)⟩
def isSgn (b : Nat) : Bool := b == 123 || b == 125 || b == 91 || b == 93 || b == 58 || b == 44
def isBlank (b : Nat) : Bool := b == 32 || b == 9 || b == 10 || b == 13
def startX (b : Nat) : Lx × List Tk :=
  if isBlank b = true then (.idle, []) else if isSgn b = true then (.idle, [sgnT b]) else if b = 34 then (.str insT [], [])
  else if b = 45 ∨ 48 ≤ b ∧ b ≤ 57 then (.num (stepD d0 b).1, [])
  else if b = 116 then (.word 116 [114, 117, 101], []) else if b = 102 then (.word 102 [97, 108, 115, 101], []) else if b = 110 then (.word 48 [117, 108, 108], []) else (.bad 2, [])
def insE : Ins → Nat
  | .bad true => 9
  | .bad false => 2
  | _ => 0
def tellX (pre_ : List Tk) : Lx × List Tk → Lx × List Tk
  | (.bad e, _) => (.bad e, [])
  | (s, l) => (s, pre_ ++ l)
def stepX : Lx → UInt8 → Lx × List Tk
  | .bad e, _ => (.bad e, [])
  | .idle, b => startX b.toNat
  | .str s t, b =>
    if b.toNat = 34 ∧ wholeI s = true then (.idle, [⟨115, t, (false, 0)⟩])
    else if insE (stepI s b).1 ≠ 0 then (.bad (insE (stepI s b).1), [])
    else if 200 < (t ++ (stepI s b).2).length then (.bad 5, []) else (.str (stepI s b).1 (t ++ (stepI s b).2), [])
  | .num d, b =>
    if errD (stepD d b.toNat).1 ≠ 0 then (.bad (errD (stepD d b.toNat).1), [])
    else if (stepD d b.toNat).2 = true then (.num (stepD d b.toNat).1, [])
    else if (endD d).2 ≠ 0 then (.bad (endD d).2, []) else tellX [⟨110, [], (endD d).1⟩] (startX b.toNat)
  | .word k r, b =>
    match r with
    | [] => (.bad 2, [])
    | x :: q => if b.toNat = x then (if q = [] then (.idle, [sgnT k]) else (.word k q, [])) else (.bad 2, [])
def endX : Lx → List Tk × Nat
  | .idle => ([], 0)
  | .num d => if (endD d).2 ≠ 0 then ([], (endD d).2) else ([⟨110, [], (endD d).1⟩], 0)
  | .str _ _ => ([], 3)
  | .word _ _ => ([], 3)
  | .bad e => ([], e)
def heldX : Lx → Nat
  | .str _ t => t.length
  | _ => 0
end
section
open Go.Lib
structure FrJ where
  map : Bool
  p : Nat
deriving DecidableEq
inductive Pj
  | bad (e : Nat)
  | at_ (st : List FrJ) (dn : Bool)
def readyJ : List FrJ → Bool → Bool
  | [], dn => !dn
  | ⟨false, p⟩ :: _, _ => p == 0 || p == 2
  | ⟨true, p⟩ :: _, _ => p == 2
def paidJ : List FrJ → List FrJ
  | [] => []
  | ⟨false, _⟩ :: r => ⟨false, 1⟩ :: r
  | ⟨true, _⟩ :: r => ⟨true, 3⟩ :: r
def doneJ : List FrJ → Bool
  | [] => true
  | _ => false
def valJ (st : List FrJ) (dn : Bool) (e : Ev) : Pj × List Ev := if readyJ st dn = true then (.at_ (paidJ st) (doneJ st), [e]) else (.bad 2, [])
def openJ (D : Nat) (st : List FrJ) (dn : Bool) (m : Bool) (e : Ev) : Pj × List Ev :=
  if readyJ st dn = true then (if D ≤ st.length then (.bad 4, []) else (.at_ (⟨m, 0⟩ :: paidJ st) false, [e])) else (.bad 2, [])
def shutJ (m : Bool) : List FrJ → Pj × List Ev
  | ⟨b, p⟩ :: r => if b = m ∧ (p = 0 ∨ p = if m then 3 else 1) then (.at_ r (doneJ r), [evEnd]) else (.bad 2, [])
  | [] => (.bad 2, [])
def commaJ : List FrJ → Pj × List Ev
  | ⟨false, 1⟩ :: r => (.at_ (⟨false, 2⟩ :: r) false, [])
  | ⟨true, 3⟩ :: r => (.at_ (⟨true, 4⟩ :: r) false, [])
  | _ => (.bad 2, [])
def colonJ : List FrJ → Pj × List Ev
  | ⟨true, 1⟩ :: r => (.at_ (⟨true, 2⟩ :: r) false, [])
  | _ => (.bad 2, [])
def evText (t : List UInt8) : Ev := ⟨3, false, 0, ⟨t.toArray⟩, 0⟩
def evNum (w : Bool × Nat) : Ev := ⟨2, w.1, w.2, ⟨#[]⟩, 0⟩
def evBool (b : Bool) : Ev := ⟨1, b, 0, ⟨#[]⟩, 0⟩
def evOpen (m : Bool) : Ev := ⟨if m then 6 else 5, false, 0, ⟨#[]⟩, -1⟩
def strJ (st : List FrJ) (dn : Bool) (t : List UInt8) : Pj × List Ev :=
  match st with
  | ⟨true, 0⟩ :: r => (.at_ (⟨true, 1⟩ :: r) false, [evText t])
  | ⟨true, 4⟩ :: r => (.at_ (⟨true, 1⟩ :: r) false, [evText t])
  | _ => valJ st dn (evText t)
def tokJ (D : Nat) : Pj → Tk → Pj × List Ev
  | .bad e, _ => (.bad e, [])
  | .at_ st dn, t =>
    if t.k = 44 then commaJ st else if t.k = 58 then colonJ st else if t.k = 93 then shutJ false st else if t.k = 125 then shutJ true st
    else if t.k = 91 then openJ D st dn false (evOpen false) else if t.k = 123 then openJ D st dn true (evOpen true)
    else if t.k = 115 then strJ st dn t.t else if t.k = 110 then valJ st dn (evNum t.n) else if t.k = 116 then valJ st dn (evBool true) else if t.k = 102 then valJ st dn (evBool false) else valJ st dn evNull
def toksJ (D : Nat) : Pj → List Tk → Pj × List Ev
  | p, [] => (p, [])
  | p, t :: r => ((toksJ D (tokJ D p t).1 r).1, (tokJ D p t).2 ++ (toksJ D (tokJ D p t).1 r).2)
structure Js where
  lx : Lx
  p : Pj
def badX : Lx → Option Nat
  | .bad e => some e
  | _ => none
def stepJ (D : Nat) (s : Js) (b : UInt8) : Js × List Ev :=
  match s.p with
  | .bad _ => (s, [])
  | .at_ _ _ => match badX (stepX s.lx b).1 with
    | some e => (⟨.idle, .bad e⟩, [])
    | none => (⟨(stepX s.lx b).1, (toksJ D s.p (stepX s.lx b).2).1⟩, (toksJ D s.p (stepX s.lx b).2).2)
def endJ (D : Nat) (s : Js) : List Ev × Nat :=
  match s.p with
  | .bad e => ([], e)
  | .at_ _ _ => if (endX s.lx).2 ≠ 0 then ([], (endX s.lx).2) else match toksJ D s.p (endX s.lx).1 with
    | (.bad e, l) => (l, e)
    | (.at_ _ true, l) => (l, 0)
    | (.at_ _ false, l) => (l, 3)
theorem toks_one (D : Nat) (p : Pj) (t : Tk) : toksJ D p [t] = tokJ D p t := by simp [toksJ]
def outW (e : Ev) : List UInt8 :=
  if e.k = 0 then [110, 117, 108, 108] else if e.k = 1 then (if e.y = true then [116, 114, 117, 101] else [102, 97, 108, 115, 101]) else if e.k = 2 then printD (e.y, e.m)
  else if e.k = 3 then 34 :: escW e.t.data.toList ++ [34] else if e.k = 5 then [91] else [123]
def sepW : List Bx → List UInt8
  | [] => []
  | b :: _ => if b.have_ = 0 then [] else if b.map = true ∧ b.have_ % 2 = 1 then [58] else [44]
def MatchF (f : FrJ) (b : Bx) : Prop := b.map = f.map ∧ b.c = -1 ∧ (f.map = true → (f.p = 0 ∨ f.p = 3 ∨ f.p = 4) ∧ b.have_ % 2 = 0 ∨ (f.p = 1 ∨ f.p = 2) ∧ b.have_ % 2 = 1)
def MatchS : List FrJ → List Bx → Prop
  | [], [] => True
  | f :: r, b :: s => MatchF f b ∧ MatchS r s
  | _, _ => False
def InvJ (c : Ck) (st : List FrJ) (dn : Bool) : Prop := (∃ s, c = .live s ∧ MatchS st s ∧ dn = false) ∨ (c = .done ∧ st = [] ∧ dn = true)
def PartW (c : Ck) : Prop := (∃ s, c = .live s) ∨ c = .done
theorem toks_bad (D e : Nat) (l : List Tk) : toksJ D (.bad e) l = (.bad e, []) := by
  induction l with
  | nil => rfl
  | cons t l ih => simp only [toksJ, tokJ, ih, List.append_nil]
theorem start_err {b e : Nat} (h : badX (startX b).1 = some e) : e ≠ 0 := by
  unfold startX at h
  repeat' split at h
  all_goals first | (simp [badX] at h; omega) | (cases h)
theorem step_err {lx : Lx} (hl : badX lx = none) (b : UInt8) {e : Nat} (h : badX (stepX lx b).1 = some e) : e ≠ 0 := by
  cases lx with
  | bad f => cases hl
  | idle => exact start_err h
  | str s t =>
    simp only [stepX] at h; split at h
    · cases h
    · split at h
      · rename_i hh
        simp only [badX, Option.some.injEq] at h; omega
      · split at h
        · simp only [badX, Option.some.injEq] at h
          omega
        · cases h
  | num d =>
    simp only [stepX] at h; split at h
    · rename_i hh
      simp only [badX, Option.some.injEq] at h; omega
    · split at h
      · cases h
      · split at h
        · rename_i hh
          simp only [badX, Option.some.injEq] at h; omega
        · have hst := @start_err b.toNat e
          generalize startX b.toNat = r at h hst; obtain ⟨s, l⟩ := r; cases s with
          | bad f => exact hst h
          | idle => cases h
          | str _ _ => cases h
          | num _ => cases h
          | word _ _ => cases h
  | word k r =>
    cases r with
    | nil => simp only [stepX, badX, Option.some.injEq] at h; omega
    | cons x q =>
      simp only [stepX] at h; split at h
      · split at h <;> cases h
      · simp only [badX, Option.some.injEq] at h
        omega
end
section
open Go.Lib
def KindT (t : Tk) : Prop := (t.k = 44 ∨ t.k = 58 ∨ t.k = 93 ∨ t.k = 125 ∨ t.k = 91 ∨ t.k = 123 ∨ t.k = 115 ∨ t.k = 110 ∨ t.k = 116 ∨ t.k = 102 ∨ t.k = 48) ∧ t.t.length ≤ 200 ∧ t.n.2 < 18446744073709551616
def WfX : Lx → Prop
  | .word k _ => k = 116 ∨ k = 102 ∨ k = 48
  | .str _ t => t.length ≤ 200
  | _ => True
theorem start_wf (b : Nat) : WfX (startX b).1 ∧ ∀ t ∈ (startX b).2, KindT t := by
  unfold startX; split
  · exact ⟨trivial, by simp⟩
  split
  · rename_i h
    refine ⟨trivial, fun t ht => ?_⟩; simp only [List.mem_cons, List.not_mem_nil, or_false] at ht; subst ht; simp only [isSgn, Bool.or_eq_true, beq_iff_eq] at h; refine ⟨?_, by simp [sgnT], by simp [sgnT]⟩; simp only [sgnT]; omega
  split
  · exact ⟨by simp [WfX], by simp⟩
  split
  · exact ⟨trivial, by simp⟩
  split
  · exact ⟨.inl rfl, by simp⟩
  split
  · exact ⟨.inr (.inl rfl), by simp⟩
  split
  · exact ⟨.inr (.inr rfl), by simp⟩
  · exact ⟨trivial, by simp⟩
theorem endD_lt (d : Dec) : (endD d).1.2 < 18446744073709551616 := by
  cases d with
  | bad f => simp [endD]
  | num p m v =>
    simp only [endD]; split
    · simp
    split
    · split
      · simp only; omega
      · simp
    split
    · simpa using by assumption
    · simp
theorem num_kind (d : Dec) : KindT ⟨110, [], (endD d).1⟩ := ⟨by simp, by simp, endD_lt d⟩
theorem step_wf (s : Lx) (h : WfX s) (b : UInt8) : WfX (stepX s b).1 ∧ ∀ t ∈ (stepX s b).2, KindT t := by
  match s, h with
  | .bad e, _ => exact ⟨trivial, by simp [stepX]⟩
  | .idle, _ => exact start_wf _
  | .str s t, h =>
    simp only [stepX]; split
    · refine ⟨trivial, fun x hx => ?_⟩
      simp only [List.mem_cons, List.not_mem_nil, or_false] at hx; subst hx; exact ⟨by simp, h, by simp⟩
    split
    · exact ⟨trivial, by simp⟩
    split
    · exact ⟨trivial, by simp⟩
    · rename_i h3
      refine ⟨?_, by simp⟩; show (t ++ (stepI s b).2).length ≤ 200; omega
  | .num d, _ =>
    simp only [stepX]; split
    · exact ⟨trivial, by simp⟩
    split
    · exact ⟨trivial, by simp⟩
    split
    · exact ⟨trivial, by simp⟩
    · have hw := start_wf b.toNat
      generalize startX b.toNat = q at hw ⊢; obtain ⟨q1, q2⟩ := q; cases q1 with
      | bad e => exact ⟨trivial, by simp [tellX]⟩
      | _ =>
        refine ⟨hw.1, fun t ht => ?_⟩; simp only [tellX, List.mem_append, List.mem_cons, List.not_mem_nil, or_false] at ht; rcases ht with rfl | ht
        · exact num_kind d
        · exact hw.2 t ht
  | .word k [], _ => exact ⟨trivial, by simp [stepX]⟩
  | .word k (x :: q), h =>
    simp only [stepX]; split
    · split
      · refine ⟨trivial, fun t ht => ?_⟩
        simp only [List.mem_cons, List.not_mem_nil, or_false] at ht; subst ht; have h' : k = 116 ∨ k = 102 ∨ k = 48 := h; exact ⟨by simp only [sgnT]; omega, by simp [sgnT], by simp [sgnT]⟩
      · exact ⟨h, by simp⟩
    · exact ⟨trivial, by simp⟩
theorem end_wf (s : Lx) : ∀ t ∈ (endX s).1, KindT t := by
  intro t ht; cases s with
  | num d =>
    simp only [endX] at ht; split at ht
    · simp at ht
    · simp only [List.mem_cons, List.not_mem_nil, or_false] at ht
      subst ht; exact num_kind d
  | _ => simp [endX] at ht
def plJ : List FrJ → Bool → Nat
  | [], dn => if dn = true then 5 else 0
  | ⟨false, p⟩ :: _, _ => if p = 0 then 1 else if p = 1 then 5 else 0
  | ⟨true, p⟩ :: _, _ => if p = 0 then 3 else if p = 1 then 4 else if p = 2 then 0 else if p = 3 then 5 else 2
def OuterJ : List FrJ → Prop
  | [] => True
  | f :: r => f.p = (if f.map = true then 3 else 1) ∧ OuterJ r
def WfJ (D : Nat) (st : List FrJ) (dn : Bool) : Prop :=
  (dn = true → st = []) ∧ st.length ≤ D ∧ match st with
    | [] => True
    | f :: r => f.p ≤ (if f.map = true then 4 else 2) ∧ OuterJ r
def WfP (D : Nat) : Pj → Prop
  | .bad e => e ≠ 0 ∧ e < 100
  | .at_ st dn => WfJ D st dn
theorem outer_paid (st : List FrJ) (h : match st with | [] => True | f :: r => f.p ≤ (if f.map = true then 4 else 2) ∧ OuterJ r) : OuterJ (paidJ st) := by
  match st, h with
  | [], _ => trivial
  | ⟨false, p⟩ :: r, h => exact ⟨rfl, h.2⟩
  | ⟨true, p⟩ :: r, h => exact ⟨rfl, h.2⟩
theorem paid_len (st : List FrJ) : (paidJ st).length = st.length := by
  match st with
  | [] => rfl
  | ⟨false, p⟩ :: r => rfl
  | ⟨true, p⟩ :: r => rfl
theorem wf_outer {D : Nat} {st : List FrJ} (h : OuterJ st) (hl : st.length ≤ D) (hd : doneJ st = true → st = []) : WfJ D st (doneJ st) := by
  refine ⟨hd, hl, ?_⟩
  match st, h with
  | [], _ => trivial
  | ⟨false, p⟩ :: r, h => exact ⟨by have := h.1; simp at this; simp; omega, h.2⟩
  | ⟨true, p⟩ :: r, h => exact ⟨by have := h.1; simp at this; simp; omega, h.2⟩
theorem done_nil (st : List FrJ) : doneJ st = true → st = [] := by
  match st with
  | [] => exact fun _ => rfl
  | _ :: _ => exact fun h => by cases h
theorem wf_val {D : Nat} {st : List FrJ} {dn : Bool} (h : WfJ D st dn) (e : Ev) : WfP D (valJ st dn e).1 := by
  unfold valJ; split
  · have hd : doneJ st = doneJ (paidJ st) := by
      match st with
      | [] => rfl
      | ⟨false, _⟩ :: _ => rfl
      | ⟨true, _⟩ :: _ => rfl
    show WfJ D (paidJ st) (doneJ st); rw [hd]; exact wf_outer (outer_paid st h.2.2) (by rw [paid_len]; exact h.2.1) (done_nil _)
  · exact ⟨by decide, by decide⟩
theorem wf_open {D : Nat} {st : List FrJ} {dn : Bool} (h : WfJ D st dn) (m : Bool) (e : Ev) : WfP D (openJ D st dn m e).1 := by
  unfold openJ; split
  · split
    · exact ⟨by decide, by decide⟩
    · refine ⟨fun hh => (by cases hh), ?_, ?_⟩
      · simp only [List.length_cons, paid_len]; omega
      · exact ⟨by simp, outer_paid st h.2.2⟩
  · exact ⟨by decide, by decide⟩
theorem wf_shut {D : Nat} {st : List FrJ} {dn : Bool} (h : WfJ D st dn) (m : Bool) : WfP D (shutJ m st).1 := by
  match st, h with
  | [], _ => exact ⟨by decide, by decide⟩
  | ⟨b, p⟩ :: r, h =>
    simp only [shutJ]; by_cases hc : b = m ∧ (p = 0 ∨ p = if m = true then 3 else 1)
    · rw [if_pos hc]
      have h1 := h.2.1; simp only [List.length_cons] at h1; exact show WfJ D r (doneJ r) from wf_outer h.2.2.2 (by omega) (done_nil _)
    · rw [if_neg hc]
      exact ⟨by decide, by decide⟩
theorem wf_comma {D : Nat} {st : List FrJ} {dn : Bool} (h : WfJ D st dn) : WfP D (commaJ st).1 := by
  unfold commaJ; split
  · exact ⟨fun hh => (by cases hh), h.2.1, by simp, h.2.2.2⟩
  · exact ⟨fun hh => (by cases hh), h.2.1, by simp, h.2.2.2⟩
  · exact ⟨by decide, by decide⟩
theorem wf_colon {D : Nat} {st : List FrJ} {dn : Bool} (h : WfJ D st dn) : WfP D (colonJ st).1 := by
  unfold colonJ; split
  · exact ⟨fun hh => (by cases hh), h.2.1, by simp, h.2.2.2⟩
  · exact ⟨by decide, by decide⟩
theorem wf_str {D : Nat} {st : List FrJ} {dn : Bool} (h : WfJ D st dn) (t : List UInt8) : WfP D (strJ st dn t).1 := by
  have hv := wf_val h (evText t); unfold strJ; split
  · exact ⟨fun hh => (by cases hh), h.2.1, by simp, h.2.2.2⟩
  · exact ⟨fun hh => (by cases hh), h.2.1, by simp, h.2.2.2⟩
  · exact hv
theorem wf_tok {D : Nat} {p : Pj} (h : WfP D p) (t : Tk) : WfP D (tokJ D p t).1 := by
  cases p with
  | bad e => exact h
  | at_ st dn =>
    simp only [tokJ]; split
    · exact wf_comma h
    split
    · exact wf_colon h
    split
    · exact wf_shut h _
    split
    · exact wf_shut h _
    split
    · exact wf_open h _ _
    split
    · exact wf_open h _ _
    split
    · exact wf_str h _
    repeat' (first | exact wf_val h _ | split)
theorem wf_toks {D : Nat} : ∀ (l : List Tk) {p : Pj}, WfP D p → WfP D (toksJ D p l).1
  | [], _, h => h
  | t :: l, _, h => wf_toks l (wf_tok h t)
def ToldE (e : Ev) : Prop := mayE e ∧ tidyE e = e ∧ EvOk e
theorem told_text (t : List UInt8) (h : t.length ≤ 200) : ToldE (evText t) := by
  refine ⟨⟨by simp [evText], by simp [evText], by simp [evText]⟩, rfl, ⟨by simp [evText], by simp [evText], by simp [evText], ?_⟩⟩; simp only [evText, ByteArray.size, List.size_toArray]; omega
theorem told_num (w : Bool × Nat) (h : w.2 < 18446744073709551616) : ToldE (evNum w) := ⟨⟨by simp [evNum], by simp [evNum], by simp [evNum]⟩, rfl, ⟨by simp [evNum], h, by simp [evNum], by simp [evNum, ByteArray.size]⟩⟩
theorem told_bool (b : Bool) : ToldE (evBool b) := ⟨⟨by simp [evBool], by simp [evBool], by simp [evBool]⟩, rfl, ⟨by simp [evBool], by simp [evBool], by simp [evBool], by simp [evBool, ByteArray.size]⟩⟩
theorem told_open (m : Bool) : ToldE (evOpen m) := by
  cases m <;> exact ⟨by decide, rfl, ⟨by simp [evOpen], by simp [evOpen], by simp [evOpen], by simp [evOpen, ByteArray.size]⟩⟩
theorem told_null : ToldE evNull := ⟨by decide, rfl, ⟨by simp [evNull], by simp [evNull], by simp [evNull], by simp [evNull, ByteArray.size]⟩⟩
theorem told_end : ToldE evEnd := ⟨by decide, rfl, ⟨by simp [evEnd], by simp [evEnd], by simp [evEnd], by simp [evEnd, ByteArray.size]⟩⟩
theorem told_shut (m : Bool) (st : List FrJ) : ∀ e ∈ (shutJ m st).2, ToldE e := by
  intro e he
  match st, he with
  | [], he => simp [shutJ] at he
  | ⟨b, p⟩ :: r, he =>
    simp only [shutJ] at he; by_cases hc : b = m ∧ (p = 0 ∨ p = if m = true then 3 else 1)
    · rw [if_pos hc] at he
      simp only [List.mem_cons, List.not_mem_nil, or_false] at he; subst he; exact told_end
    · rw [if_neg hc] at he
      simp at he
theorem told_val {st : List FrJ} {dn : Bool} {e : Ev} (h : ToldE e) : ∀ x ∈ (valJ st dn e).2, ToldE x := by
  intro x hx; unfold valJ at hx; split at hx
  · simp only [List.mem_cons, List.not_mem_nil, or_false] at hx
    subst hx; exact h
  · simp at hx
theorem told_tok (D : Nat) (p : Pj) (t : Tk) (hk : KindT t) : ∀ e ∈ (tokJ D p t).2, ToldE e := by
  intro e he; cases p with
  | bad _ => simp [tokJ] at he
  | at_ st dn =>
    simp only [tokJ] at he; split at he
    · unfold commaJ at he; split at he <;> simp at he
    split at he
    · unfold colonJ at he; split at he <;> simp at he
    split at he
    · exact told_shut _ _ e he
    split at he
    · exact told_shut _ _ e he
    split at he
    · unfold openJ at he
      split at he
      · split at he
        · simp at he
        · simp only [List.mem_cons, List.not_mem_nil, or_false] at he; subst he; exact told_open _
      · simp at he
    split at he
    · unfold openJ at he
      split at he
      · split at he
        · simp at he
        · simp only [List.mem_cons, List.not_mem_nil, or_false] at he; subst he; exact told_open _
      · simp at he
    split at he
    · unfold strJ at he
      split at he
      · simp only [List.mem_cons, List.not_mem_nil, or_false] at he; subst he; exact told_text _ hk.2.1
      · simp only [List.mem_cons, List.not_mem_nil, or_false] at he; subst he; exact told_text _ hk.2.1
      · exact told_val (told_text _ hk.2.1) e he
    split at he
    · exact told_val (told_num _ hk.2.2) e he
    split at he
    · exact told_val (told_bool _) e he
    split at he
    · exact told_val (told_bool _) e he
    · exact told_val told_null e he
theorem told_toks (D : Nat) : ∀ (l : List Tk) (p : Pj), (∀ t ∈ l, KindT t) → ∀ e ∈ (toksJ D p l).2, ToldE e
  | [], _, _, e, he => by simp [toksJ] at he
  | t :: l, p, h, e, he => by
    simp only [toksJ, List.mem_append] at he; rcases he with he | he
    · exact told_tok D p t (h t (by simp)) e he
    · exact told_toks D l _ (fun x hx => h x (by simp [hx])) e he
end
section
open Go.RowKit
open Go.Lib
def At (w : World) (b o : Nat) (vs : List Value) : Prop := ∀ j u, vs[j]? = some u → w.cell? ⟨b, o + j, none⟩ = some u ∧ w.frozen? ⟨b, o + j, none⟩ = false
structure Sub (b o n : Nat) (w w' : World) : Prop where
  step : Step [b] [b] w w'
  shape : ∀ (c : Array Value) (t : TypeId) (fr : Nat × Nat), w.heap[b]? = some (.cells c t fr) → ∃ c' : Array Value, w'.heap[b]? = some (.cells c' t fr) ∧ c'.size = c.size
  cell : ∀ k, (k < o ∨ o + n ≤ k) → w'.cell? ⟨b, k, none⟩ = w.cell? ⟨b, k, none⟩
theorem Sub.refl (b o n : Nat) (w : World) : Sub b o n w w := ⟨Step.refl _ _, fun c _ _ h => ⟨c, h, rfl⟩, fun _ _ => rfl⟩
theorem Sub.trans {b o n : Nat} {w w1 w2 : World} (h : Sub b o n w w1) (k : Sub b o n w1 w2) : Sub b o n w w2 :=
  ⟨h.step.trans k.step, fun c t fr hc => by
    obtain ⟨c1, h1, s1⟩ := h.shape c t fr hc; obtain ⟨c2, h2, s2⟩ := k.shape c1 t fr h1; exact ⟨c2, h2, s2.trans s1⟩, fun i hi => (k.cell i hi).trans (h.cell i hi)⟩
theorem Sub.widen {b o n o' n' : Nat} {w w' : World} (h : Sub b o n w w') (h1 : o' ≤ o) (h2 : o + n ≤ o' + n') : Sub b o' n' w w' :=
  ⟨h.step, h.shape, fun k hk => h.cell k (by omega)⟩
theorem Sub.drewN {b o n : Nat} {w w' : World} (h : Sub b o n w w') (q : Nat) : Sub b o n w (w'.drewN q) := ⟨h.step.drewN q, h.shape, h.cell⟩
theorem Sub.drew {b o n : Nat} {w w' : World} (h : Sub b o n w w') : Sub b o n w w'.drew := h.drewN 1
theorem sub_alloc (b o n : Nat) (w : World) (x : Obj) (hb : b < w.heap.size) : Sub b o n w (w.alloc x) := by
  have he : ∀ k, k < w.heap.size → (w.alloc x).heap[k]? = w.heap[k]? := fun k hk => Below.heap_alloc w x k hk
  refine ⟨⟨rfl, rfl, rfl, by simp, fun k hk _ => he k hk, fun _ h => .inl h⟩, fun c t fr hc => ⟨c, (he b hb).trans hc, rfl⟩, fun k _ => World.cell?_of_block (w := w) (he b hb)⟩
theorem Sub.alloc {b o n : Nat} {w w' : World} (h : Sub b o n w w') (x : Obj) (hb : b < w.heap.size) : Sub b o n w (w'.alloc x) :=
  h.trans (sub_alloc b o n w' x (Nat.lt_of_lt_of_le hb h.step.size))
theorem heap_setCell_at (w : World) (p : Addr) (v : Value) (c : Array Value) (t : TypeId) (fr : Nat × Nat) (hp : p.spot = none) (h : w.heap[p.block]? = some (.cells c t fr)) :
    (w.setCell p v).heap[p.block]? = some (.cells (c.setIfInBounds p.off v) t fr) := by
  unfold World.setCell; simp [Array.getElem?_modify, h, hp]
theorem cell_setCell_ne (w : World) (b k j : Nat) (v : Value) (h : k ≠ j) : (w.setCell ⟨b, j, none⟩ v).cell? ⟨b, k, none⟩ = w.cell? ⟨b, k, none⟩ := by
  unfold World.cell?; cases hb : w.heap[b]? with
  | none =>
    have : (w.setCell ⟨b, j, none⟩ v).heap[b]? = none := by
      unfold World.setCell; simp [Array.getElem?_modify, hb]
    simp [this]
  | some x =>
    cases x with
    | cells c t fr =>
      have := heap_setCell_at w ⟨b, j, none⟩ v c t fr rfl hb; simp only [] at this; rw [this]; simp [show j ≠ k from fun e => h e.symm]
    | _ =>
      unfold World.setCell; simp [Array.getElem?_modify, hb]
theorem sub_setCell {b o n : Nat} (w : World) (k : Nat) (v : Value) (h : o ≤ k ∧ k < o + n) : Sub b o n w (w.setCell ⟨b, k, none⟩ v) :=
  ⟨step_setCell [b] w ⟨b, k, none⟩ v (by simp), fun c t fr hc => ⟨_, heap_setCell_at w ⟨b, k, none⟩ v c t fr rfl hc, by simp⟩, fun i hi => cell_setCell_ne w b i k v (by omega)⟩
theorem Sub.setCell {b o n : Nat} {w w' : World} (h : Sub b o n w w') (k : Nat) (v : Value) (hk : o ≤ k ∧ k < o + n) : Sub b o n w (w'.setCell ⟨b, k, none⟩ v) := h.trans (sub_setCell w' k v hk)
theorem Sub.frozen {b o n : Nat} {w w' : World} (h : Sub b o n w w') (c : Array Value) (t : TypeId) (fr : Nat × Nat) (hc : w.heap[b]? = some (.cells c t fr)) (k : Nat) : w'.frozen? ⟨b, k, none⟩ = w.frozen? ⟨b, k, none⟩ := by
  obtain ⟨c', h', _⟩ := h.shape c t fr hc; unfold World.frozen?; simp only [hc, h']
theorem cell_block {w : World} {b k : Nat} {u : Value} (h : w.cell? ⟨b, k, none⟩ = some u) : ∃ c t fr, w.heap[b]? = some (.cells c t fr) ∧ c[k]? = some u := by
  unfold World.cell? at h; cases hb : w.heap[b]? with
  | none => simp [hb] at h
  | some x =>
    cases x with
    | cells c t fr => exact ⟨c, t, fr, rfl, by simpa [hb] using h⟩
    | _ => simp [hb] at h
theorem At.block {w : World} {b o : Nat} {vs : List Value} (h : At w b o vs) (hv : vs ≠ []) : ∃ c t fr, w.heap[b]? = some (.cells c t fr) := by
  match vs, hv with
  | v :: _, _ =>
    obtain ⟨c, t, fr, hc, _⟩ := cell_block (h 0 v rfl).1; exact ⟨c, t, fr, hc⟩
theorem At.lt {w : World} {b o : Nat} {vs : List Value} (h : At w b o vs) (hv : vs ≠ []) : b < w.heap.size := by
  obtain ⟨c, t, fr, hc⟩ := h.block hv; exact (Array.getElem?_eq_some_iff.1 hc).1
theorem At.nil_ (w : World) (b o : Nat) : At w b o [] := fun j u h => by simp at h
theorem At.sub {w w' : World} {b o n o' : Nat} {vs : List Value} (h : At w b o' vs) (k : Sub b o n w w') (hd : o' + vs.length ≤ o ∨ o + n ≤ o') : At w' b o' vs := fun j u hj => by
  have hlt : j < vs.length := (List.getElem?_eq_some_iff.1 hj).1; obtain ⟨h1, h2⟩ := h j u hj; obtain ⟨c, t, fr, hc, _⟩ := cell_block h1; exact ⟨(k.cell _ (by omega)).trans h1, (k.frozen c t fr hc _).trans h2⟩
theorem At.keep {w w' : World} {b o : Nat} {vs : List Value} (h : At w b o vs) (hk : w'.heap[b]? = w.heap[b]?) : At w' b o vs := fun j u hj => by
  obtain ⟨h1, h2⟩ := h j u hj; exact ⟨(World.cell?_of_block (w := w) (a := ⟨b, o + j, none⟩) hk).trans h1, (World.frozen?_of_block (w := w) (a := ⟨b, o + j, none⟩) hk).trans h2⟩
theorem At.alloc {w : World} {b o : Nat} {vs : List Value} (h : At w b o vs) (hv : vs ≠ []) (x : Obj) : At (w.alloc x) b o vs := h.keep (Below.heap_alloc w x b (h.lt hv))
theorem At.set {w : World} {b o : Nat} {vs : List Value} (h : At w b o vs) (k : Nat) (hk : k < vs.length) (v : Value) : At (w.setCell ⟨b, o + k, none⟩ v) b o (vs.set k v) := fun j u hj => by
  have hs := sub_setCell (b := b) (o := o + k) (n := 1) w (o + k) v (by omega); obtain ⟨h1, h2⟩ := h k vs[k] (List.getElem?_eq_getElem hk); obtain ⟨c, t, fr, hc, hcu⟩ := cell_block h1; by_cases e : j = k
  · subst e
    have : u = v := by simpa [hk] using hj.symm
    subst this; refine ⟨?_, (hs.frozen c t fr hc _).trans h2⟩; have hh := heap_setCell_at w ⟨b, o + j, none⟩ u c t fr rfl hc; have hlt : o + j < c.size := (Array.getElem?_eq_some_iff.1 hcu).1; unfold World.cell?; simp only [] at hh; rw [hh]; simp [hlt]
  · rw [List.getElem?_set_ne (fun h => e h.symm)] at hj
    obtain ⟨g1, g2⟩ := h j u hj; exact ⟨(hs.cell _ (by omega)).trans g1, (hs.frozen c t fr hc _).trans g2⟩
theorem at_cons {w : World} {b o : Nat} {v : Value} {vs : List Value} (h : w.cell? ⟨b, o, none⟩ = some v ∧ w.frozen? ⟨b, o, none⟩ = false) (ht : At w b (o + 1) vs) : At w b o (v :: vs) := fun j u hj => by
  cases j with
  | zero =>
    have : u = v := by simpa using hj.symm
    subst this; exact h
  | succ j =>
    have := ht j u (by simpa using hj); rw [show o + (j + 1) = o + 1 + j by omega]; exact this
theorem At.left {w : World} {b o : Nat} {vs us : List Value} (h : At w b o (vs ++ us)) : At w b o vs := fun j u hj => h j u (by
  have := (List.getElem?_eq_some_iff.1 hj).1; rw [List.getElem?_append_left this]; exact hj)
theorem At.right {w : World} {b o : Nat} {vs us : List Value} (h : At w b o (vs ++ us)) : At w b (o + vs.length) us := fun j u hj => by
  have := h (vs.length + j) u (by
    rw [List.getElem?_append_right (by omega)]; simpa using hj)
  rw [show o + vs.length + j = o + (vs.length + j) by omega]; exact this
theorem At.append {w : World} {b o : Nat} {vs us : List Value} (h : At w b o vs) (k : At w b (o + vs.length) us) : At w b o (vs ++ us) := fun j u hj => by
  by_cases hlt : j < vs.length
  · rw [List.getElem?_append_left hlt] at hj
    exact h j u hj
  · rw [List.getElem?_append_right (by omega)] at hj
    have := k (j - vs.length) u hj; rw [show o + vs.length + (j - vs.length) = o + j by omega] at this; exact this
end
section
open Go.RowKit
open Go.Lib
theorem run_make_rowN {P : Program} (t e : TypeId) (i : TypeInfo) (z : Value) (ht : P.underlying t = some (.slice e)) (hi : P.info? e = some i) (hz : i.zero = some z)
    (kl kc : IntKind) (n c : Nat) (hnc : n ≤ c) (hbytes : i.bytes * c ≤ 281474976710656) (h63 : c ≤ 9223372036854775807) (w : World) :
    (Instr.makeSlice t (.int kl (n : Int)) (.int kc (c : Int))).run P w = .ok (.slice (some ⟨w.heap.size, 0, none⟩) n c) (w.alloc (.cells (madeCells z.cells (c * i.size)) e)) := by
  have hb : (i.bytes : Int) * (c : Int) ≤ 281474976710656 := by
    have h : ((i.bytes * c : Nat) : Int) ≤ 281474976710656 := by omega
    rwa [Int.natCast_mul] at h
  have hr := run_make (P := P) w t e i z ht hi hz kl kc n c (by omega) (by omega) hb (by omega); simp only [Int.toNat_natCast] at hr; exact hr
theorem info5 : (Tryz.prog.info? 5).map (fun i => (i.zero, i.size, i.bytes)) = some (some (.int .u8 0), 1, 1) := by kernel_rfl
theorem made_bytes (n : Nat) : madeCells (Value.cells (.int .u8 0)) (n * 1) = (Lib.byteCells (List.replicate n 0)).toArray := by
  apply Array.toList_inj.1; simp [madeCells, Lib.byteCells]; apply List.ext_getElem
  · simp
  · intro i h1 h2
    simp [Value.cells, Nat.mod_one]
open Go in
theorem wp_region_tail {P : Program} {id : Nat} {Q : Exit → Act → World → Prop} {a : Act} {w : World} {l : List Oper} (n : Nat) (hm : P.follows .mixedOrders = true) (hB : Region.lexTailB .any l.toArray n = true)
    (h : wpStill P l.toArray w.drew (fun a' => wpList P l.toArray Q (l.drop n) a' w.drew) (l.take n) a) : (Code.region id l.toArray true).wp P Q a w :=
  wp_region_still_tail n hm hB h
theorem bytes_row {w : World} {g : Nat} {l : List UInt8} (hg : w.heap[g]? = some (.cells (Lib.byteCells l).toArray 5 (0, 0))) : Lib.Bytes w g 0 ⟨l.toArray⟩ := by
  intro i hi; have hi' : i < l.length := by simpa [ByteArray.size] using hi
  simp only [World.cell?, hg]; simp [Lib.byteCells, hi']; rfl
theorem conv_row {w : World} {g : Nat} {l : List UInt8} (hg : w.heap[g]? = some (.cells (Lib.byteCells l).toArray 5 (0, 0))) (f a cap : Nat) (h : f + a ≤ l.length) :
    (convert 51 9 (.slice (some ⟨g, f, none⟩) a cap)).run Tryz.prog w = .ok (.string ⟨((l.drop f).take a).toArray⟩) w := by
  have := run_convert_window (P := Tryz.prog) w 51 5 9 Tryz.underlying51 Tryz.underlying5 Tryz.underlying9 g 0 ⟨l.toArray⟩ (bytes_row hg) f a cap (by simpa [ByteArray.size] using h); rw [Nat.zero_add] at this; rw [this]; congr 2; apply ByteArray.ext; apply Array.toList_inj.1; rw [extract_data]; simp
theorem ba_append (x y : List UInt8) : ((⟨x.toArray⟩ : ByteArray) ++ (⟨y.toArray⟩ : ByteArray)) = ⟨(x ++ y).toArray⟩ := by
  apply ByteArray.ext; apply Array.toList_inj.1; simp
structure But (g : Nat) (w w' : World) : Prop where
  os : w'.os = w.os
  tape : w'.tape = w.tape
  output : w'.output = w.output
  size : w'.heap.size = w.heap.size
  block : ∀ k, k ≠ g → w'.heap[k]? = w.heap[k]?
theorem slice_str_hi (x : ByteArray) (k : Nat) (hk : k ≤ x.size) (W : World) : (Instr.slice 9 (.string x) none (some (.int .i64 (k : Int))) none).run Tryz.prog W = .ok (.string (x.extract 0 k)) W := by
  rw [run_slice_string_h W 9 x Tryz.underlying9 .i64 _ (by omega) (by omega)]; simp
theorem slice_str_lh (x : ByteArray) (a k : Nat) (ha : a ≤ k) (hk : k ≤ x.size) (W : World) : (Instr.slice 9 (.string x) (some (.int .i64 (a : Int))) (some (.int .i64 (k : Int))) none).run Tryz.prog W = .ok (.string (x.extract a k)) W := by
  rw [run_slice_string W 9 x .i64 .i64 _ _ Tryz.underlying9 (by omega) (by omega) (by omega)]; simp
theorem ext_list (x : ByteArray) (a k : Nat) : (x.extract a k).data.toList = (x.data.toList.take k).drop a := by
  rw [extract_data, List.drop_take]
theorem below_drewN {B : Nat} {a w : World} (h : Below B a w) (n : Nat) : Below B a (w.drewN n) := ⟨h.os, h.tape, h.output, h.size, h.block⟩
structure Keep (B L : Nat) (w w' : World) : Prop where
  below : Below B w w'
  above : ∀ k, L ≤ k → w'.heap[k]? = w.heap[k]?
theorem make_zero (m : Nat) (hm : m ≤ 100000) (v : Int) (hv : v = m) : ∀ W : World, (Instr.makeSlice 51 (.int .i64 v) (.int .i64 v)).run Tryz.prog W = .ok (.slice (some ⟨W.heap.size, 0, none⟩) m m) (W.alloc (.cells (Lib.byteCells (List.replicate m 0)).toArray 5)) := by
  subst hv; obtain ⟨i0, hi, hz0, hz1, hz2⟩ := info_parts info5; intro W; have := run_make_rowN (P := Tryz.prog) 51 5 i0 (.int .u8 0) Tryz.underlying51 hi hz0 .i64 .i64 m m (Nat.le_refl _) (by rw [hz2]; omega) (by omega) W; rw [hz1, made_bytes] at this; exact this
theorem block_of_add (a : Addr) (n : Nat) : (a.add n).block = a.block := by unfold Addr.add; split <;> rfl
def Reads (w : World) (B size : Nat) (A : Option Addr) (n : Nat) (xs : List Value) : Prop :=
  xs.length = n * size ∧ (0 < n → ∃ ad, A = some ad ∧ ad.block < B ∧ ∀ j u, xs[j]? = some u → w.cell? (ad.add j) = some u)
section
variable {w w' : World} {B B' size n : Nat} {A : Option Addr} {xs : List Value}
end
theorem size_list (x : ByteArray) : x.data.toList.length = x.size := by simp
theorem slice_str_lo (x : ByteArray) (a : Nat) (ha : a ≤ x.size) (W : World) : (Instr.slice 9 (.string x) (some (.int .i64 (a : Int))) none none).run Tryz.prog W = .ok (.string (x.extract a x.size)) W := by
  rw [run_slice_string_l W 9 x Tryz.underlying9 .i64 _ (by omega) (by omega)]; simp
theorem size_of (l : List UInt8) : (⟨l.toArray⟩ : ByteArray).size = l.length := by simp [ByteArray.size]
theorem cat_of (l k : List UInt8) : (⟨l.toArray⟩ : ByteArray) ++ ⟨k.toArray⟩ = ⟨(l ++ k).toArray⟩ := by
  apply ByteArray.ext; simp
theorem conv_new (W : World) (l : List UInt8) (cs : Array Value) (k : Nat) (hk : l.length = k) (hc : cs = (Lib.byteCells l).toArray) (x : ByteArray) (hx : x = ⟨l.toArray⟩) :
    (convert 51 9 (.slice (some ⟨W.heap.size, 0, none⟩) k k)).run Tryz.prog (W.alloc (.cells cs 5)) = .ok (.string x) (W.alloc (.cells cs 5)) := by
  subst hc hk hx; have := conv_row (w := W.alloc (.cells (Lib.byteCells l).toArray 5)) (g := W.heap.size) (l := l) (heap_alloc_new W _) 0 l.length l.length (by omega); rw [this]; simp
theorem wrap_u64_of (n : Int) (h0 : 0 ≤ n) (h1 : n < 18446744073709551616) : IntKind.u64.wrap n = n := by
  simp [IntKind.wrap, IntKind.bits, IntKind.signed]; omega
theorem wrap_u8_of (n : Int) (h0 : 0 ≤ n) (h1 : n < 256) : IntKind.u8.wrap n = n := by
  simp [IntKind.wrap, IntKind.bits, IntKind.signed]; omega
theorem wrap32 (n : Int) (h : 0 ≤ n) (h1 : n ≤ 1114111) : IntKind.i32.wrap n = n := by rw [IntKind.wrap_i32]; omega
end
section
open Go.RowKit
open Go.Lib
def Room (w : World) (b o n : Nat) : Prop := ∃ c t fr, w.heap[b]? = some (.cells c t fr) ∧ o + n ≤ c.size ∧ ∀ k, o ≤ k → k < o + n → w.frozen? ⟨b, k, none⟩ = false
theorem Room.cell {w : World} {b o n : Nat} (h : Room w b o n) (k : Nat) (h1 : o ≤ k) (h2 : k < o + n) : ∃ v, w.cell? ⟨b, k, none⟩ = some v ∧ w.frozen? ⟨b, k, none⟩ = false := by
  obtain ⟨c, t, fr, hc, hs, hf⟩ := h; refine ⟨c[k]'(by omega), ?_, hf k h1 h2⟩; unfold World.cell?; simp only [hc]; simp [show k < c.size by omega]
theorem Room.lt {w : World} {b o n : Nat} (h : Room w b o n) : b < w.heap.size := by
  obtain ⟨c, t, fr, hc, _⟩ := h; exact (Array.getElem?_eq_some_iff.1 hc).1
theorem Room.sub {w w' : World} {b o n o' n' : Nat} (h : Room w b o n) (k : Sub b o' n' w w') : Room w' b o n := by
  obtain ⟨c, t, fr, hc, hs, hf⟩ := h; obtain ⟨c', hc', hs'⟩ := k.shape c t fr hc; exact ⟨c', t, fr, hc', by omega, fun i h1 h2 => (k.frozen c t fr hc i).trans (hf i h1 h2)⟩
theorem Room.keep {w w' : World} {b o n : Nat} (h : Room w b o n) (hk : w'.heap[b]? = w.heap[b]?) : Room w' b o n := by
  obtain ⟨c, t, fr, hc, hs, hf⟩ := h; exact ⟨c, t, fr, hk.trans hc, hs, fun i h1 h2 => (World.frozen?_of_block (w := w) (a := ⟨b, i, none⟩) hk).trans (hf i h1 h2)⟩
theorem Room.part {w : World} {b o n o' n' : Nat} (h : Room w b o n) (h1 : o ≤ o') (h2 : o' + n' ≤ o + n) : Room w b o' n' := by
  obtain ⟨c, t, fr, hc, hs, hf⟩ := h; exact ⟨c, t, fr, hc, by omega, fun i h3 h4 => hf i (by omega) (by omega)⟩
theorem Room.there {w : World} {b o n : Nat} (h : Room w b o n) : w.there b o n := fun j hj => by
  obtain ⟨v, hv, hf⟩ := h.cell (o + j) (by omega) (by omega); exact ⟨by rw [hv]; rfl, hf⟩
theorem At.room {w : World} {b o : Nat} {vs : List Value} (h : At w b o vs) (hv : vs ≠ []) : Room w b o vs.length := by
  obtain ⟨c, t, fr, hc⟩ := h.block hv; have hl : 0 < vs.length := List.length_pos_iff.2 hv; refine ⟨c, t, fr, hc, ?_, fun k h1 h2 => ?_⟩
  · have h1 := (h (vs.length - 1) _ (List.getElem?_eq_getElem (by omega))).1
    unfold World.cell? at h1; simp only [hc] at h1; have := (Array.getElem?_eq_some_iff.1 (by simpa using h1)).1; omega
  · have h3 := (h (k - o) _ (List.getElem?_eq_getElem (by omega))).2
    rwa [show o + (k - o) = k by omega] at h3
theorem setAll_sub (b : Nat) : ∀ (vs : List Value) (w : World) (o : Nat), Sub b o vs.length w (w.setCells b o vs) := by
  intro vs
  induction vs with
  | nil => intro w o; exact Sub.refl _ _ _ _
  | cons v r ih =>
    intro w o; exact (sub_setCell w o v (by simp only [List.length_cons]; omega)).trans ((ih _ (o + 1)).widen (by omega) (by simp only [List.length_cons]; omega))
theorem setAll_at (b : Nat) : ∀ (vs : List Value) (w : World) (o : Nat), Room w b o vs.length → At (w.setCells b o vs) b o vs := by
  intro vs
  induction vs with
  | nil => intro w o _; exact At.nil_ _ _ _
  | cons v r ih =>
    intro w o hR; have h1 := sub_setCell (b := b) (o := o) (n := 1) w o v (by omega); refine at_cons ?_ (ih _ _ ((hR.sub h1).part (by omega) (by simp only [List.length_cons]; omega))); have hs := setAll_sub b r (w.setCell ⟨b, o, none⟩ v) (o + 1); obtain ⟨u, hu, hf⟩ := hR.cell o (Nat.le_refl _) (by simp only [List.length_cons]; omega); have hA : At w b o [u] := fun j x hx => by
      cases j with
      | zero => have : x = u := by simpa using hx.symm
                subst this; exact ⟨hu, hf⟩
      | succ j => simp at hx
    have hB : At (w.setCell ⟨b, o, none⟩ v) b o [v] := hA.set 0 (by simp) v; exact (hB.sub hs (.inl (by simp))) 0 v rfl
theorem wpList_store_room {P : Program} {ops : Array Oper} {rest : List Oper} {op : Oper} {a : Act} {w : World} {Q : Exit → Act → World → Prop} (hgd : op.guard = none) (ty : TypeId) (x y : Operand) (ho : op.op = .store ty x y)
    (b o : Nat) (cs : List Value) (hx : a.eval x = .pointer (some ⟨b, o, none⟩)) (hy : a.eval y = .agg cs.toArray) (hr : Room w b o cs.length) (hi : (P.info? ty).map (·.size) = some cs.length) (h1 : cs.toArray.all (·.oneCell') = true)
    (h : ∀ w', Hid (At w' b o cs ∧ Sub b o cs.length w w') → wpList P ops Q rest (a.put op.dst undef) w') : wpList P ops Q (op :: rest) a w :=
  wpList_store_mid hgd ty x y ho b o cs.toArray hx hy (by simpa using hr.there) (by simpa using hi) h1 (h _ (hid ⟨setAll_at b _ w o hr, setAll_sub b _ w o⟩))
theorem Room.alloc {w : World} {b o n : Nat} (h : Room w b o n) (x : Obj) : Room (w.alloc x) b o n := h.keep (Below.heap_alloc w x b h.lt)
theorem sub_of_below {w w' : World} {b : Nat} (h : Below w.heap.size w w') (hb : b < w.heap.size) (o n : Nat) : Sub b o n w w' :=
  ⟨⟨h.os, h.tape, h.output, h.size, fun k hk _ => h.block k hk, fun _ h => .inl h⟩, fun c _ _ hc => ⟨c, (h.block b hb).trans hc, rfl⟩, fun _ _ => World.cell?_of_block (w := w) (h.block b hb)⟩
end
section
open Go.RowKit
open Go.Lib
def tkCells (t : Tk) : List Value := [.int .u8 t.k, .string ⟨t.t.toArray⟩, .bool t.n.1, .int .u64 t.n.2]
def tkV (t : Tk) : Value := .agg #[.int .u8 t.k, .string ⟨t.t.toArray⟩, .bool t.n.1, .int .u64 t.n.2]
def tksC : List Tk → List Value
  | [] => []
  | e :: r => tkCells e ++ tksC r
theorem tksC_append (L K : List Tk) : tksC (L ++ K) = tksC L ++ tksC K := by
  induction L with
  | nil => rfl
  | cons e L ih => simp only [List.cons_append, tksC, ih, List.append_assoc]
theorem tksC_one (L : List Tk) : ∀ u ∈ tksC L, u.oneCell' = true := by
  induction L with
  | nil => intro u h; simp [tksC] at h
  | cons e L ih =>
    intro u h; rw [tksC, List.mem_append] at h; rcases h with h | h
    · simp [tkCells] at h
      rcases h with rfl | rfl | rfl | rfl <;> rfl
    · exact ih u h
def getT (L : List Tk) (i : Nat) : Tk := L[i]?.getD (sgnT 0)
theorem tksC_get (L : List Tk) : ∀ (i j : Nat), i < L.length → j < 4 → (tksC L)[i * 4 + j]? = (tkCells (getT L i))[j]? := by
  induction L with
  | nil => intro i j h; simp at h
  | cons e L ih =>
    intro i j hi hj; rw [tksC]; cases i with
    | zero =>
      rw [List.getElem?_append_left (by simp [tkCells]; omega)]; simp [getT]
    | succ i =>
      rw [List.getElem?_append_right (by simp [tkCells]; omega)]; have h1 : (i + 1) * 4 + j - (tkCells e).length = i * 4 + j := by simp [tkCells]; omega
      rw [h1, ih i j (by simpa using hi) hj]; simp [getT]
theorem info_tk : (Tryz.prog.info? 201).map (fun i => (i.zero, i.size, i.bytes)) = some (some (.agg #[.int .u8 0, .string ⟨#[]⟩, .bool false, .int .u64 0]), 4, 40) := by kernel_rfl
structure Tks (w0 w : World) (v : Value) (L : List Tk) : Prop where
  win : Win w 201 4 v L.length (tksC L)
  new : ∀ k ∈ Value.owner v, w0.heap.size ≤ k
theorem Tks.nil_ (w0 w : World) : Tks w0 w (.slice none 0 0) [] := ⟨Win.nil_ _ _ _, fun k hk => by simp [Value.owner] at hk⟩
theorem Tks.keep {w0 w w' : World} {v : Value} {L : List Tk} (h : Tks w0 w v L) (hk : ∀ k, k < w.heap.size → w0.heap.size ≤ k → w'.heap[k]? = w.heap[k]?) : Tks w0 w' v L :=
  ⟨h.win.keep fun k ho => hk k (h.win.lt k ho) (h.new k ho), h.new⟩
theorem Tks.go {w0 w w' : World} {v : Value} {L : List Tk} (h : Tks w0 w v L) (k : Below w.heap.size w w') : Tks w0 w' v L := h.keep fun i hi _ => k.block i hi
theorem Tks.sub {w0 w w' : World} {v : Value} {L : List Tk} {b o n : Nat} (h : Tks w0 w v L) (k : Sub b o n w w') (hb : b < w0.heap.size) : Tks w0 w' v L :=
  h.keep fun i hi h0 => k.step.block i hi (by simp only [List.mem_singleton]; omega)
theorem Tks.old {w0 w1 w : World} {v : Value} {L : List Tk} (h : Tks w0 w v L) (hs : w1.heap.size ≤ w0.heap.size) : Tks w1 w v L := ⟨h.win, fun k hk => Nat.le_trans hs (h.new k hk)⟩
theorem Tks.form {w0 w : World} {v : Value} {L : List Tk} (h : Tks w0 w v L) : ∃ a c, v = .slice a L.length c := by
  obtain ⟨a, c, h, _, _⟩ := h.win.slice_form; exact ⟨a, c, h⟩
theorem Tks.cells {w0 w : World} {v : Value} {L : List Tk} (h : Tks w0 w v L) {i : Nat} (hi : i < L.length) : ∃ b off c, v = .slice (some ⟨b, off, none⟩) L.length c ∧
    w.cell? ⟨b, off + i * 4, none⟩ = some (.int .u8 (getT L i).k) ∧ w.cell? ⟨b, off + i * 4 + 1, none⟩ = some (.string ⟨(getT L i).t.toArray⟩) ∧ w.cell? ⟨b, off + i * 4 + 2, none⟩ = some (.bool (getT L i).n.1) ∧ w.cell? ⟨b, off + i * 4 + 3, none⟩ = some (.int .u64 (getT L i).n.2) := by
  obtain ⟨g, off, c, rfl, _, _, _, _, hc⟩ := h.win.form (by omega); refine ⟨g, off, c, rfl, ?_, ?_, ?_, ?_⟩
  · exact (hc (i * 4 + 0) _ (by rw [tksC_get L i 0 hi (by omega)]; rfl)).1
  · exact (hc (i * 4 + 1) _ (by rw [tksC_get L i 1 hi (by omega)]; rfl)).1
  · exact (hc (i * 4 + 2) _ (by rw [tksC_get L i 2 hi (by omega)]; rfl)).1
  · exact (hc (i * 4 + 3) _ (by rw [tksC_get L i 3 hi (by omega)]; rfl)).1
theorem tks_one (w0 w : World) (t : Tk) (hs : w0.heap.size ≤ w.heap.size) : Tks w0 (w.alloc (.cells #[.int .u8 t.k, .string ⟨t.t.toArray⟩, .bool t.n.1, .int .u64 t.n.2] 201)) (.slice (some ⟨w.heap.size, 0, none⟩) 1 1) [t] :=
  ⟨⟨rfl, .inr ⟨w.heap.size, 0, 1, _, rfl, heap_alloc_new w _, Nat.le_refl _, by simp, by unfold maxLen; omega, by simp [tksC, tkCells]⟩⟩, fun k hk => by simp [Value.owner] at hk; subst hk; exact hs⟩
end
end Go.Proofs.YtkgconbdmnmbnaaGreat
