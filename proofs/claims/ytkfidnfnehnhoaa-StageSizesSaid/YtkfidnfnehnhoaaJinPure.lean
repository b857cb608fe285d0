/-
  NO PROGRAM NEEDED: JSON read as parts, as a machine over the lexer's tokens; parts written as JSON; what is written so is read as it was, with blanks or without.
-/
import Derived.Test.YtkfidnfnehnhoaaLexPure
import Derived.Test.YtkfidnfnehnhoaaEvPure
namespace Go.Proofs.Ytkfidnfnehnhoaa
open Go.Lib
/-- An open container: a map or not; where it stands: an array 0 begun, 1 behind a value, 2 behind a comma; a map 0 begun, 1 behind a key, 2 behind a colon, 3 behind a value, 4 behind a comma. -/
structure FrJ where
  map : Bool
  p : Nat
deriving DecidableEq
inductive Pj
  | bad (e : Nat)
  | at_ (st : List FrJ) (dn : Bool)
/-- May a value come? -/
def readyJ : List FrJ → Bool → Bool
  | [], dn => !dn
  | ⟨false, p⟩ :: _, _ => p == 0 || p == 2
  | ⟨true, p⟩ :: _, _ => p == 2
/-- Behind a value. -/
def paidJ : List FrJ → List FrJ
  | [] => []
  | ⟨false, _⟩ :: r => ⟨false, 1⟩ :: r
  | ⟨true, _⟩ :: r => ⟨true, 3⟩ :: r
def doneJ : List FrJ → Bool
  | [] => true
  | _ => false
/-- A value that is no container. -/
def valJ (st : List FrJ) (dn : Bool) (e : Ev) : Pj × List Ev := if readyJ st dn = true then (.at_ (paidJ st) (doneJ st), [e]) else (.bad 2, [])
def openJ (D : Nat) (st : List FrJ) (dn : Bool) (m : Bool) (e : Ev) : Pj × List Ev :=
  if readyJ st dn = true then (if D ≤ st.length then (.bad 4, []) else (.at_ (⟨m, 0⟩ :: paidJ st) false, [e])) else (.bad 2, [])
def shutJ (m : Bool) : List FrJ → Pj × List Ev
  | ⟨b, p⟩ :: r => if b = m ∧ (p = 0 ∨ p = if m then 3 else 1) then (.at_ r (doneJ r), [evEnd]) else (.bad 2, [])
  | [] => (.bad 2, [])
def commaJ : List FrJ → Pj × List Ev
  | ⟨false, 1⟩ :: r => (.at_ (⟨false, 2⟩ :: r) false, [])
  | ⟨true, 3⟩ :: r => (.at_ (⟨true, 4⟩ :: r) false, [])
  | _ => (.bad 2, [])
def colonJ : List FrJ → Pj × List Ev
  | ⟨true, 1⟩ :: r => (.at_ (⟨true, 2⟩ :: r) false, [])
  | _ => (.bad 2, [])
def evText (t : List UInt8) : Ev := ⟨3, false, 0, ⟨t.toArray⟩, 0⟩
def evNum (w : Bool × Nat) : Ev := ⟨2, w.1, w.2, ⟨#[]⟩, 0⟩
def evBool (b : Bool) : Ev := ⟨1, b, 0, ⟨#[]⟩, 0⟩
def evOpen (m : Bool) : Ev := ⟨if m then 6 else 5, false, 0, ⟨#[]⟩, -1⟩
/-- A string: a key, or a value. -/
def strJ (st : List FrJ) (dn : Bool) (t : List UInt8) : Pj × List Ev :=
  match st with
  | ⟨true, 0⟩ :: r => (.at_ (⟨true, 1⟩ :: r) false, [evText t])
  | ⟨true, 4⟩ :: r => (.at_ (⟨true, 1⟩ :: r) false, [evText t])
  | _ => valJ st dn (evText t)
def tokJ (D : Nat) : Pj → Tk → Pj × List Ev
  | .bad e, _ => (.bad e, [])
  | .at_ st dn, t =>
    if t.k = 44 then commaJ st else if t.k = 58 then colonJ st else if t.k = 93 then shutJ false st else if t.k = 125 then shutJ true st
    else if t.k = 91 then openJ D st dn false (evOpen false) else if t.k = 123 then openJ D st dn true (evOpen true)
    else if t.k = 115 then strJ st dn t.t else if t.k = 110 then valJ st dn (evNum t.n) else if t.k = 116 then valJ st dn (evBool true) else if t.k = 102 then valJ st dn (evBool false) else valJ st dn evNull
def toksJ (D : Nat) : Pj → List Tk → Pj × List Ev
  | p, [] => (p, [])
  | p, t :: r => ((toksJ D (tokJ D p t).1 r).1, (tokJ D p t).2 ++ (toksJ D (tokJ D p t).1 r).2)
structure Js where
  lx : Lx
  p : Pj
def badX : Lx → Option Nat
  | .bad e => some e
  | _ => none
/-- A byte: with a lexer's error no parts. -/
def stepJ (D : Nat) (s : Js) (b : UInt8) : Js × List Ev :=
  match s.p with
  | .bad _ => (s, [])
  | .at_ _ _ => match badX (stepX s.lx b).1 with
    | some e => (⟨.idle, .bad e⟩, [])
    | none => (⟨(stepX s.lx b).1, (toksJ D s.p (stepX s.lx b).2).1⟩, (toksJ D s.p (stepX s.lx b).2).2)
def runJ (D : Nat) : Js → List UInt8 → Js × List Ev
  | s, [] => (s, [])
  | s, b :: t => ((runJ D (stepJ D s b).1 t).1, (stepJ D s b).2 ++ (runJ D (stepJ D s b).1 t).2)
theorem runJ_append (D : Nat) (s : Js) (a b : List UInt8) : runJ D s (a ++ b) = ((runJ D (runJ D s a).1 b).1, (runJ D s a).2 ++ (runJ D (runJ D s a).1 b).2) := by
  induction a generalizing s with
  | nil => simp [runJ]
  | cons x t ih => simp only [List.cons_append, runJ, ih, List.append_assoc]
/-- At the end of all: the parts, the error. -/
def endJ (D : Nat) (s : Js) : List Ev × Nat :=
  match s.p with
  | .bad e => ([], e)
  | .at_ _ _ => if (endX s.lx).2 ≠ 0 then ([], (endX s.lx).2) else match toksJ D s.p (endX s.lx).1 with
    | (.bad e, l) => (l, e)
    | (.at_ _ true, l) => (l, 0)
    | (.at_ _ false, l) => (l, 3)
def allJ (D : Nat) (b : List UInt8) : List Ev × Nat := ((runJ D ⟨.idle, .at_ [] false⟩ b).2 ++ (endJ D (runJ D ⟨.idle, .at_ [] false⟩ b).1).1, (endJ D (runJ D ⟨.idle, .at_ [] false⟩ b).1).2)
/-! ### Bytes of which no token comes -/
theorem run_still (D : Nat) (st : List FrJ) (dn : Bool) : ∀ (bs : List UInt8) (lx lx' : Lx), runX lx bs = (lx', []) → badX lx' = none → runJ D ⟨lx, .at_ st dn⟩ bs = (⟨lx', .at_ st dn⟩, [])
  | [], lx, lx', h, _ => by
    simp only [runX, Prod.mk.injEq] at h
    rw [h.1]
    rfl
  | b :: bs, lx, lx', h, hb => by
    rw [runX_cons] at h
    simp only [Prod.mk.injEq, List.append_eq_nil_iff] at h
    obtain ⟨h1, h2, h3⟩ := h
    have hg : badX (stepX lx b).1 = none := by
      cases hs : (stepX lx b).1 with
      | bad e =>
        rw [hs, runX_bad] at h1
        simp only at h1
        rw [← h1] at hb
        cases hb
      | idle => rfl
      | str _ _ => rfl
      | num _ => rfl
      | word _ _ => rfl
    have hst : stepJ D ⟨lx, .at_ st dn⟩ b = (⟨(stepX lx b).1, .at_ st dn⟩, []) := by
      simp only [stepJ, hg, h2, toksJ]
    have ih := run_still D st dn bs (stepX lx b).1 lx' (by rw [← h1, ← h3]) hb
    simp only [runJ, hst, ih, List.append_nil]
/-- A byte behind which the lexer is between tokens. -/
theorem step_tells (D : Nat) (st : List FrJ) (dn : Bool) (lx : Lx) (b : UInt8) (ts : List Tk) (h : stepX lx b = (.idle, ts)) : stepJ D ⟨lx, .at_ st dn⟩ b = (⟨.idle, (toksJ D (.at_ st dn) ts).1⟩, (toksJ D (.at_ st dn) ts).2) := by
  simp only [stepJ, h, badX]
theorem runJ_one (D : Nat) (s : Js) (b : UInt8) : runJ D s [b] = stepJ D s b := by simp [runJ]
theorem toks_one (D : Nat) (p : Pj) (t : Tk) : toksJ D p [t] = tokJ D p t := by simp [toksJ]
/-- Bytes that are one token, at their last one. -/
theorem run_token (D : Nat) (st : List FrJ) (dn : Bool) (bs : List UInt8) (b : UInt8) (lx' : Lx) (t : Tk) (h : runX .idle bs = (lx', [])) (hb : badX lx' = none) (hs : stepX lx' b = (.idle, [t])) :
    runJ D ⟨.idle, .at_ st dn⟩ (bs ++ [b]) = (⟨.idle, (tokJ D (.at_ st dn) t).1⟩, (tokJ D (.at_ st dn) t).2) := by
  rw [runJ_append, run_still D st dn bs .idle lx' h hb, runJ_one, step_tells D st dn lx' b [t] hs, toks_one]
  simp
/-! ### Parts written as JSON -/
def outW (e : Ev) : List UInt8 :=
  if e.k = 0 then [110, 117, 108, 108] else if e.k = 1 then (if e.y = true then [116, 114, 117, 101] else [102, 97, 108, 115, 101]) else if e.k = 2 then printD (e.y, e.m)
  else if e.k = 3 then 34 :: escW e.t.data.toList ++ [34] else if e.k = 5 then [91] else [123]
def sepW : List Bx → List UInt8
  | [] => []
  | b :: _ => if b.have_ = 0 then [] else if b.map = true ∧ b.have_ % 2 = 1 then [58] else [44]
def writeW (s : List Bx) (e : Ev) : List UInt8 :=
  if e.k = 7 then (match s with
    | [] => []
    | b :: _ => if b.map = true then [125] else [93]) else sepW s ++ outW e
/-- What JSON has, and its reader tells: no bytes; counts that are not known; texts that are UTF-8, of at most 200 bytes. -/
structure GoodW (e : Ev) : Prop where
  kind : e.k = 0 ∨ e.k = 1 ∨ e.k = 2 ∨ e.k = 3 ∨ e.k = 5 ∨ e.k = 6 ∨ e.k = 7
  tidy : tidyE e = e
  open_ : e.k = 5 ∨ e.k = 6 → e.c = -1
  mag : e.m < 18446744073709551616
  text : e.k = 3 → validD e.t.data.toList = true ∧ e.t.data.toList.length ≤ 200
def frB (b : Bx) : FrJ := ⟨b.map, if b.have_ = 0 then 0 else if b.map = true then (if b.have_ % 2 = 1 then 1 else 3) else 1⟩
def frS (s : List Bx) : List FrJ := s.map frB
def pOf : Ck → Pj
  | .bad e => .bad e
  | .live s => .at_ (frS s) false
  | .done => .at_ [] true
/-- The reader behind what was written: between tokens, or within a number that is told ahead of what comes. -/
def RelW (c : Ck) (j : Js) (pend : List Ev) : Prop :=
  (j = ⟨.idle, pOf c⟩ ∧ pend = []) ∨
  ∃ (w : Bool × Nat) (st : List FrJ) (dn : Bool), w.2 < 18446744073709551616 ∧ j = ⟨.num (prD w), .at_ st dn⟩ ∧ readyJ st dn = true ∧ pOf c = .at_ (paidJ st) (doneJ st) ∧ pend = [evNum w]
theorem tok_num (D : Nat) (st : List FrJ) (dn : Bool) (w : Bool × Nat) (h : readyJ st dn = true) : tokJ D (.at_ st dn) (numT w) = (.at_ (paidJ st) (doneJ st), [evNum w]) := by
  simp only [tokJ, numT, valJ, h]
  rfl
theorem rel_sign {D : Nat} {c : Ck} {j : Js} {pend : List Ev} {st : List FrJ} {dn : Bool} (h : RelW c j pend) (hp : pOf c = .at_ st dn) (b : UInt8) (hb : isSgn b.toNat = true) :
    stepJ D j b = (⟨.idle, (tokJ D (.at_ st dn) (sgnT b.toNat)).1⟩, pend ++ (tokJ D (.at_ st dn) (sgnT b.toNat)).2) := by
  rcases h with ⟨rfl, rfl⟩ | ⟨w, st', dn', hw, rfl, hr, hq, rfl⟩
  · rw [hp, step_tells D st dn .idle b [sgnT b.toNat] (by
      simp only [stepX, startX]
      rw [if_neg (by simp only [isSgn, isBlank, Bool.or_eq_true, beq_iff_eq] at hb ⊢; omega), if_pos hb]), toks_one]
    rfl
  · rw [hp] at hq
    rw [step_tells D st' dn' _ b [numT w, sgnT b.toNat] (num_sign w hw b hb)]
    simp only [toksJ, tok_num D st' dn' w hr, ← hq, List.append_nil]
theorem rel_blank {D : Nat} {c : Ck} {j : Js} {pend : List Ev} {st : List FrJ} {dn : Bool} (h : RelW c j pend) (hp : pOf c = .at_ st dn) (b : UInt8) (hb : isBlank b.toNat = true) :
    stepJ D j b = (⟨.idle, .at_ st dn⟩, pend) := by
  rcases h with ⟨rfl, rfl⟩ | ⟨w, st', dn', hw, rfl, hr, hq, rfl⟩
  · rw [hp, step_tells D st dn .idle b [] (blank_none b hb)]
    rfl
  · rw [hp] at hq
    rw [step_tells D st' dn' _ b [numT w] (num_blank w hw b hb)]
    simp only [toksJ, tok_num D st' dn' w hr, ← hq, List.append_nil]
theorem rel_blanks {D : Nat} {c : Ck} {st : List FrJ} {dn : Bool} (hp : pOf c = .at_ st dn) : ∀ (bs : List UInt8) (j : Js) (pend : List Ev), RelW c j pend → (∀ b ∈ bs, isBlank b.toNat = true) →
    ∃ j' ps pend', runJ D j bs = (j', ps) ∧ RelW c j' pend' ∧ pend = ps ++ pend'
  | [], j, pend, h, _ => ⟨j, [], pend, rfl, h, rfl⟩
  | b :: bs, j, pend, h, hb => by
    have h1 := rel_blank (D := D) h hp b (hb b (by simp))
    obtain ⟨j', ps, pend', h2, h3, h4⟩ := rel_blanks (D := D) hp bs ⟨.idle, .at_ st dn⟩ [] (.inl ⟨by rw [hp], rfl⟩) (fun x hx => hb x (by simp [hx]))
    refine ⟨j', pend ++ ps, pend', ?_, h3, ?_⟩
    · simp only [runJ, h1, h2]
    · rw [List.append_assoc, ← h4, List.append_nil]
theorem rel_end {D : Nat} {j : Js} {pend : List Ev} (h : RelW .done j pend) : endJ D j = (pend, 0) := by
  rcases h with ⟨rfl, rfl⟩ | ⟨w, st, dn, hw, rfl, hr, hq, rfl⟩
  · rfl
  · simp only [endJ, num_end w hw]
    simp only [pOf, Pj.at_.injEq] at hq
    rw [toks_one, tok_num D st dn w hr, ← hq.1, ← hq.2]
    rfl
/-- The reader's place behind a comma, or a colon. -/
def sepF : List Bx → List FrJ
  | [] => []
  | b :: r => if b.have_ = 0 then frB b :: frS r else if b.map = true ∧ b.have_ % 2 = 1 then ⟨true, 2⟩ :: frS r else if b.map = true then ⟨true, 4⟩ :: frS r else ⟨false, 2⟩ :: frS r
theorem sep_step (D : Nat) (s : List Bx) (j : Js) (pend : List Ev) (h : RelW (.live s) j pend) : runJ D j (sepW s) = (⟨.idle, .at_ (sepF s) false⟩, pend) := by
  have quiet : (s = [] ∨ ∃ b r, s = b :: r ∧ b.have_ = 0) → j = ⟨.idle, .at_ (frS s) false⟩ ∧ pend = [] := by
    intro hs
    rcases h with h | ⟨w, st, dn, hw, rfl, hr, hq, rfl⟩
    · exact h
    · exfalso
      simp only [pOf, Pj.at_.injEq] at hq
      obtain ⟨h1, h2⟩ := hq
      match st with
      | [] => simp [doneJ] at h2
      | ⟨m, p⟩ :: q =>
        rcases hs with rfl | ⟨b, r, rfl, h0⟩
        · cases m <;> simp [frS, paidJ] at h1
        · cases m <;> simp [frS, paidJ, frB, h0] at h1
  match s, h, quiet with
  | [], h, quiet =>
    obtain ⟨rfl, rfl⟩ := quiet (.inl rfl)
    rfl
  | ⟨m, c, n⟩ :: r, h, quiet =>
    by_cases h0 : n = 0
    · subst h0
      obtain ⟨rfl, rfl⟩ := quiet (.inr ⟨_, _, rfl, rfl⟩)
      simp [sepW, sepF, runJ, frS]
    · cases m with
      | false =>
        have hw : sepW (⟨false, c, n⟩ :: r) = [44] := by simp [sepW, h0]
        have hf : sepF (⟨false, c, n⟩ :: r) = ⟨false, 2⟩ :: frS r := by simp [sepF, h0]
        rw [hw, hf, runJ_one, rel_sign h rfl 44 rfl]
        simp [tokJ, sgnT, frS, frB, h0, commaJ]
      | true =>
        by_cases h2 : n % 2 = 1
        · have hw : sepW (⟨true, c, n⟩ :: r) = [58] := by simp [sepW, h0, h2]
          have hf : sepF (⟨true, c, n⟩ :: r) = ⟨true, 2⟩ :: frS r := by simp [sepF, h0, h2]
          rw [hw, hf, runJ_one, rel_sign h rfl 58 rfl]
          simp [tokJ, sgnT, frS, frB, h0, h2, colonJ]
        · have hw : sepW (⟨true, c, n⟩ :: r) = [44] := by simp [sepW, h0, h2]
          have hf : sepF (⟨true, c, n⟩ :: r) = ⟨true, 4⟩ :: frS r := by simp [sepF, h0, h2]
          rw [hw, hf, runJ_one, rel_sign h rfl 44 rfl]
          simp [tokJ, sgnT, frS, frB, h0, h2, commaJ]
theorem ev_str {e : Ev} (h3 : e.k = 3) (ht : tidyE e = e) : e = evText e.t.data.toList := by
  obtain ⟨k, y, m, t, c⟩ := e
  simp only at h3
  subst h3
  simp [tidyE] at ht
  simp [evText, ← ht]
theorem ev_num {e : Ev} (h2 : e.k = 2) (ht : tidyE e = e) : e = evNum (e.y, e.m) := by
  obtain ⟨k, y, m, t, c⟩ := e
  simp only at h2
  subst h2
  simp [tidyE] at ht
  simp [evNum, ← ht]
theorem ev_bool {e : Ev} (h1 : e.k = 1) (ht : tidyE e = e) : e = evBool e.y := by
  obtain ⟨k, y, m, t, c⟩ := e
  simp only at h1
  subst h1
  simp [tidyE] at ht
  simp [evBool, ← ht]
theorem ev_null {e : Ev} (h0 : e.k = 0) (ht : tidyE e = e) : e = evNull := by
  obtain ⟨k, y, m, t, c⟩ := e
  simp only at h0
  subst h0
  simp [tidyE] at ht
  simp [evNull, ← ht]
theorem ev_end {e : Ev} (h7 : e.k = 7) (ht : tidyE e = e) : e = evEnd := by
  obtain ⟨k, y, m, t, c⟩ := e
  simp only at h7
  subst h7
  simp [tidyE] at ht
  simp [evEnd, ← ht]
theorem ev_open {e : Ev} {m : Bool} (h : e.k = if m then 6 else 5) (ht : tidyE e = e) (hc : e.c = -1) : e = evOpen m := by
  obtain ⟨k, y, mg, t, c⟩ := e
  simp only at h hc
  subst h hc
  cases m <;> simp [tidyE] at ht <;> simp [evOpen, ← ht]
/-- A string, whole. -/
theorem run_str (D : Nat) (st : List FrJ) (dn : Bool) (t : List UInt8) (hv : validD t = true) (hl : t.length ≤ 200) :
    runJ D ⟨.idle, .at_ st dn⟩ (34 :: escW t ++ [34]) = (⟨.idle, (strJ st dn t).1⟩, (strJ st dn t).2) := by
  have h := quote_in t hv (escW t).length (Nat.le_refl _)
  rw [List.take_of_length_le (by simp), List.take_of_length_le (Nat.le_refl _), read_write t hv] at h
  unfold strX at h
  rw [if_neg (by simp only; omega)] at h
  rw [run_token D st dn (34 :: escW t) 34 _ ⟨115, t, (false, 0)⟩ h rfl rfl]
  rfl
/-- A value that is no container, nor a key. -/
theorem run_val (D : Nat) (st : List FrJ) (e : Ev) (h : GoodW e) (hk : e.k = 0 ∨ e.k = 1 ∨ e.k = 2 ∨ e.k = 3) (hr : readyJ st false = true) :
    ∃ j ps pend, runJ D ⟨.idle, .at_ st false⟩ (outW e) = (j, ps) ∧ (∀ c, pOf c = .at_ (paidJ st) (doneJ st) → RelW c j pend) ∧ [e] = ps ++ pend := by
  have word : ∀ (bs : List UInt8) (b : UInt8) (lx' : Lx) (t : Tk) (x : Ev), runX .idle bs = (lx', []) → badX lx' = none → stepX lx' b = (.idle, [t]) → tokJ D (.at_ st false) t = valJ st false x → e = x → outW e = bs ++ [b] →
      ∃ j ps pend, runJ D ⟨.idle, .at_ st false⟩ (outW e) = (j, ps) ∧ (∀ c, pOf c = .at_ (paidJ st) (doneJ st) → RelW c j pend) ∧ [e] = ps ++ pend := by
    intro bs b lx' t x h1 h2 h3 h4 h5 h6
    have hv : valJ st false x = (.at_ (paidJ st) (doneJ st), [x]) := by simp [valJ, hr]
    refine ⟨⟨.idle, .at_ (paidJ st) (doneJ st)⟩, [x], [], ?_, fun c hc => .inl ⟨by rw [hc], rfl⟩, by rw [h5]; rfl⟩
    rw [h6, run_token D st false bs b lx' t h1 h2 h3, h4, hv]
  rcases hk with h0 | h1 | h2 | h3
  · exact word [110, 117, 108] 108 (.word 48 [108]) (sgnT 48) evNull rfl rfl rfl rfl (ev_null h0 h.tidy) (by simp [outW, h0])
  · cases hy : e.y with
    | true => exact word [116, 114, 117] 101 (.word 116 [101]) (sgnT 116) (evBool true) rfl rfl rfl rfl (by rw [← hy]; exact ev_bool h1 h.tidy) (by simp [outW, h1, hy])
    | false => exact word [102, 97, 108, 115] 101 (.word 102 [101]) (sgnT 102) (evBool false) rfl rfl rfl rfl (by rw [← hy]; exact ev_bool h1 h.tidy) (by simp [outW, h1, hy])
  · have ho : outW e = printD (e.y, e.m) := by simp [outW, h2]
    have hne : printD (e.y, e.m) ≠ [] := by
      unfold printD
      split
      · simp
      · exact dec_ne _
    have hrun := num_in (runs_print (e.y, e.m)) hne
    refine ⟨⟨.num (prD (e.y, e.m)), .at_ st false⟩, [], [evNum (e.y, e.m)], ?_, fun c hc => .inr ⟨(e.y, e.m), st, false, h.mag, rfl, hr, hc, rfl⟩, ?_⟩
    · rw [ho]
      exact run_still D st false _ .idle _ hrun rfl
    · rw [← ev_num h2 h.tidy]
      rfl
  · have ho : outW e = 34 :: escW e.t.data.toList ++ [34] := by simp [outW, h3]
    have hs := run_str D st false e.t.data.toList (h.text h3).1 (h.text h3).2
    have hst : strJ st false e.t.data.toList = valJ st false (evText e.t.data.toList) := by
      match st, hr with
      | [], _ => rfl
      | ⟨false, p⟩ :: q, _ => rfl
      | ⟨true, p⟩ :: q, hr =>
        have : p = 2 := by simpa [readyJ] using hr
        subst this
        rfl
    refine ⟨⟨.idle, .at_ (paidJ st) (doneJ st)⟩, [evText e.t.data.toList], [], ?_, fun c hc => .inl ⟨by rw [hc], rfl⟩, by rw [← ev_str h3 h.tidy]; rfl⟩
    rw [ho, hs, hst]
    simp [valJ, hr]
theorem sep_ready (s : List Bx) (h : keyB s = false) : readyJ (sepF s) false = true := by
  match s with
  | [] => rfl
  | ⟨false, c, n⟩ :: r =>
    by_cases h0 : n = 0
    · simp [sepF, h0, frB, readyJ]
    · simp [sepF, h0, readyJ]
  | ⟨true, c, n⟩ :: r =>
    have h2 : n % 2 = 1 := by
      have : ¬ n % 2 = 0 := by simpa [keyB] using h
      omega
    have h0 : n ≠ 0 := by omega
    simp [sepF, h0, h2, readyJ]
theorem sep_paid (s : List Bx) (h : keyB s = false) : paidJ (sepF s) = frS (incB s) ∧ doneJ (sepF s) = s.isEmpty ∧ (sepF s).length = s.length := by
  match s with
  | [] => exact ⟨rfl, rfl, rfl⟩
  | ⟨false, c, n⟩ :: r =>
    by_cases h0 : n = 0
    · simp [sepF, h0, frB, paidJ, doneJ, incB, frS]
    · simp [sepF, h0, frB, paidJ, doneJ, incB, frS]
  | ⟨true, c, n⟩ :: r =>
    have h2 : n % 2 = 1 := by
      have : ¬ n % 2 = 0 := by simpa [keyB] using h
      omega
    have h0 : n ≠ 0 := by omega
    have h3 : ¬ (n + 1) % 2 = 1 := by omega
    simp [sepF, h0, h2, frB, paidJ, doneJ, incB, frS, h3]
theorem sep_key (s : List Bx) (h : keyB s = true) (t : List UInt8) : strJ (sepF s) false t = (.at_ (frS (incB s)) false, [evText t]) := by
  match s with
  | [] => cases h
  | ⟨false, c, n⟩ :: r => simp [keyB] at h
  | ⟨true, c, n⟩ :: r =>
    have h2 : n % 2 = 0 := by simpa [keyB] using h
    have h3 : (n + 1) % 2 = 1 := by omega
    by_cases h0 : n = 0
    · subst h0
      simp [sepF, frB, strJ, incB, frS]
    · have h4 : ¬ n % 2 = 1 := by omega
      simp [sepF, h0, h4, frB, strJ, incB, frS, h3]
/-- One part. -/
theorem part_step (D : Nat) (s : List Bx) (e : Ev) (j : Js) (pend : List Ev) (h : RelW (.live s) j pend) (hg : GoodW e) (hb : ∀ f, stepC (.live s) e ≠ .bad f) (hd : e.k = 5 ∨ e.k = 6 → s.length < D) (hopen : ∀ b ∈ s, b.c = -1) :
    ∃ j' ps pend', runJ D j (writeW s e) = (j', ps) ∧ RelW (stepC (.live s) e) j' pend' ∧ pend ++ [e] = ps ++ pend' := by
  have hm : ¬ ¬ mayE e := fun hn => hb 2 (by simp only [stepC]; rw [if_pos hn])
  by_cases h7 : e.k = 7
  · match s, h, hb, hopen with
    | [], h, hb, _ => exact absurd (by simp only [stepC]; rw [if_neg hm, if_pos h7]) (hb 2)
    | ⟨m, c, n⟩ :: r, h, hb, hopen =>
      have hs : stepC (.live (⟨m, c, n⟩ :: r)) e = if shutB ⟨m, c, n⟩ then .bad 2 else if r = [] then .done else .live r := by simp only [stepC]; rw [if_neg hm, if_pos h7]
      have hns : ¬ shutB ⟨m, c, n⟩ := fun hh => hb 2 (by rw [hs, if_pos hh])
      rw [if_neg hns] at hs
      have hc : c = -1 := hopen ⟨m, c, n⟩ (by simp)
      have hodd : ¬ (m = true ∧ n % 2 = 1) := fun hh => hns (.inr hh)
      have hp : pOf (stepC (.live (⟨m, c, n⟩ :: r)) e) = .at_ (frS r) (doneJ (frS r)) := by
        rw [hs]
        cases r with
        | nil => rfl
        | cons b q => simp [pOf, frS, doneJ]
      have hw : writeW (⟨m, c, n⟩ :: r) e = [if m = true then 125 else 93] := by
        unfold writeW
        rw [if_pos h7]
        cases m <;> rfl
      have htok : tokJ D (.at_ (frS (⟨m, c, n⟩ :: r)) false) (sgnT (if m = true then 125 else 93 : UInt8).toNat) = (.at_ (frS r) (doneJ (frS r)), [evEnd]) := by
        cases m with
        | false => by_cases h0 : n = 0 <;> simp [tokJ, sgnT, frS, frB, h0, shutJ]
        | true =>
          by_cases h0 : n = 0
          · simp [tokJ, sgnT, frS, frB, h0, shutJ]
          · have h2 : ¬ n % 2 = 1 := fun hh => hodd ⟨rfl, hh⟩
            simp [tokJ, sgnT, frS, frB, h0, h2, shutJ]
      refine ⟨⟨.idle, .at_ (frS r) (doneJ (frS r))⟩, pend ++ [evEnd], [], ?_, .inl ⟨by rw [hp], rfl⟩, by rw [ev_end h7 hg.tidy]; simp⟩
      rw [hw, runJ_one, rel_sign h rfl _ (by cases m <;> rfl), htok]
  · have hw : writeW s e = sepW s ++ outW e := by unfold writeW; rw [if_neg h7]
    rw [hw, runJ_append, sep_step D s j pend h]
    simp only
    by_cases hk : keyB s = true
    · have h3 : e.k = 3 := by
        rcases Classical.em (e.k = 3) with h3 | h3
        · exact h3
        · exact absurd (by simp only [stepC]; rw [if_neg hm, if_neg h7, if_pos ⟨hk, h3⟩]) (hb 8)
      have hne : s ≠ [] := by intro hh; rw [hh] at hk; cases hk
      have hs : stepC (.live s) e = .live (incB s) := by
        simp only [stepC]
        rw [if_neg hm, if_neg h7, if_neg (fun hh => hh.2 h3), if_neg (by omega), if_neg hne]
      have ho : outW e = 34 :: escW e.t.data.toList ++ [34] := by simp [outW, h3]
      refine ⟨⟨.idle, .at_ (frS (incB s)) false⟩, pend ++ [evText e.t.data.toList], [], ?_, .inl ⟨by rw [hs]; rfl, rfl⟩, by rw [← ev_str h3 hg.tidy]; simp⟩
      rw [ho, run_str D (sepF s) false _ (hg.text h3).1 (hg.text h3).2, sep_key s hk]
    · have hkf : keyB s = false := by simpa using hk
      have hkn : ¬ (keyB s = true ∧ e.k ≠ 3) := fun hh => hk hh.1
      obtain ⟨hpd, hdn, hln⟩ := sep_paid s hkf
      have hr := sep_ready s hkf
      by_cases h56 : e.k = 5 ∨ e.k = 6
      · have hs : stepC (.live s) e = .live (⟨decide (e.k = 6), e.c, 0⟩ :: incB s) := by
          simp only [stepC]
          rw [if_neg hm, if_neg h7, if_neg hkn, if_pos h56]
          by_cases h16 : 16 ≤ s.length
          · exact absurd (by simp only [stepC]; rw [if_neg hm, if_neg h7, if_neg hkn, if_pos h56, if_pos h16]) (hb 4)
          · rw [if_neg h16]
        have hlt := hd h56
        obtain ⟨m, hmk⟩ : ∃ m : Bool, e.k = if m then 6 else 5 := by
          rcases h56 with h5 | h6
          · exact ⟨false, h5⟩
          · exact ⟨true, h6⟩
        have he := ev_open hmk hg.tidy (hg.open_ h56)
        have ho : outW e = [if m = true then 123 else 91] := by cases m <;> simp [outW, hmk]
        have hdm : decide (e.k = 6) = m := by cases m <;> simp [hmk]
        have htok : tokJ D (.at_ (sepF s) false) (sgnT (if m = true then 123 else 91 : UInt8).toNat) = (.at_ (⟨m, 0⟩ :: paidJ (sepF s)) false, [evOpen m]) := by
          have hop : ∀ x, openJ D (sepF s) false m x = (.at_ (⟨m, 0⟩ :: paidJ (sepF s)) false, [x]) := fun x => by
            unfold openJ
            rw [if_pos hr, if_neg (by omega)]
          cases m
          · exact hop (evOpen false)
          · exact hop (evOpen true)
        refine ⟨⟨.idle, .at_ (⟨m, 0⟩ :: paidJ (sepF s)) false⟩, pend ++ [evOpen m], [], ?_, .inl ⟨?_, rfl⟩, by rw [← he]; simp⟩
        · rw [ho, runJ_one, step_tells D (sepF s) false .idle _ [sgnT (if m = true then 123 else 91 : UInt8).toNat] (by cases m <;> rfl), toks_one, htok]
        · rw [hs, hpd, hdm]
          rfl
      · have hs : stepC (.live s) e = if s = [] then .done else .live (incB s) := by
          simp only [stepC]
          rw [if_neg hm, if_neg h7, if_neg hkn, if_neg h56]
        have hk4 : e.k = 0 ∨ e.k = 1 ∨ e.k = 2 ∨ e.k = 3 := by have := hg.kind; omega
        obtain ⟨j', ps, pend', h1, h2, h3⟩ := run_val D (sepF s) e hg hk4 hr
        refine ⟨j', pend ++ ps, pend', by rw [h1], h2 _ ?_, by rw [h3, List.append_assoc]⟩
        rw [hs, hpd, hdn]
        cases s with
        | nil => rfl
        | cons b r => rw [if_neg (by simp)]; rfl
/-- Parts, one behind the other, each with the blanks p ahead of it and q behind it. -/
def writeAll (p q : List UInt8) : List Bx → List Ev → List UInt8
  | _, [] => []
  | s, e :: l => p ++ (writeW s e ++ (q ++ (match stepC (.live s) e with
    | .live s' => writeAll p q s' l
    | _ => [])))
/-- No container more than so deep. -/
def DeepW (D : Nat) : List Bx → List Ev → Prop
  | _, [] => True
  | s, e :: l => (e.k = 5 ∨ e.k = 6 → s.length < D) ∧ (match stepC (.live s) e with
    | .live s' => DeepW D s' l
    | _ => True)
theorem open_step {s s' : List Bx} {e : Ev} (h : stepC (.live s) e = .live s') (hs : ∀ b ∈ s, b.c = -1) (hg : GoodW e) : ∀ b ∈ s', b.c = -1 := by
  have hinc : ∀ b ∈ incB s, b.c = -1 := by
    cases s with
    | nil => intro b hb; cases hb
    | cons x r =>
      intro b hb
      rcases List.mem_cons.1 hb with rfl | hb
      · exact hs x (by simp)
      · exact hs b (by simp [hb])
  simp only [stepC] at h
  split at h
  · cases h
  · split at h
    · cases s with
      | nil => cases h
      | cons x r =>
        simp only at h
        split at h
        · cases h
        · split at h
          · cases h
          · simp only [Ck.live.injEq] at h
            subst h
            exact fun b hb => hs b (by simp [hb])
    · split at h
      · cases h
      · split at h
        · rename_i h56
          split at h
          · cases h
          · simp only [Ck.live.injEq] at h
            subst h
            intro b hb
            rcases List.mem_cons.1 hb with rfl | hb
            · exact hg.open_ h56
            · exact hinc b hb
        · split at h
          · cases h
          · simp only [Ck.live.injEq] at h
            subst h
            exact hinc
theorem live_pOf (s : List Bx) : pOf (.live s) = .at_ (frS s) false := rfl
theorem back_run (D : Nat) (p q : List UInt8) (hp : ∀ b ∈ p, isBlank b.toNat = true) (hq : ∀ b ∈ q, isBlank b.toNat = true) : ∀ (l : List Ev) (s : List Bx) (j : Js) (pend : List Ev), RelW (.live s) j pend → runC (.live s) l = .done →
    (∀ e ∈ l, GoodW e) → DeepW D s l → (∀ b ∈ s, b.c = -1) → ∃ j' ps pend', runJ D j (writeAll p q s l) = (j', ps) ∧ RelW .done j' pend' ∧ pend ++ l = ps ++ pend'
  | [], s, j, pend, _, hr, _, _, _ => by simp [runC] at hr
  | e :: l, s, j, pend, h, hr, hg, hd, ho => by
    rw [runC_cons] at hr
    have hb : ∀ f, stepC (.live s) e ≠ .bad f := fun f hf => by
      rw [hf, runC_bad] at hr
      cases hr
    obtain ⟨j1, p1, q1, r1, h1, e1⟩ := rel_blanks (D := D) (live_pOf s) p j pend h hp
    obtain ⟨j2, p2, q2, r2, h2, e2⟩ := part_step D s e j1 q1 h1 (hg e (by simp)) hb hd.1 ho
    have hpo : ∃ st dn, pOf (stepC (.live s) e) = .at_ st dn := by
      cases hs : stepC (.live s) e with
      | bad f => exact absurd hs (hb f)
      | live s' => exact ⟨_, _, rfl⟩
      | done => exact ⟨_, _, rfl⟩
    obtain ⟨st, dn, hpo⟩ := hpo
    obtain ⟨j3, p3, q3, r3, h3, e3⟩ := rel_blanks (D := D) hpo q j2 q2 h2 hq
    have hd2 := hd.2
    have hw : writeAll p q s (e :: l) = p ++ (writeW s e ++ (q ++ (match stepC (.live s) e with
      | .live s' => writeAll p q s' l
      | _ => []))) := rfl
    rw [hw]
    cases hs : stepC (.live s) e with
    | bad f => exact absurd hs (hb f)
    | done =>
      rw [hs] at hr h3
      have hl := runC_done hr
      subst hl
      refine ⟨j3, p1 ++ (p2 ++ (p3 ++ [])), q3, ?_, h3, ?_⟩
      · rw [runJ_append, r1]
        simp only
        rw [runJ_append, r2]
        simp only
        rw [runJ_append, r3]
        simp [runJ]
      · rw [e1, List.append_assoc, e2, e3]
        simp [List.append_assoc]
    | live s' =>
      rw [hs] at hr h3 hd2
      obtain ⟨j4, p4, q4, r4, h4, e4⟩ := back_run D p q hp hq l s' j3 q3 h3 hr (fun x hx => hg x (by simp [hx])) hd2 (open_step hs ho (hg e (by simp)))
      refine ⟨j4, p1 ++ (p2 ++ (p3 ++ p4)), q4, ?_, h4, ?_⟩
      · rw [runJ_append, r1]
        simp only
        rw [runJ_append, r2]
        simp only
        rw [runJ_append, r3]
        simp only [r4]
      · have : pend ++ e :: l = p1 ++ ((q1 ++ [e]) ++ l) := by rw [e1]; simp [List.append_assoc]
        rw [this, e2, List.append_assoc, e3, List.append_assoc, e4]
        simp [List.append_assoc]
/-- WHAT IS WRITTEN SO IS READ AS IT WAS. -/
theorem back_all (D : Nat) (p q : List UInt8) (hp : ∀ b ∈ p, isBlank b.toNat = true) (hq : ∀ b ∈ q, isBlank b.toNat = true) (l : List Ev) (hc : checkE l = 0) (hg : ∀ e ∈ l, GoodW e) (hd : DeepW D [] l) : allJ D (writeAll p q [] l) = (l, 0) := by
  obtain ⟨j', ps, pend', h1, h2, h3⟩ := back_run D p q hp hq l [] ⟨.idle, .at_ [] false⟩ [] (.inl ⟨rfl, rfl⟩) (check_zero hc) hg hd (by simp)
  unfold allJ
  rw [h1]
  simp only
  rw [rel_end h2]
  simp only [List.nil_append] at h3
  rw [← h3]
/-! ### What is read is one document, or the beginning of one -/
def MatchF (f : FrJ) (b : Bx) : Prop := b.map = f.map ∧ b.c = -1 ∧ (f.map = true → (f.p = 0 ∨ f.p = 3 ∨ f.p = 4) ∧ b.have_ % 2 = 0 ∨ (f.p = 1 ∨ f.p = 2) ∧ b.have_ % 2 = 1)
def MatchS : List FrJ → List Bx → Prop
  | [], [] => True
  | f :: r, b :: s => MatchF f b ∧ MatchS r s
  | _, _ => False
theorem MatchS.length : ∀ {r : List FrJ} {s : List Bx}, MatchS r s → r.length = s.length
  | [], [], _ => rfl
  | _ :: _, _ :: _, h => by simp [MatchS.length h.2]
  | [], _ :: _, h => h.elim
  | _ :: _, [], h => h.elim
/-- The reader's place, and what Check makes of the parts so far. -/
def InvJ (c : Ck) (st : List FrJ) (dn : Bool) : Prop := (∃ s, c = .live s ∧ MatchS st s ∧ dn = false) ∨ (c = .done ∧ st = [] ∧ dn = true)
/-- Of a token: with an error no parts; else the place and Check go on together. -/
def GoesJ (c : Ck) (r : Pj × List Ev) : Prop := match r.1 with
  | .bad e => r.2 = [] ∧ e ≠ 0
  | .at_ st dn => InvJ (runC c r.2) st dn
theorem may_low {e : Ev} (h : e.k = 0 ∨ e.k = 1 ∨ e.k = 2 ∨ e.k = 3) : mayE e := ⟨by omega, by omega, fun h' => by omega⟩
/-- A value's place: no key must come there. -/
theorem ready_key {st : List FrJ} {s : List Bx} (h : MatchS st s) (hr : readyJ st false = true) : keyB s = false := by
  match st, s, h with
  | [], [], _ => rfl
  | ⟨m, p⟩ :: r, b :: q, h =>
    obtain ⟨⟨h1, h2, h3⟩, _⟩ := h
    cases m with
    | false => simp only at h1; simp [keyB, h1]
    | true =>
      have hp : p = 2 := by simpa [readyJ] using hr
      subst hp
      have := h3 rfl
      simp only at this
      have hodd : b.have_ % 2 = 1 := by omega
      simp [keyB, hodd]
theorem paid_match {st : List FrJ} {s : List Bx} (h : MatchS st s) (hr : readyJ st false = true) : MatchS (paidJ st) (incB s) := by
  match st, s, h with
  | [], [], _ => trivial
  | ⟨m, p⟩ :: r, b :: q, h =>
    obtain ⟨⟨h1, h2, h3⟩, h4⟩ := h
    cases m with
    | false => exact ⟨⟨h1, h2, fun hh => by cases hh⟩, h4⟩
    | true =>
      have hp : p = 2 := by simpa [readyJ] using hr
      subst hp
      have := h3 rfl
      simp only at this
      have hodd : b.have_ % 2 = 1 := by omega
      exact ⟨⟨h1, h2, fun _ => .inl ⟨.inr (.inl rfl), by show (b.have_ + 1) % 2 = 0; omega⟩⟩, h4⟩
theorem goes_val {c : Ck} {st : List FrJ} {dn : Bool} (h : InvJ c st dn) (e : Ev) (he : e.k = 0 ∨ e.k = 1 ∨ e.k = 2 ∨ e.k = 3) : GoesJ c (valJ st dn e) := by
  unfold valJ
  by_cases hr : readyJ st dn = true
  · rw [if_pos hr]
    show InvJ (runC c [e]) _ _
    rcases h with ⟨s, rfl, hm, rfl⟩ | ⟨rfl, rfl, rfl⟩
    · have hk := ready_key hm hr
      have hs : stepC (.live s) e = if s = [] then .done else .live (incB s) := by
        simp only [stepC]
        rw [if_neg (fun hn => hn (may_low he)), if_neg (by omega), if_neg (fun hh => by rw [hk] at hh; cases hh.1), if_neg (by omega)]
      have hrun : runC (.live s) [e] = stepC (.live s) e := rfl
      rw [hrun, hs]
      have hpm := paid_match hm hr
      match st, s, hm, hpm with
      | [], [], _, _ => exact .inr ⟨rfl, rfl, rfl⟩
      | f :: r, b :: q, _, hpm =>
        rw [if_neg (by simp)]
        refine .inl ⟨_, rfl, hpm, ?_⟩
        rfl
    · cases hr
  · rw [if_neg hr]
    exact ⟨rfl, by decide⟩
theorem goes_open {c : Ck} {st : List FrJ} {dn : Bool} (h : InvJ c st dn) (D : Nat) (hD : D ≤ 16) (m : Bool) : GoesJ c (openJ D st dn m (evOpen m)) := by
  unfold openJ
  by_cases hr : readyJ st dn = true
  · rw [if_pos hr]
    by_cases hd : D ≤ st.length
    · rw [if_pos hd]
      exact ⟨rfl, by decide⟩
    · rw [if_neg hd]
      show InvJ (runC c [evOpen m]) _ _
      rcases h with ⟨s, rfl, hm, rfl⟩ | ⟨rfl, rfl, rfl⟩
      · have hk := ready_key hm hr
        have hl := hm.length
        have hs : stepC (.live s) (evOpen m) = .live (⟨m, -1, 0⟩ :: incB s) := by
          simp only [stepC]
          rw [if_neg (fun hn => hn (by cases m <;> decide)), if_neg (by cases m <;> decide), if_neg (fun hh => by rw [hk] at hh; cases hh.1), if_pos (by cases m <;> decide), if_neg (by omega)]
          cases m <;> rfl
        have hrun : runC (.live s) [evOpen m] = stepC (.live s) (evOpen m) := rfl
        rw [hrun, hs]
        exact .inl ⟨_, rfl, ⟨⟨rfl, rfl, fun _ => .inl ⟨.inl rfl, rfl⟩⟩, paid_match hm hr⟩, rfl⟩
      · cases hr
  · rw [if_neg hr]
    exact ⟨rfl, by decide⟩
theorem goes_shut {c : Ck} {st : List FrJ} {dn : Bool} (h : InvJ c st dn) (m : Bool) : GoesJ c (shutJ m st) := by
  rcases h with ⟨s, rfl, hm, rfl⟩ | ⟨rfl, rfl, rfl⟩
  · match st, s, hm with
    | [], [], _ => exact ⟨rfl, by decide⟩
    | ⟨b, p⟩ :: r, x :: q, hm =>
      obtain ⟨⟨h1, h2, h3⟩, h4⟩ := hm
      simp only [shutJ]
      by_cases hc : b = m ∧ (p = 0 ∨ p = if m = true then 3 else 1)
      · rw [if_pos hc]
        obtain ⟨rfl, hp⟩ := hc
        show InvJ (runC (.live (x :: q)) [evEnd]) r (doneJ r)
        have hns : ¬ shutB x := by
          rintro (⟨hh, _⟩ | ⟨hh, ho⟩)
          · rw [h2] at hh; omega
          · simp only at h1
            rw [h1] at hh
            subst hh
            have := h3 rfl
            simp only [if_true] at this hp
            omega
        have hs : stepC (.live (x :: q)) evEnd = if q = [] then .done else .live q := by
          simp only [stepC]
          rw [if_neg (fun hn => hn (by decide)), if_pos (show evEnd.k = 7 from rfl), if_neg hns]
        have hrun : runC (.live (x :: q)) [evEnd] = stepC (.live (x :: q)) evEnd := rfl
        rw [hrun, hs]
        match r, q, h4 with
        | [], [], _ => exact .inr ⟨rfl, rfl, rfl⟩
        | f :: r, b' :: q, h4 => rw [if_neg (by simp)]; exact .inl ⟨_, rfl, h4, rfl⟩
      · rw [if_neg hc]
        exact ⟨rfl, by decide⟩
  · exact ⟨rfl, by decide⟩
theorem goes_comma {c : Ck} {st : List FrJ} {dn : Bool} (h : InvJ c st dn) : GoesJ c (commaJ st) := by
  rcases h with ⟨s, rfl, hm, rfl⟩ | ⟨rfl, rfl, rfl⟩
  · unfold commaJ
    split
    · match s, hm with
      | x :: q, hm => exact .inl ⟨_, rfl, ⟨⟨hm.1.1, hm.1.2.1, fun hh => by cases hh⟩, hm.2⟩, rfl⟩
    · match s, hm with
      | x :: q, hm =>
        have := hm.1.2.2 rfl
        simp only at this
        exact .inl ⟨_, rfl, ⟨⟨hm.1.1, hm.1.2.1, fun _ => .inl ⟨.inr (.inr rfl), by omega⟩⟩, hm.2⟩, rfl⟩
    · exact ⟨rfl, by decide⟩
  · exact ⟨rfl, by decide⟩
theorem goes_colon {c : Ck} {st : List FrJ} {dn : Bool} (h : InvJ c st dn) : GoesJ c (colonJ st) := by
  rcases h with ⟨s, rfl, hm, rfl⟩ | ⟨rfl, rfl, rfl⟩
  · unfold colonJ
    split
    · match s, hm with
      | x :: q, hm =>
        have := hm.1.2.2 rfl
        simp only at this
        exact .inl ⟨_, rfl, ⟨⟨hm.1.1, hm.1.2.1, fun _ => .inr ⟨.inr rfl, by omega⟩⟩, hm.2⟩, rfl⟩
    · exact ⟨rfl, by decide⟩
  · exact ⟨rfl, by decide⟩
theorem goes_key {s : List Bx} {r : List FrJ} {p : Nat} (hm : MatchS (⟨true, p⟩ :: r) s) (hp : p = 0 ∨ p = 4) (t : List UInt8) : InvJ (runC (.live s) [evText t]) (⟨true, 1⟩ :: r) false := by
  match s, hm with
  | x :: q, hm =>
    have h3 := hm.1.2.2 rfl
    simp only at h3
    have hev : x.have_ % 2 = 0 := by omega
    have hs : stepC (.live (x :: q)) (evText t) = .live (incB (x :: q)) := by
      simp only [stepC]
      rw [if_neg (fun hn => hn (may_low (.inr (.inr (.inr rfl))))), if_neg (by simp [evText]), if_neg (fun hh => hh.2 rfl), if_neg (by simp [evText]), if_neg (by simp)]
    have hrun : runC (.live (x :: q)) [evText t] = stepC (.live (x :: q)) (evText t) := rfl
    rw [hrun, hs]
    exact .inl ⟨_, rfl, ⟨⟨hm.1.1, hm.1.2.1, fun _ => .inr ⟨.inl rfl, by show (x.have_ + 1) % 2 = 1; omega⟩⟩, hm.2⟩, rfl⟩
theorem goes_str {c : Ck} {st : List FrJ} {dn : Bool} (h : InvJ c st dn) (t : List UInt8) : GoesJ c (strJ st dn t) := by
  have hv := goes_val h (evText t) (.inr (.inr (.inr rfl)))
  unfold strJ
  split
  · rcases h with ⟨s, rfl, hm, rfl⟩ | ⟨_, h, _⟩
    · exact goes_key hm (.inl rfl) t
    · cases h
  · rcases h with ⟨s, rfl, hm, rfl⟩ | ⟨_, h, _⟩
    · exact goes_key hm (.inr rfl) t
    · cases h
  · exact hv
theorem goes_tok {c : Ck} {st : List FrJ} {dn : Bool} (h : InvJ c st dn) (D : Nat) (hD : D ≤ 16) (t : Tk) : GoesJ c (tokJ D (.at_ st dn) t) := by
  simp only [tokJ]
  split
  · exact goes_comma h
  split
  · exact goes_colon h
  split
  · exact goes_shut h false
  split
  · exact goes_shut h true
  split
  · exact goes_open h D hD false
  split
  · exact goes_open h D hD true
  split
  · exact goes_str h t.t
  split
  · exact goes_val h _ (.inr (.inr (.inl rfl)))
  split
  · exact goes_val h _ (.inr (.inl rfl))
  split
  · exact goes_val h _ (.inr (.inl rfl))
  · exact goes_val h _ (.inl rfl)
/-- Of the parts so far: one document, or the beginning of one. -/
def PartW (c : Ck) : Prop := (∃ s, c = .live s) ∨ c = .done
theorem InvJ.part {c : Ck} {st : List FrJ} {dn : Bool} (h : InvJ c st dn) : PartW c := by
  rcases h with ⟨s, rfl, _⟩ | ⟨rfl, _⟩
  · exact .inl ⟨s, rfl⟩
  · exact .inr rfl
def AfterJ (c : Ck) (p : Pj) : Prop := match p with
  | .bad e => PartW c ∧ e ≠ 0
  | .at_ st dn => InvJ c st dn
theorem toks_bad (D e : Nat) (l : List Tk) : toksJ D (.bad e) l = (.bad e, []) := by
  induction l with
  | nil => rfl
  | cons t l ih => simp only [toksJ, tokJ, ih, List.append_nil]
theorem goes_toks (D : Nat) (hD : D ≤ 16) : ∀ (l : List Tk) (c : Ck) (st : List FrJ) (dn : Bool), InvJ c st dn → AfterJ (runC c (toksJ D (.at_ st dn) l).2) (toksJ D (.at_ st dn) l).1
  | [], c, st, dn, h => h
  | t :: l, c, st, dn, h => by
    have ht := goes_tok h D hD t
    simp only [toksJ]
    generalize tokJ D (.at_ st dn) t = r at ht ⊢
    obtain ⟨p, ps⟩ := r
    cases p with
    | bad e =>
      obtain ⟨hps, he⟩ : ps = [] ∧ e ≠ 0 := ht
      subst hps
      simp only [toks_bad]
      exact ⟨h.part, he⟩
    | at_ st' dn' =>
      have := goes_toks D hD l (runC c ps) st' dn' ht
      simp only [runC_append]
      exact this
/-- A lexer's error is one. -/
theorem start_err {b e : Nat} (h : badX (startX b).1 = some e) : e ≠ 0 := by
  unfold startX at h
  repeat' split at h
  all_goals first | (simp [badX] at h; omega) | (cases h)
theorem step_err {lx : Lx} (hl : badX lx = none) (b : UInt8) {e : Nat} (h : badX (stepX lx b).1 = some e) : e ≠ 0 := by
  cases lx with
  | bad f => cases hl
  | idle => exact start_err h
  | str s t =>
    simp only [stepX] at h
    split at h
    · cases h
    · split at h
      · rename_i hh
        simp only [badX, Option.some.injEq] at h
        omega
      · split at h
        · simp only [badX, Option.some.injEq] at h
          omega
        · cases h
  | num d =>
    simp only [stepX] at h
    split at h
    · rename_i hh
      simp only [badX, Option.some.injEq] at h
      omega
    · split at h
      · cases h
      · split at h
        · rename_i hh
          simp only [badX, Option.some.injEq] at h
          omega
        · have hst := @start_err b.toNat e
          generalize startX b.toNat = r at h hst
          obtain ⟨s, l⟩ := r
          cases s with
          | bad f => exact hst h
          | idle => cases h
          | str _ _ => cases h
          | num _ => cases h
          | word _ _ => cases h
  | word k r =>
    cases r with
    | nil => simp only [stepX, badX, Option.some.injEq] at h; omega
    | cons x q =>
      simp only [stepX] at h
      split at h
      · split at h <;> cases h
      · simp only [badX, Option.some.injEq] at h
        omega
theorem goes_run (D : Nat) (hD : D ≤ 16) : ∀ (bs : List UInt8) (c : Ck) (s : Js), badX s.lx = none → AfterJ c s.p → AfterJ (runC c (runJ D s bs).2) (runJ D s bs).1.p ∧ badX (runJ D s bs).1.lx = none
  | [], c, s, hl, h => ⟨h, hl⟩
  | b :: bs, c, s, hl, h => by
    have hs : AfterJ (runC c (stepJ D s b).2) (stepJ D s b).1.p ∧ badX (stepJ D s b).1.lx = none := by
      obtain ⟨lx, p⟩ := s
      cases p with
      | bad e => exact ⟨h, hl⟩
      | at_ st dn =>
        simp only [stepJ]
        cases hb : badX (stepX lx b).1 with
        | some e => exact ⟨⟨InvJ.part h, step_err hl b hb⟩, rfl⟩
        | none => exact ⟨goes_toks D hD _ c st dn h, hb⟩
    have := goes_run D hD bs (runC c (stepJ D s b).2) (stepJ D s b).1 hs.2 hs.1
    simp only [runJ, runC_append]
    exact this
theorem part_check {l : List Ev} (h : PartW (runC (.live []) l)) : checkE l = 0 ∨ checkE l = 3 := by
  unfold checkE
  rcases h with ⟨s, h⟩ | h
  · rw [h]; exact .inr rfl
  · rw [h]; exact .inl rfl
/-- WHAT IS READ WITHOUT AN ERROR IS ONE DOCUMENT; with one, the beginning of one. -/
theorem all_check (D : Nat) (hD : D ≤ 16) (b : List UInt8) : ((allJ D b).2 = 0 → checkE (allJ D b).1 = 0) ∧ (checkE (allJ D b).1 = 0 ∨ checkE (allJ D b).1 = 3) := by
  have h0 : AfterJ (.live []) (.at_ [] false) := .inl ⟨[], rfl, trivial, rfl⟩
  have h := (goes_run D hD b (.live []) ⟨.idle, .at_ [] false⟩ rfl h0).1
  unfold allJ
  generalize runJ D ⟨.idle, .at_ [] false⟩ b = r at h
  obtain ⟨⟨lx, p⟩, ps⟩ := r
  simp only at h ⊢
  cases p with
  | bad e =>
    obtain ⟨hp, he⟩ : PartW (runC (.live []) ps) ∧ e ≠ 0 := h
    simp only [endJ, List.append_nil]
    exact ⟨fun h0 => absurd h0 he, part_check hp⟩
  | at_ st dn =>
    simp only [endJ]
    by_cases he : (endX lx).2 ≠ 0
    · rw [if_pos he]
      simp only [List.append_nil]
      exact ⟨fun h0 => absurd h0 he, part_check (InvJ.part h)⟩
    · rw [if_neg he]
      have hg := goes_toks D hD (endX lx).1 (runC (.live []) ps) st dn h
      rw [← runC_append] at hg
      generalize toksJ D (.at_ st dn) (endX lx).1 = r at hg ⊢
      obtain ⟨p, l⟩ := r
      cases p with
      | bad e =>
        obtain ⟨hp, he2⟩ : PartW (runC (.live []) (ps ++ l)) ∧ e ≠ 0 := hg
        exact ⟨fun h0 => absurd h0 he2, part_check hp⟩
      | at_ st' dn' =>
        have hi : InvJ (runC (.live []) (ps ++ l)) st' dn' := hg
        cases dn' with
        | true =>
          rcases hi with ⟨s, _, _, hh⟩ | ⟨hc, _, _⟩
          · cases hh
          · have : checkE (ps ++ l) = 0 := by unfold checkE; rw [hc]; rfl
            exact ⟨fun _ => this, .inl this⟩
        | false => exact ⟨fun h0 => (by cases h0), part_check hi.part⟩
end Go.Proofs.Ytkfidnfnehnhoaa
