/-
  GENERAL, NO PROGRAM NEEDED: THE INSIDE OF A JSON STRING AS STATES: what a byte adds, which byte may follow; what the short forms are read as.
-/
import Derived.Test.YtkfidnfnehnhoaaUtfEnc
namespace Go.Proofs.Ytkfidnfnehnhoaa
open Go.Lib
def hexV (b : Nat) : Option Nat := if 48 ≤ b ∧ b ≤ 57 then some (b - 48) else if 97 ≤ b ∧ b ≤ 102 then some (b - 87) else if 65 ≤ b ∧ b ≤ 70 then some (b - 55) else none
/-- text n lo hi: n bytes of a rune lack; back: behind a backslash; hex k v: k digits, their value; high h k w: behind the high surrogate h, k of a low one's six signs; bad u: an error (true: of UTF-8). -/
inductive Ins where
  | text (n lo hi : Nat)
  | back
  | hex (k v : Nat)
  | high (h k w : Nat)
  | bad (utf : Bool)
  deriving DecidableEq
def insT : Ins := .text 0 0 0
def insS : Option (Nat × Nat × Nat) → Ins
  | some (n, lo, hi) => .text n lo hi
  | none => .bad true
def lowOk (k b : Nat) : Bool := match k with
  | 0 => b == 92
  | 1 => b == 117
  | 2 => b == 100 || b == 68
  | 3 => match hexV b with
    | some d => decide (12 ≤ d)
    | none => false
  | _ => (hexV b).isSome
def lowW (k w b : Nat) : Nat := if k < 2 then 0 else w * 16 + (hexV b).getD 0
def shortOf (b : Nat) : Option Nat := if b = 34 ∨ b = 92 ∨ b = 47 then some b else if b = 98 then some 8 else if b = 102 then some 12 else if b = 110 then some 10 else if b = 114 then some 13 else if b = 116 then some 9 else none
/-- The rune of a pair. -/
def pairN (h w : Nat) : Nat := 65536 + (h - 55296) * 1024 + w - 56320
def stepI : Ins → UInt8 → Ins × List UInt8
  | .bad u, _ => (.bad u, [])
  | .text n lo hi, b => if b.toNat = 34 ∨ b.toNat < 32 then (.bad false, []) else if n = 0 ∧ b.toNat = 92 then (.back, []) else match stepS (some (n, lo, hi)) b with
    | none => (.bad true, [])
    | some (m, lo', hi') => (.text m lo' hi', [b])
  | .back, b => match shortOf b.toNat with
    | some c => (insT, [UInt8.ofNat c])
    | none => if b.toNat = 117 then (.hex 0 0, []) else (.bad (openS b.toNat).isNone, [])
  | .hex k v, b => match hexV b.toNat with
    | none => (.bad (openS b.toNat).isNone, [])
    | some d => if k < 3 then (.hex (k + 1) (v * 16 + d), []) else if 56320 ≤ v * 16 + d ∧ v * 16 + d ≤ 57343 then (.bad true, []) else if 55296 ≤ v * 16 + d ∧ v * 16 + d ≤ 56319 then (.high (v * 16 + d) 0 0, []) else (insT, encL (v * 16 + d))
  | .high h k w, b => if lowOk k b.toNat = true then (if k < 5 then (.high h (k + 1) (lowW k w b.toNat), []) else (insT, encL (pairN h (lowW k w b.toNat)))) else (.bad true, [])
def runI : Ins → List UInt8 → Ins × List UInt8
  | s, [] => (s, [])
  | s, b :: t => ((runI (stepI s b).1 t).1, (stepI s b).2 ++ (runI (stepI s b).1 t).2)
def wholeI : Ins → Bool
  | .text 0 _ _ => true
  | _ => false
/-- 0: none, 1: of form, 2: of UTF-8. -/
def badI : Ins → Option Bool
  | .bad u => some u
  | _ => none
theorem runI_nil (s : Ins) : runI s [] = (s, []) := rfl
theorem runI_cons (s : Ins) (b : UInt8) (t : List UInt8) : runI s (b :: t) = ((runI (stepI s b).1 t).1, (stepI s b).2 ++ (runI (stepI s b).1 t).2) := rfl
theorem runI_append (s : Ins) (a b : List UInt8) : runI s (a ++ b) = ((runI (runI s a).1 b).1, (runI s a).2 ++ (runI (runI s a).1 b).2) := by
  induction a generalizing s with
  | nil => simp [runI]
  | cons x t ih => simp only [List.cons_append, runI_cons, ih, List.append_assoc]
theorem runI_one (s : Ins) (b : UInt8) : runI s [b] = stepI s b := by simp [runI]
theorem runI_snoc (s : Ins) (l : List UInt8) (i : Nat) (h : i < l.length) : runI s (l.take (i + 1)) = ((stepI (runI s (l.take i)).1 l[i]).1, (runI s (l.take i)).2 ++ (stepI (runI s (l.take i)).1 l[i]).2) := by
  rw [List.take_add_one, List.getElem?_eq_getElem h, runI_append]
  simp only [Option.toList_some, runI_one]
theorem runI_bad (u : Bool) (l : List UInt8) : runI (.bad u) l = (.bad u, []) := by
  induction l with
  | nil => rfl
  | cons b t ih => rw [runI_cons]; simp only [stepI, ih, List.append_nil]
/-- A text state that lacks nothing is the first one. -/
def Goods : Ins → Prop
  | .text 0 lo hi => lo = 0 ∧ hi = 0
  | _ => True
theorem openS_zero (b n lo hi : Nat) (h : openS b = some (n, lo, hi)) (h0 : n = 0) : lo = 0 ∧ hi = 0 := by
  unfold openS at h
  repeat' split at h
  all_goals first | (simp only [Option.some.injEq, Prod.mk.injEq] at h; omega) | (cases h)
theorem goods_step (s : Ins) (b : UInt8) (hs : Goods s) : Goods (stepI s b).1 := by
  cases s with
  | bad u => trivial
  | back =>
    simp only [stepI]
    split
    · exact ⟨rfl, rfl⟩
    · split <;> trivial
  | hex k v =>
    simp only [stepI]
    repeat' split
    all_goals first | trivial | exact ⟨rfl, rfl⟩
  | high h k w =>
    simp only [stepI]
    repeat' split
    all_goals first | trivial | exact ⟨rfl, rfl⟩
  | text n lo hi =>
    simp only [stepI]
    split
    · trivial
    · split
      · trivial
      · cases h : stepS (some (n, lo, hi)) b with
        | none => trivial
        | some p =>
          obtain ⟨m, lo', hi'⟩ := p
          cases m with
          | succ m => trivial
          | zero =>
            show lo' = 0 ∧ hi' = 0
            cases n with
            | zero => exact openS_zero _ _ _ _ h rfl
            | succ n =>
              simp only [stepS] at h
              repeat' split at h
              all_goals first | (simp only [Option.some.injEq, Prod.mk.injEq] at h; omega) | (cases h)
theorem goods_run (s : Ins) (l : List UInt8) (hs : Goods s) : Goods (runI s l).1 := by
  induction l generalizing s with
  | nil => exact hs
  | cons b t ih => rw [runI_cons]; exact ih _ (goods_step s b hs)
theorem whole_is (l : List UInt8) (h : wholeI (runI insT l).1 = true) : (runI insT l).1 = insT := by
  have := goods_run insT l ⟨rfl, rfl⟩
  generalize (runI insT l).1 = s at *
  match s with
  | .text 0 lo hi => obtain ⟨rfl, rfl⟩ := this; rfl
  | .text (n + 1) _ _ => cases h
  | .back => cases h
  | .hex _ _ => cases h
  | .high _ _ _ => cases h
  | .bad _ => cases h
/-- The insides of two texts, one behind the other. -/
theorem runI_join (a b : List UInt8) (ha : wholeI (runI insT a).1 = true) : runI insT (a ++ b) = ((runI insT b).1, (runI insT a).2 ++ (runI insT b).2) := by
  rw [runI_append, whole_is a ha]
/-- What is written for a byte. -/
def hexD (n : Nat) : UInt8 := if n < 10 then UInt8.ofNat (48 + n) else UInt8.ofNat (87 + n)
def escB (b : UInt8) : List UInt8 :=
  if b.toNat = 34 ∨ b.toNat = 92 then [92, b] else if b.toNat = 8 then [92, 98] else if b.toNat = 12 then [92, 102] else if b.toNat = 10 then [92, 110] else if b.toNat = 13 then [92, 114] else if b.toNat = 9 then [92, 116]
  else if b.toNat < 32 then [92, 117, 48, 48, hexD (b.toNat / 16), hexD (b.toNat % 16)] else [b]
def escW (l : List UInt8) : List UInt8 := l.flatMap escB
theorem escW_append (a b : List UInt8) : escW (a ++ b) = escW a ++ escW b := by simp [escW]
theorem escW_cons (b : UInt8) (t : List UInt8) : escW (b :: t) = escB b ++ escW t := by simp [escW]
set_option maxRecDepth 100000 in
theorem esc_low : ∀ b : Fin 128, runI insT (escB (UInt8.ofNat b.val)) = (insT, [UInt8.ofNat b.val]) := by decide +kernel
theorem esc_high {b : UInt8} (h : 128 ≤ b.toNat) : escB b = [b] := by
  unfold escB
  rw [if_neg (by omega), if_neg (by omega), if_neg (by omega), if_neg (by omega), if_neg (by omega), if_neg (by omega), if_neg (by omega)]
theorem step_high {n lo hi : Nat} {b : UInt8} (h : 128 ≤ b.toNat) {m lo' hi' : Nat} (hs : stepS (some (n, lo, hi)) b = some (m, lo', hi')) : stepI (.text n lo hi) b = (.text m lo' hi', [b]) := by
  simp only [stepI]
  rw [if_neg (by omega), if_neg (by omega), hs]
/-- States of UTF-8 whose further bytes are none of ASCII. -/
def Conts : Option (Nat × Nat × Nat) → Prop
  | some (0, lo, hi) => lo = 0 ∧ hi = 0
  | some (_ + 1, lo, hi) => 128 ≤ lo ∧ hi ≤ 191
  | none => True
theorem conts_step (s : Option (Nat × Nat × Nat)) (b : UInt8) (h : Conts s) : Conts (stepS s b) := by
  match s with
  | none => exact h
  | some (0, lo, hi) =>
    show Conts (openS b.toNat)
    cases ho : openS b.toNat with
    | none => trivial
    | some p =>
      obtain ⟨n, lo', hi'⟩ := p
      cases n with
      | zero => exact openS_zero _ _ _ _ ho rfl
      | succ n =>
        by_cases hb : 128 ≤ b.toNat
        · have := openS_pos _ _ _ _ ho hb
          exact ⟨this.2.1, this.2.2.2⟩
        · simp [openS, show b.toNat < 128 by omega] at ho
  | some (n + 1, lo, hi) =>
    simp only [stepS]
    split
    · trivial
    · split
      · exact ⟨rfl, rfl⟩
      · cases n with
        | zero => contradiction
        | succ n => exact ⟨Nat.le_refl _, Nat.le_refl _⟩
/-- WHAT IS WRITTEN IS READ: of every bytes that may be the beginning of UTF-8. -/
theorem run_esc (l : List UInt8) (n lo hi : Nat) (hc : Conts (some (n, lo, hi))) (m lo' hi' : Nat) (h : runS (some (n, lo, hi)) l = some (m, lo', hi')) : runI (.text n lo hi) (escW l) = (.text m lo' hi', l) := by
  induction l generalizing n lo hi with
  | nil =>
    simp only [runS_nil, Option.some.injEq, Prod.mk.injEq] at h
    obtain ⟨rfl, rfl, rfl⟩ := h
    rfl
  | cons b t ih =>
    rw [runS_cons] at h
    have hcs := conts_step _ b hc
    cases hs : stepS (some (n, lo, hi)) b with
    | none => rw [hs, runS_none] at h; cases h
    | some p =>
      obtain ⟨q, qlo, qhi⟩ := p
      rw [hs] at h hcs
      have ht := ih q qlo qhi hcs h
      rw [escW_cons, runI_append]
      by_cases hb : 128 ≤ b.toNat
      · rw [esc_high hb, runI_one, step_high hb hs]
        simp only [ht, List.singleton_append]
      · have hl := esc_low ⟨b.toNat, by omega⟩
        simp only [UInt8.ofNat_toNat] at hl
        cases n with
        | zero =>
          obtain ⟨rfl, rfl⟩ := hc
          have : stepS (some (0, 0, 0)) b = some (0, 0, 0) := by simp [stepS, openS, show b.toNat < 128 by omega]
          rw [this] at hs
          simp only [Option.some.injEq, Prod.mk.injEq] at hs
          obtain ⟨rfl, rfl, rfl⟩ := hs
          have hl' : runI (.text 0 0 0) (escB b) = (.text 0 0 0, [b]) := hl
          rw [hl']
          simp only [ht, List.singleton_append]
        | succ n =>
          obtain ⟨h1, _⟩ := hc
          simp only [stepS] at hs
          rw [if_pos (by omega)] at hs
          cases hs
theorem read_write (l : List UInt8) (h : validD l = true) : runI insT (escW l) = (insT, l) := by
  rw [valid_run] at h
  cases hr : runS st0 l with
  | none => rw [hr] at h; cases h
  | some p =>
    obtain ⟨m, lo, hi⟩ := p
    have hx := run_esc l 0 0 0 ⟨rfl, rfl⟩ m lo hi hr
    have hg : Goods (runI insT (escW l)).1 := goods_run insT _ ⟨rfl, rfl⟩
    rw [hr] at h
    cases m with
    | succ m => cases h
    | zero =>
      have hx' : runI insT (escW l) = (.text 0 lo hi, l) := hx
      rw [hx'] at hg ⊢
      obtain ⟨rfl, rfl⟩ := hg
      rfl
/-- Four digits, of whichever case. -/
def hexU (n : Nat) : UInt8 := if n < 10 then UInt8.ofNat (48 + n) else UInt8.ofNat (55 + n)
theorem hexD_v : ∀ n : Fin 16, hexV (hexD n.val).toNat = some n.val := by decide +kernel
theorem hexU_v : ∀ n : Fin 16, hexV (hexU n.val).toNat = some n.val := by decide +kernel
def uL (f : Nat → UInt8) (v : Nat) : List UInt8 := [92, 117, f (v / 4096 % 16), f (v / 256 % 16), f (v / 16 % 16), f (v % 16)]
theorem hex_sum (v : Nat) (h : v < 65536) : ((v / 4096 % 16 * 16 + v / 256 % 16) * 16 + v / 16 % 16) * 16 + v % 16 = v := by omega
theorem run_u (f : Nat → UInt8) (hf : ∀ n, n < 16 → hexV (f n).toNat = some n) (v : Nat) (h : v < 65536) :
    runI insT (uL f v) = if 56320 ≤ v ∧ v ≤ 57343 then (.bad true, []) else if 55296 ≤ v ∧ v ≤ 56319 then (.high v 0 0, []) else (insT, encL v) := by
  have d1 := hf (v / 4096 % 16) (by omega)
  have d2 := hf (v / 256 % 16) (by omega)
  have d3 := hf (v / 16 % 16) (by omega)
  have d4 := hf (v % 16) (by omega)
  have e1 : stepI insT 92 = (.back, []) := by decide
  have e2 : stepI .back 117 = (.hex 0 0, []) := by decide
  have hsum := hex_sum v h
  have e3 : stepI (.hex 0 0) (f (v / 4096 % 16)) = (.hex 1 (v / 4096 % 16), []) := by simp [stepI, d1]
  have e4 : stepI (.hex 1 (v / 4096 % 16)) (f (v / 256 % 16)) = (.hex 2 (v / 4096 % 16 * 16 + v / 256 % 16), []) := by simp [stepI, d2]
  have e5 : stepI (.hex 2 (v / 4096 % 16 * 16 + v / 256 % 16)) (f (v / 16 % 16)) = (.hex 3 ((v / 4096 % 16 * 16 + v / 256 % 16) * 16 + v / 16 % 16), []) := by simp [stepI, d3]
  have e6 : stepI (.hex 3 ((v / 4096 % 16 * 16 + v / 256 % 16) * 16 + v / 16 % 16)) (f (v % 16)) = if 56320 ≤ v ∧ v ≤ 57343 then (.bad true, []) else if 55296 ≤ v ∧ v ≤ 56319 then (.high v 0 0, []) else (insT, encL v) := by
    simp only [stepI, d4, hsum]
    rw [if_neg (by omega)]
  unfold uL
  rw [runI_cons, e1, runI_cons, e2, runI_cons, e3, runI_cons, e4, runI_cons, e5, runI_one, e6]
  simp
theorem lowOk3 {b d : Nat} (h : hexV b = some d) : lowOk 3 b = decide (12 ≤ d) := by simp [lowOk, h]
theorem step_lt {h k w : Nat} {b : UInt8} (hl : lowOk k b.toNat = true) (hk : k < 5) {w' : Nat} (hw : lowW k w b.toNat = w') : stepI (.high h k w) b = (.high h (k + 1) w', []) := by
  subst hw
  simp only [stepI]
  rw [if_pos hl, if_pos hk]
theorem step_end {h w : Nat} {b : UInt8} (hl : lowOk 5 b.toNat = true) {w' : Nat} (hw : lowW 5 w b.toNat = w') : stepI (.high h 5 w) b = (insT, encL (pairN h w')) := by
  subst hw
  simp only [stepI]
  rw [if_pos hl, if_neg (Nat.lt_irrefl 5)]
theorem lowW_d {k w b d : Nat} (hk : 2 ≤ k) (h : hexV b = some d) : lowW k w b = w * 16 + d := by
  unfold lowW
  rw [if_neg (by omega), h]
  rfl
theorem lowOk_d {k b d : Nat} (h : hexV b = some d) : lowOk (k + 4) b = true := by simp [lowOk, h]
theorem run_six {s0 s1 s2 s3 s4 s5 : Ins} {r : Ins × List UInt8} {a b c d e f : UInt8} (h1 : stepI s0 a = (s1, [])) (h2 : stepI s1 b = (s2, [])) (h3 : stepI s2 c = (s3, [])) (h4 : stepI s3 d = (s4, [])) (h5 : stepI s4 e = (s5, [])) (h6 : stepI s5 f = r) : runI s0 [a, b, c, d, e, f] = r := by
  simp only [runI_cons, h1, h2, h3, h4, h5, h6, runI_nil, List.nil_append, List.append_nil]
theorem low_nibs (v : Nat) (hv : 56320 ≤ v ∧ v ≤ 57343) : v / 4096 % 16 = 13 ∧ 12 ≤ v / 256 % 16 := by omega
theorem low_big (v : Nat) (hv : 56320 ≤ v ∧ v ≤ 57343) : v < 65536 := by omega
theorem run_low (f : Nat → UInt8) (hf : ∀ n, n < 16 → hexV (f n).toNat = some n) (hd : (f 13).toNat = 100 ∨ (f 13).toNat = 68) (h v : Nat) (hv : 56320 ≤ v ∧ v ≤ 57343) :
    runI (.high h 0 0) (uL f v) = (insT, encL (pairN h v)) := by
  have d1 := hf (v / 4096 % 16) (Nat.mod_lt _ (by decide))
  have d2 := hf (v / 256 % 16) (Nat.mod_lt _ (by decide))
  have d3 := hf (v / 16 % 16) (Nat.mod_lt _ (by decide))
  have d4 := hf (v % 16) (Nat.mod_lt _ (by decide))
  obtain ⟨h13, h12⟩ := low_nibs v hv
  have hsum := hex_sum v (low_big v hv)
  unfold uL
  have o3 : lowOk 2 (f (v / 4096 % 16)).toNat = true := by rw [h13]; simp only [lowOk]; rcases hd with e | e <;> rw [e] <;> decide
  have o4 : lowOk 3 (f (v / 256 % 16)).toNat = true := by rw [lowOk3 d2]; exact decide_eq_true h12
  generalize v / 4096 % 16 = a at *
  generalize v / 256 % 16 = b at *
  generalize v / 16 % 16 = c at *
  generalize v % 16 = d at *
  clear hv h12 h13 hf hd
  have e1 : stepI (.high h 0 0) 92 = (.high h 1 0, []) := step_lt (by decide) (by decide) (by decide)
  have e2 : stepI (.high h 1 0) 117 = (.high h 2 0, []) := step_lt (by decide) (by decide) (by decide)
  have e3 : stepI (.high h 2 0) (f a) = (.high h 3 a, []) := step_lt o3 (by decide) (by rw [lowW_d (by decide) d1]; omega)
  have e4 : stepI (.high h 3 a) (f b) = (.high h 4 (a * 16 + b), []) := step_lt o4 (by decide) (lowW_d (by decide) d2)
  have e5 : stepI (.high h 4 (a * 16 + b)) (f c) = (.high h 5 ((a * 16 + b) * 16 + c), []) := step_lt (lowOk_d (k := 0) d3) (by decide) (lowW_d (by decide) d3)
  have e6 : stepI (.high h 5 ((a * 16 + b) * 16 + c)) (f d) = (insT, encL (pairN h v)) := step_end (lowOk_d (k := 1) d4) ((lowW_d (by decide) d4).trans hsum)
  exact run_six e1 e2 e3 e4 e5 e6
/-- A surrogate, and a letter behind it. -/
theorem run_sur (f : Nat → UInt8) (hf : ∀ n, n < 16 → hexV (f n).toNat = some n) (v : Nat) (h : 55296 ≤ v ∧ v ≤ 57343) : runI insT (uL f v ++ [120]) = (.bad true, []) := by
  rw [runI_append, run_u f hf v (by omega)]
  by_cases h1 : 56320 ≤ v
  · rw [if_pos (by omega)]; rfl
  · rw [if_neg (by omega), if_pos (by omega)]; rfl
theorem pair_is (r a b : Nat) (ha : a = 55296 + (r - 65536) / 1024) (hb : b = 56320 + (r - 65536) % 1024) (h0 : 65536 ≤ r) : pairN a b = r := by
  unfold pairN
  omega
theorem run_pair (f : Nat → UInt8) (hf : ∀ n, n < 16 → hexV (f n).toNat = some n) (hd : (f 13).toNat = 100 ∨ (f 13).toNat = 68) (r a b : Nat) (ha : 55296 ≤ a ∧ a ≤ 56319) (hb : 56320 ≤ b ∧ b ≤ 57343) (hp : pairN a b = r) :
    runI insT (uL f a ++ uL f b) = (insT, encL r) := by
  rw [runI_append, run_u f hf a (by omega), if_neg (by omega), if_pos ha]
  simp only [List.nil_append]
  rw [run_low f hf hd a b hb, hp]
/-- The signs: how long, and what is behind a backslash. -/
theorem esc_len : ∀ b : Fin 128, (escB (UInt8.ofNat b.val)).length = if b.val = 34 ∨ b.val = 92 ∨ 8 ≤ b.val ∧ b.val ≤ 10 ∨ b.val = 12 ∨ b.val = 13 then 2 else if b.val < 32 then 6 else 1 := by decide +kernel
theorem run_back (c : UInt8) : runI insT [92, c] = stepI .back c := by rw [runI_cons, show stepI insT 92 = (.back, []) by decide]; simp [runI_one]
/-- No byte below 32, and no quote but behind a backslash. -/
theorem escB_inside (b x : UInt8) (h : x ∈ escB b) : 32 ≤ x.toNat := by
  have hD : ∀ n : Fin 16, 32 ≤ (hexD n.val).toNat := by decide +kernel
  have hb := b.toNat_lt
  have q1 := hD ⟨b.toNat / 16 % 16, by omega⟩
  have q2 := hD ⟨b.toNat % 16, by omega⟩
  unfold escB at h
  by_cases c1 : b.toNat = 34 ∨ b.toNat = 92
  · rw [if_pos c1] at h
    simp only [List.mem_cons, List.not_mem_nil, or_false] at h
    rcases h with rfl | rfl
    · decide
    · omega
  · rw [if_neg c1] at h
    by_cases c2 : b.toNat < 32
    · rw [if_pos c2] at h
      have e : b.toNat / 16 % 16 = b.toNat / 16 := by omega
      simp only [e] at q1
      revert h
      repeat' split
      all_goals intro h
      all_goals simp only [List.mem_cons, List.not_mem_nil, or_false] at h
      all_goals first | (rcases h with rfl | rfl <;> decide) | (rcases h with rfl | rfl | rfl | rfl | rfl | rfl <;> first | assumption | decide)
    · rw [if_neg (by omega), if_neg (by omega), if_neg (by omega), if_neg (by omega), if_neg (by omega), if_neg c2] at h
      simp only [List.mem_cons, List.not_mem_nil, or_false] at h
      subst h
      omega
theorem escW_inside (l : List UInt8) (x : UInt8) (h : x ∈ escW l) : 32 ≤ x.toNat := by
  unfold escW at h
  obtain ⟨b, _, hb⟩ := List.mem_flatMap.1 h
  exact escB_inside b x hb
theorem escB_len (b : UInt8) : (escB b).length ≤ 6 := by
  unfold escB
  repeat' split
  all_goals simp
theorem escW_len (l : List UInt8) : (escW l).length ≤ 6 * l.length := by
  induction l with
  | nil => simp [escW]
  | cons b t ih =>
    rw [escW_cons, List.length_append, List.length_cons]
    have := escB_len b
    omega
end Go.Proofs.Ytkfidnfnehnhoaa
