/-
  NO PROGRAM NEEDED: CBOR read as a machine, and what chapter 13 asks of it.
-/
import Derived.Test.YtgknpheefbfnlaaGa
/-
  NO PROGRAM NEEDED: CBOR read as parts, as a machine over bytes (on the machines of HeadPure and UtfPure); parts written as CBOR; what is written so is read as it was; what is read is one document, or the beginning of one.
-/
namespace Go.Proofs.Ytgknpheefbfnlaa
open Go.Lib
/-- A reader of CBOR: behind an error; between items (the open containers; at the end); within an item's head; within a text, or bytes, of a known length; between the chunks of an open one; within a chunk's head; within a chunk. -/
inductive Ci
  | bad (e : Nat)
  | item (s : List Bx) (dn : Bool)
  | head (s : List Bx) (h : Hd)
  | text (s : List Bx) (m : Bool) (n : Nat) (t : List UInt8) (u : Option (Nat × Nat × Nat))
  | open_ (s : List Bx) (m : Bool) (t : List UInt8)
  | chead (s : List Bx) (m : Bool) (t : List UInt8) (h : Hd)
  | ctext (s : List Bx) (m : Bool) (t : List UInt8) (n : Nat) (u : Option (Nat × Nat × Nat))
/-- All that was to come is there. -/
def fullB (b : Bx) : Bool := decide (0 ≤ b.c ∧ (b.have_ : Int) = if b.map = true then 2 * b.c else b.c)
def restC : List Bx → List Bx
  | [] => []
  | b :: r => if fullB b = true then restC r else b :: r
def numC : List Bx → Nat
  | [] => 0
  | b :: r => if fullB b = true then numC r + 1 else 0
def endsC (s : List Bx) : List Ev := List.replicate (numC s) evEnd
def atC (s : List Bx) : Ci := .item (restC s) (restC s).isEmpty
/-- An item that is no container. -/
def putC (s : List Bx) (e : Ev) : Ci × List Ev := (atC (incB s), e :: endsC (incB s))
def evBegC (m : Bool) (c : Int) : Ev := ⟨if m = true then 6 else 5, false, 0, ⟨#[]⟩, c⟩
def beginC (s : List Bx) (m : Bool) (c : Int) : Ci × List Ev := (atC (⟨m, c, 0⟩ :: incB s), evBegC m c :: endsC (⟨m, c, 0⟩ :: incB s))
def evTxC (m : Bool) (t : List UInt8) : Ev := ⟨if m = true then 3 else 4, false, 0, ⟨t.toArray⟩, 0⟩
def evIntC (m : Bool) (v : Nat) : Ev := ⟨2, m, v, ⟨#[]⟩, 0⟩
def evBoolC (y : Bool) : Ev := ⟨1, y, 0, ⟨#[]⟩, 0⟩
/-- Behind a byte of an item's head. -/
def headC (s : List Bx) : Hd → Ci × List Ev
  | .bad e => (.bad e, [])
  | .fin m v o =>
    if m < 2 then putC s (evIntC (decide (m = 1)) v)
    else if m < 4 then (if o = true then (.open_ s (decide (m = 3)) [], []) else if 200 < v then (.bad 5, []) else if v = 0 then putC s (evTxC (decide (m = 3)) []) else (.text s (decide (m = 3)) v [] st0, []))
    else if o = true then beginC s (decide (m = 5)) (-1) else if 1000000 < v then (.bad 7, []) else beginC s (decide (m = 5)) v
  | h => (.head s h, [])
/-- An item's first byte. -/
def firstC (D : Nat) (s : List Bx) (dn : Bool) (b : Nat) : Ci × List Ev :=
  if dn = true ∨ (28 ≤ b % 32 ∧ b % 32 ≤ 30) ∨ (b % 32 = 31 ∧ (b / 32 = 0 ∨ b / 32 = 1 ∨ b / 32 = 6)) then (.bad 2, [])
  else if b = 255 then
    match s with
    | [] => (.bad 2, [])
    | x :: r => if 0 ≤ x.c ∨ (x.map = true ∧ x.have_ % 2 = 1) then (.bad 2, []) else (atC r, evEnd :: endsC r)
  else if keyB s = true ∧ b / 32 ≠ 3 then (.bad 8, [])
  else if b / 32 = 6 then (.bad 8, [])
  else if b / 32 = 7 then (if b % 32 = 22 then putC s evNull else if b % 32 = 20 ∨ b % 32 = 21 then putC s (evBoolC (decide (b % 32 = 21))) else if 25 ≤ b % 32 ∧ b % 32 ≤ 27 then (.bad 6, []) else (.bad 8, []))
  else if (b / 32 = 4 ∨ b / 32 = 5) ∧ D ≤ s.length then (.bad 4, [])
  else headC s (stepH .new b)
/-- Behind a byte of a chunk's head. -/
def chunkC (s : List Bx) (m : Bool) (t : List UInt8) : Hd → Ci × List Ev
  | .bad e => (.bad e, [])
  | .fin _ v _ => if 200 < v + t.length then (.bad 5, []) else if v = 0 then (.open_ s m t, []) else (.ctext s m t v st0, [])
  | h => (.chead s m t h, [])
/-- A byte of a text, or of bytes: none, if it may not follow. -/
def nextU (m : Bool) (u : Option (Nat × Nat × Nat)) (b : UInt8) : Option (Nat × Nat × Nat) := if m = true then stepS u b else u
def stepCi (D : Nat) : Ci → UInt8 → Ci × List Ev
  | .bad e, _ => (.bad e, [])
  | .item s dn, b => firstC D s dn b.toNat
  | .head s h, b => headC s (stepH h b.toNat)
  | .text s m n t u, b =>
    if m = true ∧ nextU m u b = none then (.bad 9, [])
    else if n = 1 then (if m = true ∧ wholeS (nextU m u b) = false then (.bad 9, []) else putC s (evTxC m (t ++ [b]))) else (.text s m (n - 1) (t ++ [b]) (nextU m u b), [])
  | .open_ s m t, b => if b.toNat = 255 then putC s (evTxC m t) else if b.toNat / 32 ≠ (if m = true then 3 else 2) ∨ 28 ≤ b.toNat % 32 then (.bad 2, []) else chunkC s m t (stepH .new b.toNat)
  | .chead s m t h, b => chunkC s m t (stepH h b.toNat)
  | .ctext s m t n u, b =>
    if m = true ∧ nextU m u b = none then (.bad 9, [])
    else if n = 1 then (if m = true ∧ wholeS (nextU m u b) = false then (.bad 9, []) else (.open_ s m (t ++ [b]), [])) else (.ctext s m (t ++ [b]) (n - 1) (nextU m u b), [])
def runCi (D : Nat) : Ci → List UInt8 → Ci × List Ev
  | s, [] => (s, [])
  | s, b :: t => ((runCi D (stepCi D s b).1 t).1, (stepCi D s b).2 ++ (runCi D (stepCi D s b).1 t).2)
/-- At the end of all. -/
def endCi : Ci → Nat
  | .bad e => e
  | .item _ true => 0
  | _ => 3
def ci0 : Ci := .item [] false
def allCi (D : Nat) (b : List UInt8) : List Ev × Nat := ((runCi D ci0 b).2, endCi (runCi D ci0 b).1)
/-- What is held. -/
def heldCi : Ci → Nat
  | .bad _ => 0
  | .item s _ => s.length
  | .head s _ => s.length
  | .text s _ _ t _ => t.length + s.length
  | .open_ s _ t => t.length + s.length
  | .chead s _ t _ => t.length + s.length
  | .ctext s _ t _ _ => t.length + s.length
theorem runCi_append (D : Nat) (s : Ci) (a b : List UInt8) : runCi D s (a ++ b) = ((runCi D (runCi D s a).1 b).1, (runCi D s a).2 ++ (runCi D (runCi D s a).1 b).2) := by
  induction a generalizing s with
  | nil => simp [runCi]
  | cons x t ih => simp only [List.cons_append, runCi, ih, List.append_assoc]
theorem runCi_bad (D e : Nat) (l : List UInt8) : runCi D (.bad e) l = (.bad e, []) := by
  induction l with
  | nil => rfl
  | cons b t ih => simp only [runCi, stepCi, ih, List.append_nil]
theorem runCi_snoc (D : Nat) (s : Ci) (l : List UInt8) (i : Nat) (h : i < l.length) : runCi D s (l.take (i + 1)) = ((stepCi D (runCi D s (l.take i)).1 l[i]).1, (runCi D s (l.take i)).2 ++ (stepCi D (runCi D s (l.take i)).1 l[i]).2) := by
  rw [List.take_add_one, List.getElem?_eq_getElem h, runCi_append]
  simp [runCi]
/-! ### Containers that are at their end -/
theorem full_shut {b : Bx} (h : fullB b = true) : ¬ shutB b := by
  unfold fullB at h
  rw [decide_eq_true_eq] at h
  rintro (⟨_, h2⟩ | ⟨h1, h2⟩)
  · exact h2 h.2
  · have := h.2
    rw [if_pos h1] at this
    omega
theorem shut_full {b : Bx} (h : ¬ shutB b) (hc : 0 ≤ b.c) : fullB b = true := by
  unfold fullB
  rw [decide_eq_true_eq]
  refine ⟨hc, ?_⟩
  by_cases h2 : (b.have_ : Int) = if b.map = true then 2 * b.c else b.c
  · exact h2
  · exact absurd (.inl ⟨hc, h2⟩) h
/-- Behind an item. -/
def ckS (s : List Bx) : Ck := if s = [] then .done else .live s
theorem end_step {b : Bx} {r : List Bx} (h : ¬ shutB b) : stepC (.live (b :: r)) evEnd = ckS r := by
  have hm : mayE evEnd := by decide
  simp only [stepC]
  rw [if_neg (by simpa using hm), if_pos (by rfl), if_neg h]
  rfl
theorem ends_run : ∀ s : List Bx, runC (ckS s) (endsC s) = ckS (restC s)
  | [] => rfl
  | b :: r => by
    unfold endsC
    simp only [numC, restC]
    by_cases h : fullB b = true
    · rw [if_pos h, if_pos h, List.replicate_succ, runC_cons]
      have : ckS (b :: r) = .live (b :: r) := if_neg (by simp)
      rw [this, end_step (full_shut h)]
      exact ends_run r
    · rw [if_neg h, if_neg h]
      rfl
theorem rest_stop : ∀ s : List Bx, (∀ b r, restC s = b :: r → fullB b = false) ∧ restC (restC s) = restC s
  | [] => ⟨(fun b r h => by cases h), rfl⟩
  | b :: r => by
    simp only [restC]
    by_cases h : fullB b = true
    · rw [if_pos h]
      exact rest_stop r
    · rw [if_neg h]
      refine ⟨fun x q hx => ?_, (by simp only [restC]; rw [if_neg h])⟩
      simp only [List.cons.injEq] at hx
      rw [← hx.1]
      simpa using h
theorem rest_len : ∀ s : List Bx, (restC s).length ≤ s.length
  | [] => Nat.le_refl _
  | b :: r => by
    simp only [restC]
    split
    · have := rest_len r; simp only [List.length_cons]; omega
    · exact Nat.le_refl _
/-! ### What is read is one document, or the beginning of one -/
/-- Of the parts so far, by where the reader stands. -/
def InvC (c : Ck) : Ci → Prop
  | .bad e => ((∃ s, c = .live s) ∨ c = .done) ∧ e ≠ 0
  | .item s dn => if dn = true then c = .done ∧ s = [] else c = .live s
  | .head s h => c = .live s ∧ (keyB s = true → majH h = 3) ∧ (4 ≤ majH h → s.length < 16) ∧ majH h < 6 ∧ ∃ m n v, h = .mid m n v
  | .text s m _ _ _ => c = .live s ∧ (keyB s = true → m = true)
  | .open_ s m _ => c = .live s ∧ (keyB s = true → m = true)
  | .chead s m _ _ => c = .live s ∧ (keyB s = true → m = true)
  | .ctext s m _ _ _ => c = .live s ∧ (keyB s = true → m = true)
def GoesC (c : Ck) (r : Ci × List Ev) : Prop := InvC (runC c r.2) r.1
theorem inv_at (s : List Bx) : InvC (ckS (restC s)) (atC s) := by
  unfold atC ckS
  cases h : restC s with
  | nil => exact ⟨by simp, rfl⟩
  | cons b r => rw [if_neg (by simp)]; simp [InvC]
theorem goes_put {s : List Bx} {e : Ev} (hk : keyB s = true → e.k = 3) (he : e.k = 0 ∨ e.k = 1 ∨ e.k = 2 ∨ e.k = 3 ∨ e.k = 4) : GoesC (.live s) (putC s e) := by
  have hs : stepC (.live s) e = ckS (incB s) := by
    have hm : mayE e := ⟨by omega, by omega, fun h => by omega⟩
    simp only [stepC]
    rw [if_neg (by simpa using hm), if_neg (by omega), if_neg (fun h => h.2 (hk h.1)), if_neg (by omega)]
    unfold ckS
    cases s <;> rfl
  unfold GoesC putC
  simp only
  rw [runC_cons, hs, ends_run]
  exact inv_at _
theorem goes_begin_c {s : List Bx} {m : Bool} {c : Int} (hk : keyB s = false) (hc : -1 ≤ c) (hd : s.length < 16) : GoesC (.live s) (beginC s m c) := by
  have hs : stepC (.live s) (evBegC m c) = ckS (⟨m, c, 0⟩ :: incB s) := by
    have hm : mayE (evBegC m c) := by cases m <;> exact ⟨by simp [evBegC], by simp [evBegC], fun _ => hc⟩
    have hk5 : (evBegC m c).k = 5 ∨ (evBegC m c).k = 6 := by cases m <;> simp [evBegC]
    simp only [stepC]
    rw [if_neg (by simpa using hm), if_neg (by omega), if_neg (by simp [hk]), if_pos hk5, if_neg (by omega)]
    unfold ckS
    rw [if_neg (by simp)]
    cases m <;> rfl
  unfold GoesC beginC
  simp only
  rw [runC_cons, hs, ends_run]
  exact inv_at _
theorem goes_bad {s : List Bx} (e : Nat) (he : e ≠ 0) : GoesC (.live s) (.bad e, []) := ⟨.inl ⟨s, rfl⟩, he⟩
theorem goes_head {s : List Bx} {h : Hd} (hk : keyB s = true → majH h = 3) (hd : 4 ≤ majH h → s.length < 16) (hm : majH h < 6) (hn : h ≠ .new) (he : ∀ e, h = .bad e → e ≠ 0) : GoesC (.live s) (headC s h) := by
  cases h with
  | bad e => exact goes_bad e (he e rfl)
  | new => exact absurd rfl hn
  | mid m n v => exact ⟨rfl, hk, hd, hm, m, n, v, rfl⟩
  | fin m v o =>
    simp only [majH] at hk hd hm
    simp only [headC]
    split
    · exact goes_put (fun h => by have := hk h; omega) (.inr (.inr (.inl rfl)))
    split
    · have hk3 : keyB s = true → decide (m = 3) = true := fun h => by simpa using hk h
      split
      · exact ⟨rfl, hk3⟩
      split
      · exact goes_bad 5 (by decide)
      split
      · refine goes_put (fun h => by simp [evTxC, hk h]) ?_
        by_cases h3 : m = 3 <;> simp [evTxC, h3]
      · exact ⟨rfl, hk3⟩
    · have hkf : keyB s = false := by
        cases hq : keyB s with
        | false => rfl
        | true => have := hk hq; omega
      split
      · exact goes_begin_c hkf (by omega) (hd (by omega))
      split
      · exact goes_bad 7 (by decide)
      · exact goes_begin_c hkf (by omega) (hd (by omega))
theorem stepH_err {h : Hd} {b e : Nat} (hh : ∀ f, h = .bad f → f ≠ 0) (he : stepH h b = .bad e) : e ≠ 0 := by
  cases h with
  | bad f => simp only [stepH, Hd.bad.injEq] at he; subst he; exact hh _ rfl
  | fin m v o => simp only [stepH, Hd.bad.injEq] at he; omega
  | new =>
    simp only [stepH] at he
    repeat' split at he
    all_goals first | (simp only [Hd.bad.injEq] at he; omega) | cases he
  | mid m n v =>
    simp only [stepH] at he
    split at he <;> cases he
theorem stepH_new {h : Hd} {b : Nat} (hn : h = .new ∨ ∃ m n v, h = .mid m n v) : stepH h b ≠ .new := by
  rcases hn with rfl | ⟨m, n, v, rfl⟩
  · simp only [stepH]
    repeat' split
    all_goals simp
  · simp only [stepH]
    split <;> simp
theorem maj_new {b : Nat} (h : ¬ (28 ≤ b % 32 ∧ b % 32 ≤ 30)) : majH (stepH .new b) = b / 32 := by
  simp only [stepH]
  repeat' split
  all_goals first | rfl | omega
theorem goes_first (D : Nat) (hD : D ≤ 16) {s : List Bx} (b : Nat) (hb : b < 256) : GoesC (.live s) (firstC D s false b) := by
  unfold firstC
  split
  · exact goes_bad 2 (by decide)
  rename_i hform
  split
  · cases s with
    | nil => exact goes_bad 2 (by decide)
    | cons x r =>
      simp only
      split
      · exact goes_bad 2 (by decide)
      · rename_i hx
        have hns : ¬ shutB x := by
          rintro (⟨h1, _⟩ | ⟨h1, h2⟩)
          · exact hx (.inl h1)
          · exact hx (.inr ⟨h1, h2⟩)
        unfold GoesC
        simp only
        rw [runC_cons, end_step hns, ends_run]
        exact inv_at _
  split
  · exact goes_bad 8 (by decide)
  rename_i hkey
  split
  · exact goes_bad 8 (by decide)
  split
  · rename_i h7
    have hkf : keyB s = true → False := fun h => hkey ⟨h, by omega⟩
    split
    · exact goes_put (fun h => (hkf h).elim) (.inl rfl)
    split
    · exact goes_put (fun h => (hkf h).elim) (.inr (.inl rfl))
    split
    · exact goes_bad 6 (by decide)
    · exact goes_bad 8 (by decide)
  split
  · exact goes_bad 4 (by decide)
  · rename_i h6 h7 hd
    have hmj := maj_new (b := b) (fun h => hform (.inr (.inl h)))
    refine goes_head ?_ ?_ ?_ (stepH_new (.inl rfl)) (fun e he => stepH_err (fun f hf => by cases hf) he)
    · intro hk
      rw [hmj]
      by_cases h3 : b / 32 = 3
      · exact h3
      · exact absurd ⟨hk, h3⟩ hkey
    · intro h4
      rw [hmj] at h4
      by_cases hdd : D ≤ s.length
      · exact absurd ⟨by omega, hdd⟩ hd
      · omega
    · rw [hmj]
      omega
theorem goes_chunk {s : List Bx} {m : Bool} {t : List UInt8} {h : Hd} (hk : keyB s = true → m = true) (he : ∀ e, h = .bad e → e ≠ 0) : GoesC (.live s) (chunkC s m t h) := by
  cases h with
  | bad e => exact goes_bad e (he e rfl)
  | new => exact ⟨rfl, hk⟩
  | mid _ _ _ => exact ⟨rfl, hk⟩
  | fin a v o =>
    simp only [chunkC]
    split
    · exact goes_bad 5 (by decide)
    split
    · exact ⟨rfl, hk⟩
    · exact ⟨rfl, hk⟩
/-- No head stands new, and none is behind an error, where one is read. -/
def MidC : Ci → Prop
  | .chead _ _ _ h => ∃ m n v, h = .mid m n v
  | _ => True
theorem mid_at (s : List Bx) : MidC (atC s) := trivial
theorem mid_head (s : List Bx) (h : Hd) : MidC (headC s h).1 := by
  unfold headC
  repeat' split
  all_goals trivial
theorem mid_first (D : Nat) (s : List Bx) (dn : Bool) (b : Nat) : MidC (firstC D s dn b).1 := by
  unfold firstC
  repeat' split
  all_goals first | trivial | exact mid_head _ _
theorem mid_chunk (s : List Bx) (m : Bool) (t : List UInt8) (h : Hd) (hn : h ≠ .new) : MidC (chunkC s m t h).1 := by
  cases h with
  | new => exact absurd rfl hn
  | bad e => trivial
  | mid a n v => exact ⟨a, n, v, rfl⟩
  | fin a v o =>
    simp only [chunkC]
    repeat' split
    all_goals trivial
theorem mid_step (D : Nat) (s : Ci) (b : UInt8) (h : MidC s) : MidC (stepCi D s b).1 := by
  cases s with
  | bad e => trivial
  | item s dn => exact mid_first D s dn b.toNat
  | head s h => exact mid_head s _
  | text s m n t u =>
    simp only [stepCi]
    repeat' split
    all_goals trivial
  | open_ s m t =>
    by_cases hf : b.toNat = 255
    · simp only [stepCi]
      rw [if_pos hf]
      trivial
    · by_cases hc : b.toNat / 32 ≠ (if m = true then 3 else 2) ∨ 28 ≤ b.toNat % 32
      · simp only [stepCi]
        rw [if_neg hf, if_pos hc]
        trivial
      · simp only [stepCi]
        rw [if_neg hf, if_neg hc]
        exact mid_chunk s m t _ (stepH_new (.inl rfl))
  | chead s m t h' => exact mid_chunk s m t _ (stepH_new (.inr h))
  | ctext s m t n u =>
    simp only [stepCi]
    repeat' split
    all_goals trivial
theorem goes_step (D : Nat) (hD : D ≤ 16) (c : Ck) (s : Ci) (b : UInt8) (h : InvC c s) (hm : MidC s) : GoesC c (stepCi D s b) := by
  have hb := b.toNat_lt
  cases s with
  | bad e => exact h
  | item s dn =>
    cases dn with
    | true =>
      obtain ⟨hc, hs⟩ : c = .done ∧ s = [] := by simpa [InvC] using h
      have : stepCi D (.item s true) b = (.bad 2, []) := by
        simp only [stepCi, firstC]
        simp
      rw [this, hc]
      exact ⟨.inr rfl, by decide⟩
    | false =>
      obtain rfl : c = .live s := by simpa [InvC] using h
      exact goes_first D hD b.toNat hb
  | head s hh =>
    obtain ⟨rfl, h1, h2, h3, m, n, v, rfl⟩ := h
    have hmj : majH (stepH (.mid m n v) b.toNat) = m := by
      simp only [stepH]
      split <;> rfl
    exact goes_head (by rw [hmj]; exact h1) (by rw [hmj]; exact h2) (by rw [hmj]; exact h3) (stepH_new (.inr ⟨m, n, v, rfl⟩)) (fun e he => stepH_err (fun f hf => by cases hf) he)
  | text s m n t u =>
    obtain ⟨rfl, hk⟩ := h
    simp only [stepCi]
    split
    · exact goes_bad 9 (by decide)
    split
    · split
      · exact goes_bad 9 (by decide)
      · refine goes_put (fun h => by simp [evTxC, hk h]) ?_
        cases m <;> simp [evTxC]
    · exact ⟨rfl, hk⟩
  | open_ s m t =>
    obtain ⟨rfl, hk⟩ := h
    by_cases hf : b.toNat = 255
    · simp only [stepCi]
      rw [if_pos hf]
      refine goes_put (fun h => by simp [evTxC, hk h]) ?_
      cases m <;> simp [evTxC]
    · by_cases hc : b.toNat / 32 ≠ (if m = true then 3 else 2) ∨ 28 ≤ b.toNat % 32
      · simp only [stepCi]
        rw [if_neg hf, if_pos hc]
        exact goes_bad 2 (by decide)
      · simp only [stepCi]
        rw [if_neg hf, if_neg hc]
        exact goes_chunk hk (fun e he => stepH_err (fun f hf => by cases hf) he)
  | chead s m t hh =>
    obtain ⟨rfl, hk⟩ := h
    obtain ⟨a, n, v, rfl⟩ := hm
    exact goes_chunk hk (fun e he => stepH_err (fun f hf => by cases hf) he)
  | ctext s m t n u =>
    obtain ⟨rfl, hk⟩ := h
    simp only [stepCi]
    split
    · exact goes_bad 9 (by decide)
    split
    · split
      · exact goes_bad 9 (by decide)
      · exact ⟨rfl, hk⟩
    · exact ⟨rfl, hk⟩
theorem goes_all (D : Nat) (hD : D ≤ 16) : ∀ (l : List UInt8) (c : Ck) (s : Ci), InvC c s → MidC s → InvC (runC c (runCi D s l).2) (runCi D s l).1
  | [], c, s, h, _ => h
  | b :: l, c, s, h, hm => by
    have h1 := goes_step D hD c s b h hm
    have h2 := goes_all D hD l _ _ h1 (mid_step D s b hm)
    simp only [runCi, runC_append]
    exact h2
theorem inv_part {c : Ck} {s : Ci} (h : InvC c s) : (∃ s, c = .live s) ∨ c = .done := by
  cases s with
  | bad e => exact h.1
  | item s dn =>
    cases dn with
    | true => exact .inr (by simpa [InvC] using h : c = .done ∧ s = []).1
    | false => exact .inl ⟨s, by simpa [InvC] using h⟩
  | head s _ => exact .inl ⟨s, h.1⟩
  | text s _ _ _ _ => exact .inl ⟨s, h.1⟩
  | open_ s _ _ => exact .inl ⟨s, h.1⟩
  | chead s _ _ _ => exact .inl ⟨s, h.1⟩
  | ctext s _ _ _ _ => exact .inl ⟨s, h.1⟩
/-- WHAT IS READ WITHOUT AN ERROR IS ONE DOCUMENT; with one, the beginning of one, or one. -/
theorem all_checkC (D : Nat) (hD : D ≤ 16) (b : List UInt8) : ((allCi D b).2 = 0 → checkE (allCi D b).1 = 0) ∧ (checkE (allCi D b).1 = 0 ∨ checkE (allCi D b).1 = 3) := by
  have h := goes_all D hD b (.live []) ci0 (by simp [InvC, ci0]) trivial
  unfold allCi
  generalize runCi D ci0 b = r at h ⊢
  obtain ⟨s, l⟩ := r
  simp only at h ⊢
  refine ⟨fun he => ?_, ?_⟩
  · cases s with
    | bad e => exact absurd he h.2
    | item s dn =>
      cases dn with
      | true =>
        have : runC (.live []) l = .done := (by simpa [InvC] using h : runC (.live []) l = .done ∧ s = []).1
        unfold checkE
        rw [this]
        rfl
      | false => cases he
    | head _ _ => cases he
    | text _ _ _ _ _ => cases he
    | open_ _ _ _ => cases he
    | chead _ _ _ _ => cases he
    | ctext _ _ _ _ _ => cases he
  · unfold checkE
    rcases inv_part h with ⟨s', h⟩ | h
    · rw [h]; exact .inr rfl
    · rw [h]; exact .inl rfl
end Go.Proofs.Ytgknpheefbfnlaa
/-
  NO PROGRAM NEEDED: parts as CBOR (on the machine of CinPure): what is written so is read as it was.
-/
namespace Go.Proofs.Ytgknpheefbfnlaa
open Go.Lib
/-- The bytes of a part. -/
def writeK (s : List Bx) (e : Ev) : List UInt8 :=
  if e.k = 7 then (match s with
    | [] => []
    | b :: _ => if b.c < 0 then [255] else [])
  else if e.k = 0 then [246]
  else if e.k = 1 then [if e.y = true then 245 else 244]
  else if e.k = 2 then headB (if e.y = true then 1 else 0) e.m
  else if e.k = 3 ∨ e.k = 4 then headB (if e.k = 3 then 3 else 2) e.t.data.toList.length ++ e.t.data.toList
  else if e.c < 0 then [if e.k = 6 then 191 else 159]
  else headB (if e.k = 6 then 5 else 4) e.c.toNat
def writeAllK : List Bx → List Ev → List UInt8
  | _, [] => []
  | s, e :: l => writeK s e ++ (match stepC (.live s) e with
    | .live s' => writeAllK s' l
    | _ => [])
/-- What CBOR's reader tells. -/
structure GoodK (e : Ev) : Prop where
  kind : 0 ≤ e.k ∧ e.k ≤ 7
  tidy : tidyE e = e
  cnt : -1 ≤ e.c ∧ e.c ≤ 1000000
  mag : e.m < 18446744073709551616
  text : e.t.data.toList.length ≤ 200 ∧ (e.k = 3 → validD e.t.data.toList = true)
/-! ### Containers with more parts than they may have -/
def overB (b : Bx) : Prop := 0 ≤ b.c ∧ (if b.map = true then 2 * b.c else b.c) < (b.have_ : Int)
theorem over_inc {s : List Bx} (h : ∃ b ∈ s, overB b) : ∃ b ∈ incB s, overB b := by
  obtain ⟨b, hb, ho⟩ := h
  cases s with
  | nil => cases hb
  | cons x r =>
    rcases List.mem_cons.1 hb with rfl | hb
    · refine ⟨_, List.mem_cons_self, ho.1, ?_⟩
      have := ho.2
      simp only
      omega
    · exact ⟨b, List.mem_cons_of_mem _ hb, ho⟩
theorem full_over {b : Bx} (h : fullB b = true) : overB ⟨b.map, b.c, b.have_ + 1⟩ := by
  unfold fullB at h
  rw [decide_eq_true_eq] at h
  refine ⟨h.1, ?_⟩
  have := h.2
  simp only
  omega
theorem over_step {s : List Bx} {e : Ev} (h : ∃ b ∈ s, overB b) : (∃ f, stepC (.live s) e = .bad f) ∨ ∃ s', stepC (.live s) e = .live s' ∧ ∃ b ∈ s', overB b := by
  have hs : s ≠ [] := by
    rintro rfl
    obtain ⟨b, hb, _⟩ := h
    cases hb
  simp only [stepC]
  split
  · exact .inl ⟨_, rfl⟩
  split
  · cases s with
    | nil => exact absurd rfl hs
    | cons x r =>
      simp only
      split
      · exact .inl ⟨_, rfl⟩
      · rename_i hx
        obtain ⟨b, hb, ho⟩ := h
        rcases List.mem_cons.1 hb with rfl | hb
        · exact absurd (.inl ⟨ho.1, by have := ho.2; omega⟩) hx
        · rw [if_neg (by rintro rfl; cases hb)]
          exact .inr ⟨r, rfl, b, hb, ho⟩
  split
  · exact .inl ⟨_, rfl⟩
  have hinc := over_inc h
  split
  · split
    · exact .inl ⟨_, rfl⟩
    · obtain ⟨b, hb, ho⟩ := hinc
      exact .inr ⟨_, rfl, b, List.mem_cons_of_mem _ hb, ho⟩
  · first | rw [if_neg hs] | skip
    exact .inr ⟨_, rfl, hinc⟩
theorem over_bad : ∀ (l : List Ev) (s : List Bx), (∃ b ∈ s, overB b) → runC (.live s) l ≠ .done
  | [], s, _ => by simp [runC]
  | e :: l, s, h => by
    rw [runC_cons]
    rcases over_step (e := e) h with ⟨f, hf⟩ | ⟨s', hs, ho⟩
    · rw [hf, runC_bad]
      simp
    · rw [hs]
      exact over_bad l s' ho
theorem full_end {b : Bx} {r : List Bx} {e : Ev} {l : List Ev} (hf : fullB b = true) (h : runC (.live (b :: r)) (e :: l) = .done) : e.k = 7 := by
  by_cases h7 : e.k = 7
  · exact h7
  · exfalso
    rw [runC_cons] at h
    have ho : ∃ x ∈ incB (b :: r), overB x := ⟨_, List.mem_cons_self, full_over hf⟩
    have : (∃ f, stepC (.live (b :: r)) e = .bad f) ∨ ∃ s', stepC (.live (b :: r)) e = .live s' ∧ ∃ b ∈ s', overB b := by
      simp only [stepC]
      rw [if_neg h7]
      split
      · exact .inl ⟨_, rfl⟩
      split
      · exact .inl ⟨_, rfl⟩
      split
      · split
        · exact .inl ⟨_, rfl⟩
        · obtain ⟨x, hx, ho⟩ := ho
          exact .inr ⟨_, rfl, x, List.mem_cons_of_mem _ hx, ho⟩
      · rw [if_neg (by simp)]
        exact .inr ⟨_, rfl, ho⟩
    rcases this with ⟨f, hf⟩ | ⟨s', hs, ho⟩
    · rw [hf, runC_bad] at h
      cases h
    · rw [hs] at h
      exact over_bad _ _ ho h
/-! ### Heads, texts -/
theorem first_of {D : Nat} {s : List Bx} {m l : Nat} (hm : m < 6) (hl : l < 28 ∨ l = 31 ∧ 2 ≤ m) (hk : keyB s = true → m = 3) (hd : 4 ≤ m → s.length < D) : firstC D s false (m * 32 + l) = headC s (stepH .new (m * 32 + l)) := by
  have e1 : (m * 32 + l) / 32 = m := by omega
  have e2 : (m * 32 + l) % 32 = l := by omega
  unfold firstC
  rw [e1, e2]
  rw [if_neg (by rintro (h | h | h); cases h; omega; omega), if_neg (by omega), if_neg (fun h => h.2 (hk h.1)), if_neg (by omega), if_neg (by omega), if_neg (by omega)]
theorem one_byte {D : Nat} {j j' : Ci} {b : UInt8} {ps : List Ev} (h : stepCi D j b = (j', ps)) : runCi D j [b] = (j', ps) := by
  simp only [runCi, h, List.append_nil]
theorem head_mid (D : Nat) (s : List Bx) (m : Nat) : ∀ (l : List UInt8) (a : Nat), l ≠ [] → runCi D (.head s (.mid m l.length a)) l = headC s (.fin m (valB a l) false)
  | [], _, h => absurd rfl h
  | [b], a, _ => by
    have h1 : stepH (.mid m [b].length a) b.toNat = .fin m (a * 256 + b.toNat) false := by simp [stepH]
    have h2 : stepCi D (.head s (.mid m [b].length a)) b = headC s (.fin m (a * 256 + b.toNat) false) := by
      show headC s (stepH (.mid m [b].length a) b.toNat) = _
      rw [h1]
    exact one_byte h2
  | b :: c :: t, a, _ => by
    have h1 : stepCi D (.head s (.mid m (b :: c :: t).length a)) b = (.head s (.mid m (c :: t).length (a * 256 + b.toNat)), []) := by
      simp only [stepCi, stepH]
      rw [if_neg (by simp)]
      simp [headC]
    rw [runCi, h1]
    simp only [List.nil_append]
    rw [head_mid D s m (c :: t) _ (by simp)]
    simp only [valB]
theorem headB_len (m v : Nat) : (headB m v).length ≤ 9 := by
  rw [headB_length]
  unfold sizH
  split
  · simp
  split
  · simp
  split
  · simp
  split <;> simp
theorem byte_eq (n : Nat) (h : n < 256) : (UInt8.ofNat n).toNat = n := by simp; omega
theorem head_read {D : Nat} {s : List Bx} {m v : Nat} (hm : m < 6) (hv : v < 18446744073709551616) (hk : keyB s = true → m = 3) (hd : 4 ≤ m → s.length < D) : runCi D (.item s false) (headB m v) = headC s (.fin m v false) := by
  have hlong : ∀ k : Nat, k < 4 → v < 256 ^ 2 ^ k → runCi D (.item s false) (UInt8.ofNat (m * 32 + (24 + k)) :: bigB (2 ^ k) v) = headC s (.fin m v false) := by
    intro k hk4 hvk
    have h1 : stepCi D (.item s false) (UInt8.ofNat (m * 32 + (24 + k))) = (.head s (.mid m (2 ^ k) 0), []) := by
      simp only [stepCi]
      rw [byte_eq _ (by omega), first_of hm (.inl (by omega)) hk hd]
      have := step_first m (24 + k) (by omega) (by omega)
      rw [byte_eq _ (by omega)] at this
      rw [this, if_neg (by omega), if_pos (by omega), show 24 + k - 24 = k by omega]
      rfl
    rw [runCi, h1]
    simp only [List.nil_append]
    have h2 := head_mid D s m (bigB (2 ^ k) v) 0 (by intro h; have := congrArg List.length h; rw [bigB_length] at this; simp at this)
    rw [bigB_length, valB_big, Nat.mod_eq_of_lt hvk] at h2
    rw [h2]
  unfold headB
  rcases sizH_cases v hv with ⟨h, e⟩ | ⟨h, e⟩ | ⟨h, e⟩ | ⟨h, e⟩ | ⟨h, e⟩ <;> rw [e]
  · simp only [bigB]
    rw [runCi]
    have h1 : stepCi D (.item s false) (UInt8.ofNat (m * 32 + v)) = headC s (.fin m v false) := by
      simp only [stepCi]
      rw [byte_eq _ (by omega), first_of hm (.inl (by omega)) hk hd]
      have := step_first m v (by omega) (by omega)
      rw [byte_eq _ (by omega), if_pos h] at this
      rw [this]
    rw [h1]
    simp only [runCi, List.append_nil]
  · exact hlong 0 (by decide) (by simp; omega)
  · exact hlong 1 (by decide) (by simp; omega)
  · exact hlong 2 (by decide) (by simp; omega)
  · exact hlong 3 (by decide) (by simp; omega)
theorem text_read (D : Nat) (s : List Bx) (m : Bool) : ∀ (l t : List UInt8) (u : Option (Nat × Nat × Nat)), l ≠ [] → (m = true → wholeS (runS u l) = true) → runCi D (.text s m l.length t u) l = putC s (evTxC m (t ++ l))
  | [], _, _, h, _ => absurd rfl h
  | b :: l, t, u, _, hw => by
    have hn : ¬ (m = true ∧ nextU m u b = none) := by
      rintro ⟨rfl, h⟩
      have := hw rfl
      simp only [nextU, if_true] at h
      rw [runS_cons, h, runS_none] at this
      cases this
    cases l with
    | nil =>
      have h2 : ¬ (m = true ∧ wholeS (nextU m u b) = false) := by
        rintro ⟨rfl, h⟩
        have := hw rfl
        simp only [nextU, if_true] at h
        rw [runS_cons, runS_nil, h] at this
        cases this
      have h1 : stepCi D (.text s m [b].length t u) b = putC s (evTxC m (t ++ [b])) := by
        simp only [stepCi]
        rw [if_neg hn, if_pos (by simp), if_neg h2]
      rw [runCi, h1]
      simp only [runCi, List.append_nil]
    | cons c l =>
      have h1 : stepCi D (.text s m (b :: c :: l).length t u) b = (.text s m (c :: l).length (t ++ [b]) (nextU m u b), []) := by
        simp only [stepCi]
        rw [if_neg hn, if_neg (by simp)]
        rfl
      rw [runCi, h1]
      simp only [List.nil_append]
      rw [text_read D s m (c :: l) (t ++ [b]) (nextU m u b) (by simp) (by rintro rfl; have := hw rfl; rw [runS_cons] at this; exact this)]
      simp
/-! ### A part -/
def itemOf (s : List Bx) (e : Ev) : List Bx := if e.k = 5 ∨ e.k = 6 then ⟨decide (e.k = 6), e.c, 0⟩ :: incB s else incB s
theorem item_read (D : Nat) (s : List Bx) (e : Ev) (hg : GoodK e) (h7 : e.k ≠ 7) (hk : keyB s = true → e.k = 3) (hd : e.k = 5 ∨ e.k = 6 → s.length < D) : runCi D (.item s false) (writeK s e) = (atC (itemOf s e), e :: endsC (itemOf s e)) := by
  obtain ⟨hkind, ht, hc, hm, htx⟩ := hg
  obtain ⟨k, y, m, t, c⟩ := e
  simp only at h7 hk hd hkind hc hm htx
  have hkf : k ≠ 3 → ¬ keyB s = true := fun h h' => h (hk h')
  have hcs : k = 0 ∨ k = 1 ∨ k = 2 ∨ k = 3 ∨ k = 4 ∨ k = 5 ∨ k = 6 := by omega
  rcases hcs with rfl | rfl | rfl | rfl | rfl | rfl | rfl
  · have he : (⟨0, y, m, t, c⟩ : Ev) = evNull := ht.symm
    rw [he]
    refine one_byte ?_
    simp only [stepCi, firstC]
    rw [if_neg (by decide), if_neg (by decide), if_neg (fun h => hkf (by decide) h.1), if_neg (by decide), if_pos (by decide), if_pos (by decide)]
    rfl
  · have he : (⟨1, y, m, t, c⟩ : Ev) = evBoolC y := ht.symm
    rw [he]
    cases y
    · refine one_byte (b := 244) ?_
      simp only [stepCi, firstC]
      rw [if_neg (by decide), if_neg (by decide), if_neg (fun h => hkf (by decide) h.1), if_neg (by decide), if_pos (by decide), if_neg (by decide), if_pos (by decide)]
      rfl
    · refine one_byte (b := 245) ?_
      simp only [stepCi, firstC]
      rw [if_neg (by decide), if_neg (by decide), if_neg (fun h => hkf (by decide) h.1), if_neg (by decide), if_pos (by decide), if_neg (by decide), if_pos (by decide)]
      rfl
  · have he : (⟨2, y, m, t, c⟩ : Ev) = evIntC y m := ht.symm
    rw [he]
    have hw : writeK s (evIntC y m) = headB (if y = true then 1 else 0) m := rfl
    rw [hw, head_read (by split <;> decide) hm (fun h => absurd h (hkf (by decide))) (by split <;> intro h <;> omega)]
    cases y <;> rfl
  · have he : (⟨3, y, m, t, c⟩ : Ev) = evTxC true t.data.toList := ht.symm
    have hw : writeK s ⟨3, y, m, t, c⟩ = headB 3 t.data.toList.length ++ t.data.toList := rfl
    rw [hw, runCi_append, head_read (by decide) (by omega) (fun _ => rfl) (fun h => by omega)]
    have hwh : wholeS (runS st0 t.data.toList) = true := by
      rw [← valid_run]
      exact htx.2 rfl
    rw [he]
    generalize t.data.toList = l at htx hwh
    by_cases hl : l = []
    · subst hl
      have h1 : headC s (.fin 3 ([] : List UInt8).length false) = putC s (evTxC true []) := by
        simp only [headC]
        rw [if_neg (by decide), if_pos (by decide), if_neg (by decide), if_neg (by decide), if_pos (by decide)]
        rfl
      rw [h1]
      simp only [runCi, List.append_nil]
      rfl
    · have hlen : l.length ≠ 0 := by simpa using hl
      have h1 : headC s (.fin 3 l.length false) = (.text s true l.length [] st0, []) := by
        simp only [headC]
        rw [if_neg (by decide), if_pos (by decide), if_neg (by decide), if_neg (by omega), if_neg hlen]
        rfl
      rw [h1]
      simp only [List.nil_append]
      rw [text_read D s true l [] st0 hl (fun _ => hwh)]
      rfl
  · have he : (⟨4, y, m, t, c⟩ : Ev) = evTxC false t.data.toList := ht.symm
    have hw : writeK s ⟨4, y, m, t, c⟩ = headB 2 t.data.toList.length ++ t.data.toList := rfl
    rw [hw, runCi_append, head_read (by decide) (by omega) (fun h => absurd h (hkf (by decide))) (fun h => by omega)]
    rw [he]
    generalize t.data.toList = l at htx
    by_cases hl : l = []
    · subst hl
      have h1 : headC s (.fin 2 ([] : List UInt8).length false) = putC s (evTxC false []) := by
        simp only [headC]
        rw [if_neg (by decide), if_pos (by decide), if_neg (by decide), if_neg (by decide), if_pos (by decide)]
        rfl
      rw [h1]
      simp only [runCi, List.append_nil]
      rfl
    · have hlen : l.length ≠ 0 := by simpa using hl
      have h1 : headC s (.fin 2 l.length false) = (.text s false l.length [] st0, []) := by
        simp only [headC]
        rw [if_neg (by decide), if_pos (by decide), if_neg (by decide), if_neg (by omega), if_neg hlen]
        rfl
      rw [h1]
      simp only [List.nil_append]
      rw [text_read D s false l [] st0 hl (fun h => by cases h)]
      rfl
  · have he : (⟨5, y, m, t, c⟩ : Ev) = evBegC false c := ht.symm
    rw [he]
    by_cases hneg : c < 0
    · obtain rfl : c = -1 := by omega
      refine one_byte (b := 159) ?_
      have h1 := first_of (D := D) (s := s) (m := 4) (l := 31) (by decide) (.inr ⟨rfl, by decide⟩) (fun h => absurd h (hkf (by decide))) (fun _ => hd (by decide))
      show firstC D s false 159 = _
      rw [h1]
      rfl
    · have hw : writeK s (evBegC false c) = headB 4 c.toNat := by
        show (if c < 0 then [159] else headB 4 c.toNat) = _
        rw [if_neg hneg]
      rw [hw, head_read (by decide) (by omega) (fun h => absurd h (hkf (by decide))) (fun _ => hd (by decide))]
      have h1 : headC s (.fin 4 c.toNat false) = beginC s false c := by
        simp only [headC]
        rw [if_neg (by decide), if_neg (by decide), if_neg (by decide), if_neg (by omega), Int.toNat_of_nonneg (by omega)]
        rfl
      rw [h1]
      rfl
  · have he : (⟨6, y, m, t, c⟩ : Ev) = evBegC true c := ht.symm
    rw [he]
    by_cases hneg : c < 0
    · obtain rfl : c = -1 := by omega
      refine one_byte (b := 191) ?_
      have h1 := first_of (D := D) (s := s) (m := 5) (l := 31) (by decide) (.inr ⟨rfl, by decide⟩) (fun h => absurd h (hkf (by decide))) (fun _ => hd (by decide))
      show firstC D s false 191 = _
      rw [h1]
      rfl
    · have hw : writeK s (evBegC true c) = headB 5 c.toNat := by
        show (if c < 0 then [191] else headB 5 c.toNat) = _
        rw [if_neg hneg]
      rw [hw, head_read (by decide) (by omega) (fun h => absurd h (hkf (by decide))) (fun _ => hd (by decide))]
      have h1 : headC s (.fin 5 c.toNat false) = beginC s true c := by
        simp only [headC]
        rw [if_neg (by decide), if_neg (by decide), if_neg (by decide), if_neg (by omega), Int.toNat_of_nonneg (by omega)]
        rfl
      rw [h1]
      rfl
/-! ### A whole document -/
def jC (s : List Bx) : Ci := if s = [] then .item [] false else atC s
theorem rest_full {b : Bx} {r : List Bx} (h : fullB b = true) : atC (b :: r) = atC r ∧ endsC (b :: r) = evEnd :: endsC r := by
  have h1 : restC (b :: r) = restC r := by simp only [restC]; rw [if_pos h]
  have h2 : numC (b :: r) = numC r + 1 := by simp only [numC]; rw [if_pos h]
  unfold atC endsC
  rw [h1, h2]
  exact ⟨rfl, rfl⟩
theorem rest_open {b : Bx} {r : List Bx} (h : ¬ fullB b = true) : atC (b :: r) = .item (b :: r) false ∧ endsC (b :: r) = [] := by
  have h1 : restC (b :: r) = b :: r := by simp only [restC]; rw [if_neg h]
  have h2 : numC (b :: r) = 0 := by simp only [numC]; rw [if_neg h]
  unfold atC endsC
  rw [h1, h2]
  exact ⟨rfl, rfl⟩
theorem good_end {e : Ev} (hg : GoodK e) (h7 : e.k = 7) : e = evEnd := by
  have ht := hg.tidy
  obtain ⟨k, y, m, t, c⟩ := e
  obtain rfl : k = 7 := h7
  exact ht.symm
theorem back_runK (D : Nat) : ∀ (l : List Ev) (s : List Bx), runC (.live s) l = .done → (∀ e ∈ l, GoodK e) → DeepW D s l → ∃ ps, runCi D (jC s) (writeAllK s l) = (.item [] true, ps) ∧ l = endsC s ++ ps
  | [], s, h, _, _ => by simp [runC] at h
  | e :: l, s, h, hg, hd => by
    have hge := hg e (by simp)
    have hgl : ∀ x ∈ l, GoodK x := fun x hx => hg x (by simp [hx])
    have hlast : ∀ s' : List Bx, stepC (.live s) e = ckS s' → s' ≠ [] → ∃ ps, runCi D (atC s') (writeAllK s' l) = (.item [] true, ps) ∧ l = endsC s' ++ ps := by
      intro s' hs hne
      have hs2 : stepC (.live s) e = .live s' := by rw [hs]; exact if_neg hne
      have hd2 := hd.2
      rw [runC_cons, hs2] at h
      rw [hs2] at hd2
      have := back_runK D l s' h hgl hd2
      unfold jC at this
      rwa [if_neg hne] at this
    have hall : ∀ s' : List Bx, stepC (.live s) e = ckS s' → writeAllK s (e :: l) = writeK s e ++ (if s' = [] then [] else writeAllK s' l) ∧ (s' = [] → l = []) := by
      intro s' hs
      have h2 := h
      rw [runC_cons, hs] at h2
      simp only [writeAllK]
      rw [hs]
      unfold ckS at h2 ⊢
      by_cases hne : s' = []
      · rw [if_pos hne] at h2 ⊢
        rw [if_pos hne]
        exact ⟨rfl, fun _ => runC_done h2⟩
      · rw [if_neg hne, if_neg hne]
        exact ⟨rfl, fun h => absurd h hne⟩
    by_cases h7 : e.k = 7
    · obtain rfl := good_end hge h7
      cases s with
      | nil =>
        rw [runC_cons, show stepC (.live []) evEnd = .bad 2 from rfl, runC_bad] at h
        cases h
      | cons b r =>
        have hns : ¬ shutB b := by
          intro hsb
          have : stepC (.live (b :: r)) evEnd = .bad 2 := by
            simp only [stepC]
            rw [if_neg (by decide), if_pos (by rfl), if_pos hsb]
          rw [runC_cons, this, runC_bad] at h
          cases h
        have hst := end_step (r := r) hns
        obtain ⟨hw, hl⟩ := hall r hst
        have hj : jC (b :: r) = atC (b :: r) := if_neg (by simp)
        rw [hw, hj]
        by_cases hf : fullB b = true
        · have hwk : writeK (b :: r) evEnd = [] := by
            show (if b.c < 0 then [255] else []) = _
            unfold fullB at hf
            rw [decide_eq_true_eq] at hf
            rw [if_neg (by omega)]
          obtain ⟨e1, e2⟩ := rest_full (r := r) hf
          rw [hwk, e1, e2, List.nil_append]
          by_cases hr : r = []
          · subst hr
            obtain rfl := hl rfl
            exact ⟨[], rfl, rfl⟩
          · rw [if_neg hr]
            obtain ⟨ps, h1, h2⟩ := hlast r hst hr
            exact ⟨ps, h1, by rw [List.cons_append, ← h2]⟩
        · have hc : b.c < 0 := by
            by_cases hc : 0 ≤ b.c
            · exact absurd (shut_full hns hc) hf
            · omega
          have hwk : writeK (b :: r) evEnd = [255] := by
            show (if b.c < 0 then [255] else []) = _
            rw [if_pos hc]
          obtain ⟨e1, e2⟩ := rest_open (r := r) hf
          rw [hwk, e1, e2, runCi_append]
          have h1 : runCi D (.item (b :: r) false) [255] = (atC r, evEnd :: endsC r) := by
            refine one_byte ?_
            show firstC D (b :: r) false 255 = _
            unfold firstC
            rw [if_neg (by decide), if_pos rfl]
            simp only
            rw [if_neg]
            rintro (h1 | h1)
            · omega
            · exact hns (.inr h1)
          rw [h1]
          simp only
          by_cases hr : r = []
          · subst hr
            obtain rfl := hl rfl
            exact ⟨[evEnd], rfl, rfl⟩
          · rw [if_neg hr]
            obtain ⟨ps, h1, h2⟩ := hlast r hst hr
            refine ⟨evEnd :: endsC r ++ ps, by rw [h1], ?_⟩
            rw [List.nil_append, List.cons_append, ← h2]
    · have hopen : jC s = .item s false ∧ endsC s = [] := by
        cases s with
        | nil => exact ⟨rfl, rfl⟩
        | cons b r =>
          have hj : jC (b :: r) = atC (b :: r) := if_neg (by simp)
          rw [hj]
          exact rest_open (fun hf => h7 (full_end hf h))
      have hbad : ∀ f, stepC (.live s) e ≠ .bad f := fun f hf => by
        rw [runC_cons, hf, runC_bad] at h
        cases h
      have hm : mayE e := by
        by_cases hm : mayE e
        · exact hm
        · exact absurd (by simp only [stepC]; rw [if_pos hm]) (hbad 2)
      have hkey : keyB s = true → e.k = 3 := by
        intro hk
        by_cases h3 : e.k = 3
        · exact h3
        · refine absurd ?_ (hbad 8)
          simp only [stepC]
          rw [if_neg (by simpa using hm), if_neg h7, if_pos ⟨hk, h3⟩]
      have hst : stepC (.live s) e = ckS (itemOf s e) := by
        have hb4 := hbad 4
        simp only [stepC] at hb4 ⊢
        rw [if_neg (by simpa using hm), if_neg h7, if_neg (fun h => h.2 (hkey h.1))] at hb4 ⊢
        unfold itemOf ckS
        by_cases h56 : e.k = 5 ∨ e.k = 6
        · rw [if_pos h56] at hb4 ⊢
          by_cases hl : 16 ≤ s.length
          · rw [if_pos hl] at hb4
            exact absurd rfl hb4
          · rw [if_neg hl, if_pos h56, if_neg (by simp)]
        · rw [if_neg h56, if_neg h56]
          cases s <;> rfl
      obtain ⟨hw, hl⟩ := hall _ hst
      rw [hw, hopen.1, hopen.2, runCi_append, item_read D s e hge h7 hkey hd.1]
      simp only
      by_cases hr : itemOf s e = []
      · rw [if_pos hr, hr]
        obtain rfl := hl hr
        exact ⟨[e], rfl, rfl⟩
      · rw [if_neg hr]
        obtain ⟨ps, h1, h2⟩ := hlast _ hst hr
        refine ⟨e :: endsC (itemOf s e) ++ ps, by rw [h1], ?_⟩
        rw [List.nil_append, List.cons_append, ← h2]
/-- WHAT IS WRITTEN AS CBOR IS READ AS IT WAS. -/
theorem back_allK (D : Nat) (l : List Ev) (hc : checkE l = 0) (hg : ∀ e ∈ l, GoodK e) (hd : DeepW D [] l) : allCi D (writeAllK [] l) = (l, 0) := by
  obtain ⟨ps, h1, h2⟩ := back_runK D l [] (check_zero hc) hg hd
  unfold allCi
  rw [show ci0 = jC [] from rfl, h1, h2]
  rfl
theorem back_endK (D : Nat) (l : List Ev) (hc : checkE l = 0) (hg : ∀ e ∈ l, GoodK e) (hd : DeepW D [] l) : runCi D ci0 (writeAllK [] l) = (.item [] true, l) := by
  obtain ⟨ps, h1, h2⟩ := back_runK D l [] (check_zero hc) hg hd
  rw [show ci0 = jC [] from rfl, h1, h2]
  rfl
/-- Behind the end nothing more may come. -/
theorem shut_run (D : Nat) (s : List Bx) (b : UInt8) (l : List UInt8) : runCi D (.item s true) (b :: l) = (.bad 2, []) := by
  have h : stepCi D (.item s true) b = (.bad 2, []) := by
    simp only [stepCi, firstC]
    rw [if_pos (.inl trivial)]
  rw [runCi, h]
  simp only [runCi_bad, List.append_nil]
theorem more_allK (D : Nat) (l : List Ev) (hc : checkE l = 0) (hg : ∀ e ∈ l, GoodK e) (hd : DeepW D [] l) (b : UInt8) (t : List UInt8) : allCi D (writeAllK [] l ++ b :: t) = (l, 2) := by
  unfold allCi
  rw [runCi_append, back_endK D l hc hg hd]
  simp only
  rw [shut_run, List.append_nil]
  rfl
/-- A document that is cut anywhere is not at its end. -/
theorem cut_allK (D : Nat) (l : List Ev) (hc : checkE l = 0) (hg : ∀ e ∈ l, GoodK e) (hd : DeepW D [] l) (i : Nat) (hi : i < (writeAllK [] l).length) : (allCi D ((writeAllK [] l).take i)).2 = 3 := by
  have h := back_endK D l hc hg hd
  rw [← List.take_append_drop i (writeAllK [] l), runCi_append, List.drop_eq_getElem_cons hi] at h
  unfold allCi
  simp only
  generalize (runCi D ci0 ((writeAllK [] l).take i)).1 = j at h
  cases j with
  | bad e =>
    rw [runCi_bad] at h
    cases h
  | item s dn =>
    cases dn with
    | true =>
      rw [shut_run] at h
      cases h
    | false => rfl
  | head _ _ => rfl
  | text _ _ _ _ _ => rfl
  | open_ _ _ _ => rfl
  | chead _ _ _ _ => rfl
  | ctext _ _ _ _ _ => rfl
theorem write_someK (D : Nat) (l : List Ev) (hc : checkE l = 0) (hg : ∀ e ∈ l, GoodK e) (hd : DeepW D [] l) : writeAllK [] l ≠ [] := by
  intro hn
  have h := back_endK D l hc hg hd
  rw [hn] at h
  cases h
/-! ### As far as it is written -/
theorem writeK_snoc : ∀ (l : List Ev) (s s' : List Bx) (e : Ev), runC (.live s) l = .live s' → writeAllK s (l ++ [e]) = writeAllK s l ++ writeK s' e
  | [], s, s', e, h => by
    have : Ck.live s = Ck.live s' := h
    obtain rfl : s = s' := by cases this; rfl
    simp only [List.nil_append, writeAllK]
    cases stepC (.live s) e <;> simp
  | x :: l, s, s', e, h => by
    rw [runC_cons] at h
    simp only [List.cons_append, writeAllK]
    cases hx : stepC (.live s) x with
    | bad f => rw [hx, runC_bad] at h; cases h
    | done =>
      rw [hx] at h
      cases l with
      | nil => cases h
      | cons y l => rw [runC_cons] at h; simp only [stepC] at h; rw [runC_bad] at h; cases h
    | live s1 =>
      rw [hx] at h
      simp only [writeK_snoc l s1 s' e h, List.append_assoc]
theorem writeK_take {l : List Ev} {j : Nat} (hj : j < l.length) {s : List Bx} (h : runC (.live []) (l.take j) = .live s) : writeAllK [] (l.take (j + 1)) = writeAllK [] (l.take j) ++ writeK s l[j] := by
  rw [List.take_add_one, List.getElem?_eq_getElem hj]
  exact writeK_snoc _ _ _ _ h
end Go.Proofs.Ytgknpheefbfnlaa
/-
  NO PROGRAM NEEDED: what chapter 13 asks of CBOR's reader, over the machine of CinPure: whatever byte comes first; keys; long heads; depths; counts.
-/
namespace Go.Proofs.Ytgknpheefbfnlaa
open Go.Lib
/-- The error behind a byte. -/
def errCi : Ci → Nat
  | .bad e => e
  | _ => 0
theorem err_bad {s : Ci} (h : errCi s ≠ 0) : ∃ e, s = .bad e ∧ e ≠ 0 := by
  cases s with
  | bad e => exact ⟨e, rfl, h⟩
  | _ => exact absurd rfl h
/-- Behind an error all is that error: where a run ends well, it went well. -/
theorem err_take (D : Nat) (s : Ci) (l : List UInt8) (h : errCi (runCi D s l).1 = 0) (i : Nat) : errCi (runCi D s (l.take i)).1 = 0 := by
  by_cases h0 : errCi (runCi D s (l.take i)).1 = 0
  · exact h0
  · obtain ⟨e, he, hne⟩ := err_bad h0
    have hl : runCi D s l = runCi D s (l.take i ++ l.drop i) := by rw [List.take_append_drop]
    rw [hl, runCi_append, he, runCi_bad] at h
    exact absurd h hne
/-! ### Whatever byte -/
def wantO (b : Nat) (i : Bool) : Nat :=
  if (28 ≤ b % 32 ∧ b % 32 ≤ 30) ∨ (b % 32 = 31 ∧ (b / 32 < 2 ∨ b / 32 = 6)) then 2 else if b = 255 then (if i = true then 0 else 2) else if b / 32 = 6 then 8 else if b / 32 = 7 ∧ 25 ≤ b % 32 ∧ b % 32 ≤ 27 then 6
  else if b / 32 = 7 ∧ (b % 32 < 20 ∨ 22 < b % 32) then 8 else 0
theorem others_all : ∀ (b : Fin 256) (i : Bool), errCi (stepCi 4 (runCi 4 ci0 (if i = true then [159, 1] else [])).1 (UInt8.ofNat b.val)).1 = wantO b.val i := by decide +kernel
def wantK (b : Nat) (o : Bool) : Nat :=
  if (28 ≤ b % 32 ∧ b % 32 ≤ 30) ∨ (b % 32 = 31 ∧ (b / 32 < 2 ∨ b / 32 = 6)) then 2 else if b = 255 then (if o = true then 0 else 2) else if b / 32 ≠ 3 then 8 else 0
theorem keys_all : ∀ (b : Fin 256) (o : Bool), errCi (stepCi 4 (stepCi 4 ci0 (if o = true then 191 else 161)).1 (UInt8.ofNat b.val)).1 = wantK b.val o := by decide +kernel
theorem keys_more : (allCi 4 [191, 97, 97, 255]).2 = 2 := by decide +kernel
/-! ### Heads that are longer than they must be -/
theorem long_read {D : Nat} {s : List Bx} {m v k : Nat} (hm : m < 6) (hk4 : k < 4) (hvk : v < 256 ^ 2 ^ k) (hk : keyB s = true → m = 3) (hd : 4 ≤ m → s.length < D) :
    runCi D (.item s false) (UInt8.ofNat (m * 32 + (24 + k)) :: bigB (2 ^ k) v) = headC s (.fin m v false) := by
  have h1 : stepCi D (.item s false) (UInt8.ofNat (m * 32 + (24 + k))) = (.head s (.mid m (2 ^ k) 0), []) := by
    simp only [stepCi]
    rw [byte_eq _ (by omega), first_of hm (.inl (by omega)) hk hd]
    have := step_first m (24 + k) (by omega) (by omega)
    rw [byte_eq _ (by omega)] at this
    rw [this, if_neg (by omega), if_pos (by omega), show 24 + k - 24 = k by omega]
    rfl
  rw [runCi, h1]
  simp only [List.nil_append]
  have h2 := head_mid D s m (bigB (2 ^ k) v) 0 (by intro h; have := congrArg List.length h; rw [bigB_length] at this; simp at this)
  rw [bigB_length, valB_big, Nat.mod_eq_of_lt hvk] at h2
  rw [h2]
theorem wide_all (y : Bool) (v k : Nat) (hk : k < 4) (hv : v < 256 ^ 2 ^ k) : allCi 1 (UInt8.ofNat ((if y = true then 1 else 0) * 32 + (24 + k)) :: bigB (2 ^ k) v) = ([evIntC y v], 0) := by
  unfold allCi ci0
  rw [long_read (by split <;> omega) hk hv (by simp [keyB]) (by intro h; split at h <;> omega)]
  cases y <;> rfl
/-! ### Depths -/
def stkD : Nat → List Bx
  | 0 => []
  | n + 1 => ⟨false, 1, 0⟩ :: incB (stkD n)
theorem stkD_len (n : Nat) : (stkD n).length = n := by
  induction n with
  | zero => rfl
  | succ n ih =>
    rw [stkD, List.length_cons]
    have : (incB (stkD n)).length = (stkD n).length := by cases stkD n <;> rfl
    omega
theorem stkD_inc : ∀ n : Nat, incB (stkD n) = List.replicate n ⟨false, 1, 1⟩
  | 0 => rfl
  | n + 1 => by
    rw [stkD, List.replicate_succ, ← stkD_inc n]
    rfl
theorem stkD_key (n : Nat) : keyB (stkD n) = false := by cases n <;> rfl
theorem deep_step (D n : Nat) (h : n < D) : stepCi D (.item (stkD n) false) 129 = (.item (stkD (n + 1)) false, [evBegC false 1]) := by
  have h1 : (129 : UInt8).toNat = 4 * 32 + 1 := rfl
  simp only [stepCi]
  rw [h1, first_of (by omega) (.inl (by omega)) (by rw [stkD_key]; intro h; cases h) (by intro _; rw [stkD_len]; exact h)]
  have h2 : stepH .new (4 * 32 + 1) = .fin 4 1 false := rfl
  rw [h2]
  have hf : fullB ⟨false, 1, 0⟩ = false := by decide
  simp only [headC, beginC, atC, restC, endsC, numC]
  rfl
theorem deep_stop (D n : Nat) (h : D ≤ n) : stepCi D (.item (stkD n) false) 129 = (.bad 4, []) := by
  simp only [stepCi]
  have h1 : (129 : UInt8).toNat = 129 := rfl
  rw [h1]
  unfold firstC
  rw [if_neg (by simp), if_neg (by omega), if_neg (by rw [stkD_key]; simp), if_neg (by omega), if_neg (by omega), if_pos ⟨.inl (by omega), by rw [stkD_len]; exact h⟩]
theorem deep_run (D : Nat) : ∀ n, n ≤ D → runCi D ci0 (List.replicate n 129) = (.item (stkD n) false, List.replicate n (evBegC false 1))
  | 0, _ => rfl
  | n + 1, h => by
    rw [List.replicate_succ', runCi_append, deep_run D n (by omega)]
    have := deep_step D n (by omega)
    simp only [runCi, this, List.append_nil]
    rw [List.replicate_succ']
theorem full_run : ∀ n : Nat, restC (List.replicate n ⟨false, 1, 1⟩) = [] ∧ numC (List.replicate n (⟨false, 1, 1⟩ : Bx)) = n
  | 0 => ⟨rfl, rfl⟩
  | n + 1 => by
    have hf : fullB ⟨false, 1, 1⟩ = true := by decide
    obtain ⟨h1, h2⟩ := full_run n
    rw [List.replicate_succ]
    simp only [restC, numC, hf, if_true]
    exact ⟨h1, by rw [h2]⟩
theorem deep_all (D n : Nat) (h : n ≤ D) : allCi D (List.replicate n 129 ++ [5]) = (List.replicate n (evBegC false 1) ++ evIntC false 5 :: List.replicate n evEnd, 0) := by
  have h5 : stepCi D (.item (stkD n) false) 5 = (.item [] true, evIntC false 5 :: List.replicate n evEnd) := by
    have h1 : (5 : UInt8).toNat = 0 * 32 + 5 := rfl
    simp only [stepCi]
    rw [h1, first_of (by omega) (.inl (by omega)) (by rw [stkD_key]; intro h; cases h) (by intro h; omega)]
    have h2 : stepH .new (0 * 32 + 5) = .fin 0 5 false := rfl
    rw [h2]
    obtain ⟨h3, h4⟩ := full_run n
    simp only [headC, putC, atC, endsC, stkD_inc, h3, h4]
    rfl
  unfold allCi
  rw [runCi_append, deep_run D n h]
  simp only [runCi, h5, List.append_nil]
  rfl
theorem deep_more (D n : Nat) (h : D < n) (t : List UInt8) : allCi D (List.replicate n 129 ++ t) = (List.replicate D (evBegC false 1), 4) := by
  have hs : List.replicate n (129 : UInt8) = List.replicate D 129 ++ 129 :: List.replicate (n - D - 1) 129 := by
    rw [← List.replicate_succ, List.replicate_append_replicate]
    congr 1
    omega
  unfold allCi
  rw [hs, List.append_assoc, runCi_append, deep_run D D (Nat.le_refl _)]
  simp only [List.cons_append, runCi, deep_stop D D (Nat.le_refl _), runCi_bad, List.append_nil]
  rfl
/-! ### Counts -/
def doneCi : Ci → Bool
  | .item [] true => true
  | _ => false
theorem head_cont {s : List Bx} {m v : Nat} (hm : m = 4 ∨ m = 5) (hv : v ≤ 1000000) : headC s (.fin m v false) = beginC s (decide (m = 5)) v := by
  unfold headC
  simp only
  rw [if_neg (by omega), if_neg (by omega), if_neg (by simp), if_neg (by omega)]
theorem head_great {s : List Bx} {m v : Nat} (hm : m = 4 ∨ m = 5) (hv : 1000000 < v) : headC s (.fin m v false) = (.bad 7, []) := by
  unfold headC
  simp only
  rw [if_neg (by omega), if_neg (by omega), if_neg (by simp), if_pos hv]
theorem begin_some (m : Bool) (n : Nat) (h0 : n ≠ 0) : beginC [] m n = (.item [⟨m, n, 0⟩] false, [evBegC m n]) := by
  have hf : fullB ⟨m, n, 0⟩ = false := by
    unfold fullB
    rw [decide_eq_false_iff_not]
    rintro ⟨_, h⟩
    cases m <;> simp at h <;> omega
  simp only [beginC, atC, restC, endsC, numC, incB, hf]
  rfl
theorem count_head (m : Bool) (n : Nat) (hn : n ≤ 1000000) : runCi 2 ci0 (headB (if m = true then 5 else 4) n) = (if n = 0 then (.item [] true, [evBegC m 0, evEnd]) else (.item [⟨m, n, 0⟩] false, [evBegC m n])) := by
  unfold ci0
  rw [head_read (by split <;> omega) (by omega) (by simp [keyB]) (by simp), head_cont (by split <;> omega) hn]
  have hm : decide ((if m = true then 5 else 4) = 5) = m := by cases m <;> rfl
  rw [hm]
  by_cases h0 : n = 0
  · subst h0
    cases m <;> rfl
  · rw [if_neg h0, begin_some m n h0]
theorem count_item (m : Bool) (n i : Nat) (_hn : 0 < n) (hi : i < (if m = true then 2 * n else n)) : stepCi 2 (.item [⟨m, n, i⟩] false) 96 = if i + 1 = (if m = true then 2 * n else n) then (.item [] true, [evTxC true [], evEnd]) else (.item [⟨m, n, i + 1⟩] false, [evTxC true []]) := by
  have h1 : (96 : UInt8).toNat = 3 * 32 + 0 := rfl
  simp only [stepCi]
  rw [h1, first_of (by omega) (.inl (by omega)) (fun _ => rfl) (by intro h; omega)]
  have h2 : stepH .new (3 * 32 + 0) = .fin 3 0 false := rfl
  rw [h2]
  have hf : fullB ⟨m, n, i + 1⟩ = decide (i + 1 = (if m = true then 2 * n else n)) := by
    unfold fullB
    rw [Bool.eq_iff_iff, decide_eq_true_iff, decide_eq_true_iff]
    cases m <;> simp <;> omega
  simp only [headC, putC, incB, atC, restC, endsC, numC, hf]
  by_cases h : i + 1 = (if m = true then 2 * n else n)
  · rw [if_pos h, decide_eq_true h]
    rfl
  · rw [if_neg h, decide_eq_false h]
    rfl
theorem count_great (m : Bool) (g : Nat) (hg : g < 18446744073709551616) : (allCi 2 (headB (if m = true then 5 else 4) g)).2 = if g = 0 then 0 else if 1000000 < g then 7 else 3 := by
  by_cases h : 1000000 < g
  · have e : (if g = 0 then 0 else if 1000000 < g then 7 else 3) = 7 := by rw [if_neg (by omega), if_pos h]
    rw [e]
    unfold allCi ci0
    rw [head_read (by split <;> omega) hg (by simp [keyB]) (by simp), head_great (by split <;> omega) h]
    rfl
  · unfold allCi
    rw [count_head m g (by omega)]
    by_cases h0 : g = 0
    · rw [if_pos h0, if_pos h0]
      rfl
    · rw [if_neg h0, if_neg h0, if_neg h]
      rfl
end Go.Proofs.Ytgknpheefbfnlaa
/-
  NO PROGRAM NEEDED: what chapter 13 asks of CBOR's reader, over the machine of CinPure: texts, byte by byte; chunks.
-/
namespace Go.Proofs.Ytgknpheefbfnlaa
open Go.Lib
theorem head_part (D : Nat) (s : List Bx) (m : Nat) : ∀ (l : List UInt8) (a i : Nat), i < l.length → ∃ a', runCi D (.head s (.mid m l.length a)) (l.take i) = (.head s (.mid m (l.length - i) a'), [])
  | [], _, _, h => absurd h (Nat.not_lt_zero _)
  | _ :: _, a, 0, _ => ⟨a, rfl⟩
  | b :: t, a, i + 1, h => by
    have ht : t ≠ [] := by rintro rfl; simp at h
    have h1 : stepCi D (.head s (.mid m (b :: t).length a)) b = (.head s (.mid m t.length (a * 256 + b.toNat)), []) := by
      simp only [stepCi, stepH]
      have : (b :: t).length ≠ 1 := by cases t <;> simp_all
      rw [if_neg this]
      simp [headC]
    obtain ⟨a', ha⟩ := head_part D s m t (a * 256 + b.toNat) i (by simpa using h)
    refine ⟨a', ?_⟩
    rw [List.take_succ_cons, runCi, h1]
    simp only [List.nil_append, ha]
    rw [show (b :: t).length - (i + 1) = t.length - i by simp]
/-- Within an item's head. -/
theorem head_pre {D : Nat} {s : List Bx} {m v : Nat} (hm : m < 6) (hv : v < 18446744073709551616) (hk : keyB s = true → m = 3) (hd : 4 ≤ m → s.length < D) (i : Nat) (hi : i < (headB m v).length) :
    ∃ j, runCi D (.item s false) ((headB m v).take i) = (j, []) ∧ errCi j = 0 ∧ heldCi j = s.length := by
  cases i with
  | zero => exact ⟨_, rfl, rfl, rfl⟩
  | succ i =>
    have hlong : ∀ k : Nat, k < 4 → i + 1 < 1 + 2 ^ k → ∃ j, runCi D (.item s false) ((UInt8.ofNat (m * 32 + (24 + k)) :: bigB (2 ^ k) v).take (i + 1)) = (j, []) ∧ errCi j = 0 ∧ heldCi j = s.length := by
      intro k hk4 hik
      have h1 : stepCi D (.item s false) (UInt8.ofNat (m * 32 + (24 + k))) = (.head s (.mid m (2 ^ k) 0), []) := by
        simp only [stepCi]
        rw [byte_eq _ (by omega), first_of hm (.inl (by omega)) hk hd]
        have := step_first m (24 + k) (by omega) (by omega)
        rw [byte_eq _ (by omega)] at this
        rw [this, if_neg (by omega), if_pos (by omega), show 24 + k - 24 = k by omega]
        rfl
      obtain ⟨a', ha⟩ := head_part D s m (bigB (2 ^ k) v) 0 i (by rw [bigB_length]; omega)
      rw [bigB_length] at ha
      refine ⟨.head s (.mid m (2 ^ k - i) a'), ?_, rfl, rfl⟩
      rw [List.take_succ_cons, runCi, h1]
      simp only [List.nil_append, ha]
    rw [headB_length] at hi
    unfold headB
    rcases sizH_cases v hv with ⟨h, e⟩ | ⟨h, e⟩ | ⟨h, e⟩ | ⟨h, e⟩ | ⟨h, e⟩ <;> rw [e] at hi ⊢
    · simp at hi
    · exact hlong 0 (by decide) (by simpa using hi)
    · exact hlong 1 (by decide) (by simpa using hi)
    · exact hlong 2 (by decide) (by simpa using hi)
    · exact hlong 3 (by decide) (by simpa using hi)
/-- Within a text. -/
theorem text_pre (D : Nat) (s : List Bx) (m : Bool) : ∀ (l t : List UInt8) (u : Option (Nat × Nat × Nat)) (i : Nat), i < l.length → (m = true → wholeS (runS u l) = true) → ∃ u', runCi D (.text s m l.length t u) (l.take i) = (.text s m (l.length - i) (t ++ l.take i) u', [])
  | [], _, _, _, h, _ => absurd h (Nat.not_lt_zero _)
  | _ :: _, t, u, 0, _, _ => ⟨u, by simp [runCi]⟩
  | b :: l, t, u, i + 1, h, hw => by
    have hn : ¬ (m = true ∧ nextU m u b = none) := by
      rintro ⟨rfl, h⟩
      have := hw rfl
      simp only [nextU, if_true] at h
      rw [runS_cons, h, runS_none] at this
      cases this
    have hl : (b :: l).length ≠ 1 := by
      cases l with
      | nil => simp at h
      | cons => simp
    have h1 : stepCi D (.text s m (b :: l).length t u) b = (.text s m l.length (t ++ [b]) (nextU m u b), []) := by
      simp only [stepCi]
      rw [if_neg hn, if_neg hl]
      rfl
    obtain ⟨u', hu⟩ := text_pre D s m l (t ++ [b]) (nextU m u b) i (by simpa using h) (by rintro rfl; have := hw rfl; rw [runS_cons] at this; exact this)
    refine ⟨u', ?_⟩
    rw [List.take_succ_cons, runCi, h1]
    simp only [List.nil_append, hu]
    simp
theorem ascii_run (n : Nat) (c : UInt8) (h : c.toNat < 128) : runS st0 (List.replicate n c) = st0 := by
  induction n with
  | zero => rfl
  | succ n ih =>
    rw [List.replicate_succ, runS_cons]
    have : stepS st0 c = st0 := by
      simp only [stepS, st0, openS]
      simp [h]
    rw [this, ih]
def majT (m : Bool) : Nat := if m = true then 3 else 2
theorem majT_lt (m : Bool) : majT m < 6 := by cases m <;> decide
theorem head_text {s : List Bx} (m : Bool) {v : Nat} (hv : v ≤ 200) : headC s (.fin (majT m) v false) = if v = 0 then putC s (evTxC m []) else (.text s m v [] st0, []) := by
  have hd : decide (majT m = 3) = m := by cases m <;> rfl
  have h2 : ¬ majT m < 2 := by cases m <;> decide
  have h4 : majT m < 4 := by cases m <;> decide
  unfold headC
  simp only
  rw [if_neg h2, if_pos h4, if_neg (by simp), if_neg (by omega), hd]
theorem head_large {s : List Bx} (m : Bool) {v : Nat} (hv : 200 < v) : headC s (.fin (majT m) v false) = (.bad 5, []) := by
  have h2 : ¬ majT m < 2 := by cases m <;> decide
  have h4 : majT m < 4 := by cases m <;> decide
  unfold headC
  simp only
  rw [if_neg h2, if_pos h4, if_neg (by simp), if_pos hv]
/-- Ahead of the last byte of a text of n bytes, each below 128: nothing is told; what came is held. -/
theorem texts_pre (m : Bool) (n : Nat) (c : UInt8) (hn : n ≤ 200) (hc : c.toNat < 128) (i : Nat) (hi : i < (headB (majT m) n).length + n) :
    ∃ j, runCi 3 ci0 ((headB (majT m) n ++ List.replicate n c).take i) = (j, []) ∧ errCi j = 0 ∧ heldCi j = i - (headB (majT m) n).length := by
  by_cases h : i < (headB (majT m) n).length
  · obtain ⟨j, h1, h2, h3⟩ := head_pre (D := 3) (s := []) (majT_lt m) (show n < 18446744073709551616 by omega) (by simp [keyB]) (by simp) i h
    refine ⟨j, ?_, h2, ?_⟩
    · rw [List.take_append_of_le_length (by omega)]
      exact h1
    · rw [h3]
      simp
      omega
  · have h0 : n ≠ 0 := by omega
    have hr := head_read (D := 3) (s := []) (m := majT m) (v := n) (majT_lt m) (by omega) (by simp [keyB]) (by simp)
    rw [head_text m hn, if_neg h0] at hr
    obtain ⟨u', hu⟩ := text_pre 3 [] m (List.replicate n c) [] st0 (i - (headB (majT m) n).length) (by rw [List.length_replicate]; omega) (fun _ => by rw [ascii_run n c hc]; rfl)
    rw [List.length_replicate] at hu
    refine ⟨.text [] m (n - (i - (headB (majT m) n).length)) ([] ++ (List.replicate n c).take (i - (headB (majT m) n).length)) u', ?_, rfl, ?_⟩
    · rw [List.take_append, List.take_of_length_le (by omega), runCi_append]
      unfold ci0
      rw [hr]
      simp only [hu]
      rfl
    · simp [heldCi]
      omega
/-- At the last byte: the text; the document is at its end. -/
theorem texts_end (m : Bool) (n : Nat) (c : UInt8) (hn : n ≤ 200) (hc : c.toNat < 128) : runCi 3 ci0 (headB (majT m) n ++ List.replicate n c) = (.item [] true, [evTxC m (List.replicate n c)]) := by
  have hr := head_read (D := 3) (s := []) (m := majT m) (v := n) (majT_lt m) (by omega) (by simp [keyB]) (by simp)
  rw [head_text m hn] at hr
  rw [runCi_append]
  unfold ci0
  rw [hr]
  by_cases h0 : n = 0
  · subst h0
    cases m <;> rfl
  · rw [if_neg h0]
    have := text_read 3 [] m (List.replicate n c) [] st0 (by simp [h0]) (fun _ => by rw [ascii_run n c hc]; rfl)
    rw [List.length_replicate] at this
    simp only [this, List.nil_append]
    rfl
/-- A text that is too long: told at its head's last byte. -/
theorem texts_large (m : Bool) (n : Nat) (hn : 200 < n) (hv : n < 18446744073709551616) : runCi 3 ci0 (headB (majT m) n) = (.bad 5, []) := by
  unfold ci0
  rw [head_read (majT_lt m) hv (by simp [keyB]) (by cases m <;> simp [majT]), head_large m hn]
/-! ### Chunks -/
theorem chunk_mid (D : Nat) (s : List Bx) (m : Bool) (t : List UInt8) (j : Nat) : ∀ (l : List UInt8) (a : Nat), l ≠ [] → runCi D (.chead s m t (.mid j l.length a)) l = chunkC s m t (.fin j (valB a l) false)
  | [], _, h => absurd rfl h
  | [b], a, _ => by
    have h1 : stepH (.mid j [b].length a) b.toNat = .fin j (a * 256 + b.toNat) false := by simp [stepH]
    have h2 : stepCi D (.chead s m t (.mid j [b].length a)) b = chunkC s m t (.fin j (a * 256 + b.toNat) false) := by
      show chunkC s m t (stepH (.mid j [b].length a) b.toNat) = _
      rw [h1]
    exact one_byte h2
  | b :: c :: r, a, _ => by
    have h1 : stepCi D (.chead s m t (.mid j (b :: c :: r).length a)) b = (.chead s m t (.mid j (c :: r).length (a * 256 + b.toNat)), []) := by
      simp only [stepCi, stepH]
      rw [if_neg (by simp)]
      simp [chunkC]
    rw [runCi, h1]
    simp only [List.nil_append]
    rw [chunk_mid D s m t j (c :: r) _ (by simp)]
    simp only [valB]
theorem chunk_read {D : Nat} {s : List Bx} (m : Bool) (t : List UInt8) {v : Nat} (hv : v < 18446744073709551616) : runCi D (.open_ s m t) (headB (majT m) v) = chunkC s m t (.fin (majT m) v false) := by
  have hM : majT m = if m = true then 3 else 2 := rfl
  have hM8 := majT_lt m
  have first : ∀ l : Nat, l < 28 → stepCi D (.open_ s m t) (UInt8.ofNat (majT m * 32 + l)) = chunkC s m t (stepH .new (majT m * 32 + l)) := by
    intro l hl
    simp only [stepCi]
    rw [byte_eq _ (by omega), if_neg (by omega), if_neg (by rw [← hM]; omega)]
  have hlong : ∀ k : Nat, k < 4 → v < 256 ^ 2 ^ k → runCi D (.open_ s m t) (UInt8.ofNat (majT m * 32 + (24 + k)) :: bigB (2 ^ k) v) = chunkC s m t (.fin (majT m) v false) := by
    intro k hk4 hvk
    have h1 : stepCi D (.open_ s m t) (UInt8.ofNat (majT m * 32 + (24 + k))) = (.chead s m t (.mid (majT m) (2 ^ k) 0), []) := by
      rw [first _ (by omega)]
      have := step_first (majT m) (24 + k) (by omega) (by omega)
      rw [byte_eq _ (by omega)] at this
      rw [this, if_neg (by omega), if_pos (by omega), show 24 + k - 24 = k by omega]
      rfl
    rw [runCi, h1]
    simp only [List.nil_append]
    have h2 := chunk_mid D s m t (majT m) (bigB (2 ^ k) v) 0 (by intro h; have := congrArg List.length h; rw [bigB_length] at this; simp at this)
    rw [bigB_length, valB_big, Nat.mod_eq_of_lt hvk] at h2
    rw [h2]
  unfold headB
  rcases sizH_cases v hv with ⟨h, e⟩ | ⟨h, e⟩ | ⟨h, e⟩ | ⟨h, e⟩ | ⟨h, e⟩ <;> rw [e]
  · simp only [bigB]
    rw [runCi]
    have h1 : stepCi D (.open_ s m t) (UInt8.ofNat (majT m * 32 + v)) = chunkC s m t (.fin (majT m) v false) := by
      rw [first _ (by omega)]
      have := step_first (majT m) v (by omega) (by omega)
      rw [byte_eq _ (by omega), if_pos h] at this
      rw [this]
    rw [h1]
    simp only [runCi, List.append_nil]
  · exact hlong 0 (by decide) (by simp; omega)
  · exact hlong 1 (by decide) (by simp; omega)
  · exact hlong 2 (by decide) (by simp; omega)
  · exact hlong 3 (by decide) (by simp; omega)
/-- Within a chunk to its end. -/
theorem ctext_read (D : Nat) (s : List Bx) (m : Bool) : ∀ (l t : List UInt8) (u : Option (Nat × Nat × Nat)), l ≠ [] → runCi D (.ctext s m t l.length u) l = if m = true ∧ wholeS (runS u l) = false then (.bad 9, []) else (.open_ s m (t ++ l), [])
  | [], _, _, h => absurd rfl h
  | b :: l, t, u, _ => by
    by_cases hn : m = true ∧ nextU m u b = none
    · have h1 : stepCi D (.ctext s m t (b :: l).length u) b = (.bad 9, []) := by
        simp only [stepCi]
        rw [if_pos hn]
      have h2 : wholeS (runS u (b :: l)) = false := by
        obtain ⟨rfl, h⟩ := hn
        simp only [nextU, if_true] at h
        rw [runS_cons, h, runS_none]
        rfl
      rw [runCi, h1, runCi_bad, if_pos ⟨hn.1, h2⟩]
      rfl
    · have hun : m = true → runS u (b :: l) = runS (nextU m u b) l := by
        rintro rfl
        rfl
      cases l with
      | nil =>
        by_cases hw : m = true ∧ wholeS (nextU m u b) = false
        · have h1 : stepCi D (.ctext s m t [b].length u) b = (.bad 9, []) := by
            simp only [stepCi]
            rw [if_neg hn, if_pos (by simp), if_pos hw]
          rw [runCi, h1, if_pos ⟨hw.1, by rw [hun hw.1]; exact hw.2⟩]
          rfl
        · have h1 : stepCi D (.ctext s m t [b].length u) b = (.open_ s m (t ++ [b]), []) := by
            simp only [stepCi]
            rw [if_neg hn, if_pos (by simp), if_neg hw]
          rw [runCi, h1, if_neg (fun h => hw ⟨h.1, by rw [hun h.1] at h; exact h.2⟩)]
          rfl
      | cons c l =>
        have h1 : stepCi D (.ctext s m t (b :: c :: l).length u) b = (.ctext s m (t ++ [b]) (c :: l).length (nextU m u b), []) := by
          simp only [stepCi]
          rw [if_neg hn, if_neg (by simp)]
          rfl
        rw [runCi, h1]
        simp only [List.nil_append]
        rw [ctext_read D s m (c :: l) (t ++ [b]) (nextU m u b) (by simp)]
        by_cases hw : m = true ∧ wholeS (runS (nextU m u b) (c :: l)) = false
        · rw [if_pos hw, if_pos ⟨hw.1, by rw [hun hw.1]; exact hw.2⟩]
        · rw [if_neg hw, if_neg (fun h => hw ⟨h.1, by rw [hun h.1] at h; exact h.2⟩)]
          simp
def chunkB (m : Bool) (x : List UInt8) : List UInt8 := headB (majT m) x.length ++ x
/-- The first error of chunks behind a text so far. -/
def wantC (m : Bool) : List UInt8 → List (List UInt8) → Nat
  | _, [] => 0
  | t, x :: r => if 200 < (t ++ x).length then 5 else if m = true ∧ validD x = false then 9 else wantC m (t ++ x) r
theorem chunk_one (D : Nat) (m : Bool) (t x : List UInt8) (hx : x.length < 18446744073709551616) : runCi D (.open_ [] m t) (chunkB m x) = if 200 < (t ++ x).length then (.bad 5, []) else if m = true ∧ validD x = false then (.bad 9, []) else (.open_ [] m (t ++ x), []) := by
  unfold chunkB
  rw [runCi_append, chunk_read m t hx]
  by_cases hl : 200 < (t ++ x).length
  · have : chunkC [] m t (.fin (majT m) x.length false) = (.bad 5, []) := by
      simp only [chunkC]
      rw [if_pos (by rw [List.length_append] at hl; omega)]
    rw [this, if_pos hl, runCi_bad]
    rfl
  · rw [if_neg hl]
    by_cases h0 : x = []
    · subst h0
      have : chunkC [] m t (.fin (majT m) ([] : List UInt8).length false) = (.open_ [] m t, []) := by
        simp only [chunkC]
        rw [if_neg (by simpa using hl), if_pos (by simp)]
      rw [this, if_neg (by rintro ⟨_, h⟩; cases h)]
      simp [runCi]
    · have h1 : chunkC [] m t (.fin (majT m) x.length false) = (.ctext [] m t x.length st0, []) := by
        simp only [chunkC]
        rw [if_neg (by rw [List.length_append] at hl; omega), if_neg (by simpa using h0)]
      rw [h1]
      simp only [List.nil_append]
      rw [ctext_read D [] m x t st0 h0, valid_run]
theorem chunks_run (D : Nat) (m : Bool) : ∀ (ls : List (List UInt8)) (t : List UInt8), (∀ x ∈ ls, x.length < 18446744073709551616) →
    runCi D (.open_ [] m t) (ls.flatMap (chunkB m)) = (if wantC m t ls = 0 then .open_ [] m (t ++ ls.flatten) else .bad (wantC m t ls), [])
  | [], t, _ => by simp [runCi, wantC]
  | x :: r, t, h => by
    rw [List.flatMap_cons, runCi_append, chunk_one D m t x (h x (by simp))]
    simp only [wantC]
    by_cases h1 : 200 < (t ++ x).length
    · simp only [if_pos h1, runCi_bad]
      rfl
    · simp only [if_neg h1]
      by_cases h2 : m = true ∧ validD x = false
      · simp only [if_pos h2, runCi_bad]
        rfl
      · simp only [if_neg h2]
        rw [chunks_run D m r (t ++ x) (fun y hy => h y (by simp [hy]))]
        simp
theorem wantC_snoc (m : Bool) (x : List UInt8) : ∀ (ls : List (List UInt8)) (t : List UInt8), wantC m t (ls ++ [x]) = if wantC m t ls ≠ 0 then wantC m t ls else if 200 < (t ++ ls.flatten ++ x).length then 5 else if m = true ∧ validD x = false then 9 else 0
  | [], t => by simp [wantC]
  | y :: r, t => by
    have hc : ∀ z, wantC m t (y :: z) = if 200 < (t ++ y).length then 5 else if m = true ∧ validD y = false then 9 else wantC m (t ++ y) z := fun _ => rfl
    rw [List.cons_append]
    by_cases h1 : 200 < (t ++ y).length
    · have e : ∀ z, wantC m t (y :: z) = 5 := fun z => by rw [hc, if_pos h1]
      rw [e, e]
      rfl
    · by_cases h2 : m = true ∧ validD y = false
      · have e : ∀ z, wantC m t (y :: z) = 9 := fun z => by rw [hc, if_neg h1, if_pos h2]
        rw [e, e]
        rfl
      · have e : ∀ z, wantC m t (y :: z) = wantC m (t ++ y) z := fun z => by rw [hc, if_neg h1, if_neg h2]
        rw [e, e, wantC_snoc m x r (t ++ y)]
        simp
theorem chunks_all (m : Bool) (ls : List (List UInt8)) (h : ∀ x ∈ ls, x.length < 18446744073709551616) :
    allCi 2 (UInt8.ofNat (majT m * 32 + 31) :: ls.flatMap (chunkB m)) = ([], if wantC m [] ls = 0 then 3 else wantC m [] ls) ∧
    allCi 2 (UInt8.ofNat (majT m * 32 + 31) :: ls.flatMap (chunkB m) ++ [255]) = (if wantC m [] ls = 0 then ([evTxC m ls.flatten], 0) else ([], wantC m [] ls)) := by
  have h1 : stepCi 2 ci0 (UInt8.ofNat (majT m * 32 + 31)) = (.open_ [] m [], []) := by cases m <;> rfl
  have h2 := chunks_run 2 m ls [] h
  have h3 : runCi 2 ci0 (UInt8.ofNat (majT m * 32 + 31) :: ls.flatMap (chunkB m)) = (if wantC m [] ls = 0 then .open_ [] m ls.flatten else .bad (wantC m [] ls), []) := by
    rw [runCi, h1, h2]
    simp
  constructor
  · unfold allCi
    rw [h3]
    by_cases h0 : wantC m [] ls = 0
    · rw [if_pos h0, if_pos h0]
      rfl
    · rw [if_neg h0, if_neg h0]
      rfl
  · unfold allCi
    rw [runCi_append, h3]
    by_cases h0 : wantC m [] ls = 0
    · rw [if_pos h0, if_pos h0]
      rfl
    · rw [if_neg h0, if_neg h0, runCi_bad]
      rfl
end Go.Proofs.Ytgknpheefbfnlaa
/-
  NO PROGRAM NEEDED: CBOR's reader's places stay what they may be; what it tells are parts, tidy; how many they are; a document that is not at its end.
-/
namespace Go.Proofs.Ytgknpheefbfnlaa
open Go.Lib
def HdOk : Hd → Prop
  | .mid _ n v => 1 ≤ n ∧ n ≤ 8 ∧ v < 256 ^ (8 - n)
  | .fin _ v _ => v < 18446744073709551616
  | .bad e => e = 2 ∨ e = 14
  | .new => True
theorem hd_step {h : Hd} {b : Nat} (hb : b < 256) (ho : HdOk h) : HdOk (stepH h b) := by
  cases h with
  | bad e => exact ho
  | fin m v o => exact .inr rfl
  | new =>
    simp only [stepH]
    split
    · show b % 32 < _
      omega
    · split
      · have hk : b % 32 - 24 = 0 ∨ b % 32 - 24 = 1 ∨ b % 32 - 24 = 2 ∨ b % 32 - 24 = 3 := by omega
        rcases hk with h | h | h | h <;> rw [h] <;> exact ⟨by decide, by decide, by decide⟩
      · split
        · show (0 : Nat) < _
          omega
        · exact .inl rfl
  | mid m n v =>
    obtain ⟨h1, h2, h3⟩ := ho
    have hn : n = 1 ∨ n = 2 ∨ n = 3 ∨ n = 4 ∨ n = 5 ∨ n = 6 ∨ n = 7 ∨ n = 8 := by omega
    simp only [stepH]
    rcases hn with rfl | rfl | rfl | rfl | rfl | rfl | rfl | rfl
    · rw [if_pos rfl]
      show v * 256 + b < 18446744073709551616
      have h3 : v < 256 ^ 7 := h3
      omega
    all_goals
      rw [if_neg (by decide)]
      refine ⟨by decide, by decide, ?_⟩
      simp at h3 ⊢
      omega
def BxOk (s : List Bx) : Prop := ∀ b ∈ s, -1 ≤ b.c ∧ b.c ≤ 1000000
theorem BxOk.inc {s : List Bx} (h : BxOk s) : BxOk (incB s) := by
  cases s with
  | nil => exact h
  | cons x r =>
    intro b hb
    rcases List.mem_cons.1 hb with rfl | hb
    · exact h x (by simp)
    · exact h b (by simp [hb])
theorem BxOk.rest : ∀ {s : List Bx}, BxOk s → BxOk (restC s)
  | [], h => h
  | x :: r, h => by
    unfold restC
    split
    · exact BxOk.rest (fun b hb => h b (by simp [hb]))
    · exact h
theorem inc_len (s : List Bx) : (incB s).length = s.length := by cases s <;> rfl
/-- The reader's place is one that may be. -/
def WfCi (D : Nat) : Ci → Prop
  | .bad e => e ≠ 0 ∧ e ≠ 3
  | .item s dn => (dn = true → s = []) ∧ BxOk s ∧ s.length ≤ D
  | .head s h => (∃ m n v, h = .mid m n v) ∧ HdOk h ∧ BxOk s ∧ s.length ≤ D ∧ (4 ≤ majH h → s.length < D)
  | .text s _ n t _ => 1 ≤ n ∧ t.length + n ≤ 200 ∧ BxOk s ∧ s.length ≤ D
  | .open_ s _ t => t.length ≤ 200 ∧ BxOk s ∧ s.length ≤ D
  | .chead s _ t h => (∃ m n v, h = .mid m n v) ∧ HdOk h ∧ t.length ≤ 200 ∧ BxOk s ∧ s.length ≤ D
  | .ctext s _ t n _ => 1 ≤ n ∧ t.length + n ≤ 200 ∧ BxOk s ∧ s.length ≤ D
/-- How many containers are open. -/
def stkC : Ci → Nat
  | .bad _ => 0
  | .item s _ => s.length
  | .head s _ => s.length
  | .text s _ _ _ _ => s.length
  | .open_ s _ _ => s.length
  | .chead s _ _ _ => s.length
  | .ctext s _ _ _ _ => s.length
/-- A part as it is told. -/
def ToldC (e : Ev) : Prop := mayE e ∧ tidyE e = e ∧ EvOk e ∧ e.t.size ≤ 200
/-- What a step tells, and where it leaves. -/
structure FineC (D n : Nat) (r : Ci × List Ev) : Prop where
  wf : WfCi D r.1
  told : ∀ e ∈ r.2, ToldC e
  len : r.2.length + stkC r.1 ≤ n + 2
theorem told_end : ToldC evEnd := ⟨by decide, rfl, ⟨by decide, by decide, by decide, by decide⟩, by decide⟩
theorem rest_num : ∀ s : List Bx, (restC s).length + numC s = s.length
  | [] => rfl
  | b :: r => by
    unfold restC numC
    split
    · have := rest_num r
      simp only [List.length_cons]
      omega
    · simp
theorem fine_bad {D n : Nat} (e : Nat) (h0 : e ≠ 0) (h3 : e ≠ 3) : FineC D n (.bad e, []) := ⟨⟨h0, h3⟩, by simp, by simp [stkC]⟩
theorem fine_at {D n : Nat} {s : List Bx} {l : List Ev} (hs : BxOk s) (hd : s.length ≤ D) (hl : ∀ e ∈ l, ToldC e) (hn : l.length + s.length ≤ n + 2) : FineC D n (atC s, l ++ endsC s) := by
  have h1 := rest_num s
  have h2 := rest_len s
  refine ⟨⟨fun h => by simpa using h, hs.rest, by omega⟩, fun e he => ?_, ?_⟩
  · rcases List.mem_append.1 he with he | he
    · exact hl e he
    · unfold endsC at he
      rw [List.eq_of_mem_replicate he]
      exact told_end
  · simp only [List.length_append, endsC, List.length_replicate, atC, stkC]
    omega
theorem fine_put {D : Nat} {s : List Bx} {e : Ev} (hs : BxOk s) (hd : s.length ≤ D) (he : ToldC e) : FineC D s.length (putC s e) :=
  fine_at (l := [e]) hs.inc (by rw [inc_len]; exact hd) (by simpa using he) (by rw [inc_len]; simp; omega)
theorem told_begin (m : Bool) {c : Int} (h : -1 ≤ c ∧ c ≤ 1000000) : ToldC (evBegC m c) := by
  refine ⟨⟨?_, ?_, fun _ => h.1⟩, ?_, ⟨?_, ?_, ?_, ?_⟩, Nat.zero_le _⟩
  · cases m <;> simp [evBegC]
  · cases m <;> simp [evBegC]
  · cases m <;> simp [evBegC, tidyE]
  · cases m <;> simp [evBegC]
  · simp [evBegC]
  · show -9223372036854775808 ≤ c ∧ c ≤ 9223372036854775807
    omega
  · exact Nat.zero_le _
theorem fine_begin {D : Nat} {s : List Bx} (m : Bool) {c : Int} (hs : BxOk s) (hd : s.length < D) (h : -1 ≤ c ∧ c ≤ 1000000) : FineC D s.length (beginC s m c) := by
  have hb : BxOk (⟨m, c, 0⟩ :: incB s) := by
    intro b hb
    rcases List.mem_cons.1 hb with rfl | hb
    · exact h
    · exact hs.inc b hb
  exact fine_at (l := [evBegC m c]) hb (by rw [List.length_cons, inc_len]; omega) (by simpa using told_begin m h) (by simp only [List.length_cons, List.length_nil, inc_len]; omega)
theorem told_text (m : Bool) {t : List UInt8} (h : t.length ≤ 200) : ToldC (evTxC m t) := by
  have hz : (⟨t.toArray⟩ : ByteArray).size = t.length := by simp [ByteArray.size]
  refine ⟨⟨?_, ?_, fun h => ?_⟩, ?_, ⟨?_, ?_, ?_, ?_⟩, ?_⟩
  · cases m <;> simp [evTxC]
  · cases m <;> simp [evTxC]
  · cases m <;> simp [evTxC] at h
  · cases m <;> simp [evTxC, tidyE]
  · cases m <;> simp [evTxC]
  · simp [evTxC]
  · simp [evTxC]
  · show (⟨t.toArray⟩ : ByteArray).size ≤ _
    omega
  · show (⟨t.toArray⟩ : ByteArray).size ≤ _
    omega
theorem told_int (y : Bool) {v : Nat} (h : v < 18446744073709551616) : ToldC (evIntC y v) := ⟨⟨by simp [evIntC], by simp [evIntC], fun h => by simp [evIntC] at h⟩, by simp [evIntC, tidyE], ⟨by simp [evIntC], h, by simp [evIntC], Nat.zero_le _⟩, Nat.zero_le _⟩
theorem told_bool (y : Bool) : ToldC (evBoolC y) := ⟨⟨by simp [evBoolC], by simp [evBoolC], fun h => by simp [evBoolC] at h⟩, by simp [evBoolC, tidyE], ⟨by simp [evBoolC], by simp [evBoolC], by simp [evBoolC], Nat.zero_le _⟩, Nat.zero_le _⟩
theorem told_null : ToldC evNull := ⟨by decide, rfl, ⟨by decide, by decide, by decide, by decide⟩, by decide⟩
theorem fine_head {D : Nat} {s : List Bx} {h : Hd} (hs : BxOk s) (hd : s.length ≤ D) (ho : HdOk h) (hn : h ≠ .new) (h4 : 4 ≤ majH h → s.length < D) : FineC D s.length (headC s h) := by
  cases h with
  | new => exact absurd rfl hn
  | bad e =>
    refine fine_bad e ?_ ?_ <;> rcases ho with rfl | rfl <;> decide
  | mid m n v => exact ⟨⟨⟨m, n, v, rfl⟩, ho, hs, hd, h4⟩, by simp [headC], by simp [headC, stkC]⟩
  | fin m v o =>
    unfold headC
    simp only
    by_cases c1 : m < 2
    · rw [if_pos c1]
      exact fine_put hs hd (told_int _ ho)
    · rw [if_neg c1]
      by_cases c2 : m < 4
      · rw [if_pos c2]
        by_cases c3 : o = true
        · rw [if_pos c3]
          exact ⟨⟨by simp, hs, hd⟩, by simp, by simp [stkC]⟩
        · rw [if_neg c3]
          by_cases c4 : 200 < v
          · rw [if_pos c4]
            exact fine_bad 5 (by decide) (by decide)
          · rw [if_neg c4]
            by_cases c5 : v = 0
            · rw [if_pos c5]
              exact fine_put hs hd (told_text _ (by simp))
            · rw [if_neg c5]
              exact ⟨⟨by omega, by simp; omega, hs, hd⟩, by simp, by simp [stkC]⟩
      · rw [if_neg c2]
        have hdd : s.length < D := h4 (by show 4 ≤ m; omega)
        by_cases c3 : o = true
        · rw [if_pos c3]
          exact fine_begin _ hs hdd (by omega)
        · rw [if_neg c3]
          by_cases c4 : 1000000 < v
          · rw [if_pos c4]
            exact fine_bad 7 (by decide) (by decide)
          · rw [if_neg c4]
            exact fine_begin _ hs hdd (by omega)
theorem fine_first {D : Nat} {s : List Bx} {dn : Bool} (b : Nat) (hb : b < 256) (hs : BxOk s) (hd : s.length ≤ D) : FineC D s.length (firstC D s dn b) := by
  unfold firstC
  by_cases c1 : dn = true ∨ (28 ≤ b % 32 ∧ b % 32 ≤ 30) ∨ (b % 32 = 31 ∧ (b / 32 = 0 ∨ b / 32 = 1 ∨ b / 32 = 6))
  · rw [if_pos c1]
    exact fine_bad 2 (by decide) (by decide)
  rw [if_neg c1]
  by_cases c2 : b = 255
  · rw [if_pos c2]
    cases s with
    | nil => exact fine_bad 2 (by decide) (by decide)
    | cons x r =>
      simp only
      split
      · exact fine_bad 2 (by decide) (by decide)
      · have hr : BxOk r := fun b hb => hs b (by simp [hb])
        simp only [List.length_cons] at hd
        exact fine_at (l := [evEnd]) hr (by omega) (by simpa using told_end) (by simp only [List.length_cons, List.length_nil]; omega)
  rw [if_neg c2]
  by_cases c3 : keyB s = true ∧ b / 32 ≠ 3
  · rw [if_pos c3]
    exact fine_bad 8 (by decide) (by decide)
  rw [if_neg c3]
  by_cases c4 : b / 32 = 6
  · rw [if_pos c4]
    exact fine_bad 8 (by decide) (by decide)
  rw [if_neg c4]
  by_cases c5 : b / 32 = 7
  · rw [if_pos c5]
    split
    · exact fine_put hs hd told_null
    · split
      · exact fine_put hs hd (told_bool _)
      · split
        · exact fine_bad 6 (by decide) (by decide)
        · exact fine_bad 8 (by decide) (by decide)
  rw [if_neg c5]
  by_cases c6 : (b / 32 = 4 ∨ b / 32 = 5) ∧ D ≤ s.length
  · rw [if_pos c6]
    exact fine_bad 4 (by decide) (by decide)
  rw [if_neg c6]
  have hn := stepH_new (h := .new) (b := b) (.inl rfl)
  refine fine_head hs hd (hd_step hb trivial) hn ?_
  rw [maj_new (fun h => c1 (.inr (.inl h)))]
  intro h4
  by_cases h : s.length < D
  · exact h
  · exact absurd ⟨by omega, by omega⟩ c6
theorem fine_chunk {D : Nat} {s : List Bx} {m : Bool} {t : List UInt8} {h : Hd} (hs : BxOk s) (hd : s.length ≤ D) (ht : t.length ≤ 200) (ho : HdOk h) (hn : h ≠ .new) : FineC D s.length (chunkC s m t h) := by
  cases h with
  | new => exact absurd rfl hn
  | bad e =>
    refine fine_bad e ?_ ?_ <;> rcases ho with rfl | rfl <;> decide
  | mid a n v => exact ⟨⟨⟨a, n, v, rfl⟩, ho, ht, hs, hd⟩, by simp [chunkC], by simp [chunkC, stkC]⟩
  | fin a v o =>
    simp only [chunkC]
    by_cases c1 : 200 < v + t.length
    · rw [if_pos c1]
      exact fine_bad 5 (by decide) (by decide)
    · rw [if_neg c1]
      by_cases c2 : v = 0
      · rw [if_pos c2]
        exact ⟨⟨ht, hs, hd⟩, by simp, by simp [stkC]⟩
      · rw [if_neg c2]
        exact ⟨⟨by omega, by omega, hs, hd⟩, by simp, by simp [stkC]⟩
/-- A STEP. -/
theorem fine_step {D : Nat} {s : Ci} (b : UInt8) (h : WfCi D s) : FineC D (stkC s) (stepCi D s b) := by
  have hb : b.toNat < 256 := b.toNat_lt
  cases s with
  | bad e => exact ⟨h, by simp [stepCi], by simp [stepCi, stkC]⟩
  | item s dn => exact fine_first b.toNat hb h.2.1 h.2.2
  | head s hd =>
    obtain ⟨⟨m, n, v, rfl⟩, h1, h2, h3, h4⟩ := h
    refine fine_head h2 h3 (hd_step hb h1) (stepH_new (.inr ⟨m, n, v, rfl⟩)) ?_
    have : majH (stepH (.mid m n v) b.toNat) = m := by simp only [stepH]; split <;> rfl
    rw [this]
    exact h4
  | text s m n t u =>
    obtain ⟨h1, h2, h3, h4⟩ := h
    simp only [stepCi]
    by_cases c1 : m = true ∧ nextU m u b = none
    · rw [if_pos c1]
      exact fine_bad 9 (by decide) (by decide)
    rw [if_neg c1]
    by_cases c2 : n = 1
    · rw [if_pos c2]
      split
      · exact fine_bad 9 (by decide) (by decide)
      · exact fine_put h3 h4 (told_text _ (by simp; omega))
    · rw [if_neg c2]
      exact ⟨⟨by omega, by simp; omega, h3, h4⟩, by simp, by simp [stkC]⟩
  | open_ s m t =>
    obtain ⟨h1, h2, h3⟩ := h
    simp only [stepCi]
    by_cases c1 : b.toNat = 255
    · rw [if_pos c1]
      exact fine_put h2 h3 (told_text _ h1)
    rw [if_neg c1]
    by_cases c2 : b.toNat / 32 ≠ (if m = true then 3 else 2) ∨ 28 ≤ b.toNat % 32
    · rw [if_pos c2]
      exact fine_bad 2 (by decide) (by decide)
    · rw [if_neg c2]
      exact fine_chunk h2 h3 h1 (hd_step (h := .new) hb trivial) (stepH_new (.inl rfl))
  | chead s m t hd =>
    obtain ⟨⟨a, n, v, rfl⟩, h1, h2, h3, h4⟩ := h
    exact fine_chunk h3 h4 h2 (hd_step hb h1) (stepH_new (.inr ⟨a, n, v, rfl⟩))
  | ctext s m t n u =>
    obtain ⟨h1, h2, h3, h4⟩ := h
    simp only [stepCi]
    by_cases c1 : m = true ∧ nextU m u b = none
    · rw [if_pos c1]
      exact fine_bad 9 (by decide) (by decide)
    rw [if_neg c1]
    by_cases c2 : n = 1
    · rw [if_pos c2]
      split
      · exact fine_bad 9 (by decide) (by decide)
      · exact ⟨⟨by simp; omega, h3, h4⟩, by simp, by simp [stkC]⟩
    · rw [if_neg c2]
      exact ⟨⟨by omega, by simp; omega, h3, h4⟩, by simp, by simp [stkC]⟩
theorem wf_ci0 (D : Nat) : WfCi D ci0 := ⟨fun _ => rfl, by intro b hb; simp at hb, Nat.zero_le _⟩
theorem fine_run (D : Nat) : ∀ (l : List UInt8) (s : Ci), WfCi D s → WfCi D (runCi D s l).1 ∧ (∀ e ∈ (runCi D s l).2, ToldC e) ∧ (runCi D s l).2.length + stkC (runCi D s l).1 ≤ stkC s + 2 * l.length
  | [], s, h => ⟨h, by simp [runCi], by simp [runCi]⟩
  | b :: l, s, h => by
    obtain ⟨h1, h2, h3⟩ := fine_step b h
    obtain ⟨g1, g2, g3⟩ := fine_run D l _ h1
    refine ⟨g1, fun e he => ?_, ?_⟩
    · simp only [runCi] at he
      rcases List.mem_append.1 he with he | he
      · exact h2 e he
      · exact g2 e he
    · simp only [runCi, List.length_append, List.length_cons]
      omega
/-- All that is read: parts; at most two a byte. -/
theorem all_told (D : Nat) (l : List UInt8) : (∀ e ∈ (allCi D l).1, ToldC e) ∧ (allCi D l).1.length ≤ 2 * l.length := by
  obtain ⟨_, h2, h3⟩ := fine_run D l ci0 (wf_ci0 D)
  refine ⟨h2, ?_⟩
  have : stkC ci0 = 0 := rfl
  unfold allCi
  simp only
  omega
/-- What is not at its end is no document. -/
theorem all_moreC (D : Nat) (hD : D ≤ 16) (l : List UInt8) (h : (allCi D l).2 = 3) : checkE (allCi D l).1 = 3 := by
  have hi := goes_all D hD l (.live []) ci0 (by simp [InvC, ci0]) trivial
  obtain ⟨hw, _, _⟩ := fine_run D l ci0 (wf_ci0 D)
  unfold allCi at h ⊢
  simp only at h ⊢
  have hl : ∀ s, runC (.live []) (runCi D ci0 l).2 = .live s → checkE (runCi D ci0 l).2 = 3 := fun s hs => by
    unfold checkE
    rw [hs]
    rfl
  generalize runCi D ci0 l = r at *
  obtain ⟨s, ps⟩ := r
  simp only at *
  cases s with
  | bad e =>
    obtain ⟨_, h3⟩ := hw
    exact absurd h h3
  | item s dn =>
    cases dn with
    | true => cases h
    | false => exact hl s (by simpa [InvC] using hi)
  | head s _ => exact hl s hi.1
  | text s _ _ _ _ => exact hl s hi.1
  | open_ s _ _ => exact hl s hi.1
  | chead s _ _ _ => exact hl s hi.1
  | ctext s _ _ _ _ => exact hl s hi.1
end Go.Proofs.Ytgknpheefbfnlaa
