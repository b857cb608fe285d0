/-
  NO PROGRAM NEEDED: parts of documents; whether parts are one document (a machine over a stack of open containers); cuts, wraps, depths.
-/
import Derived.Test.YtkfidnfnehnhoaaWin
namespace Go.Proofs.Ytkfidnfnehnhoaa
open Go.Lib
/-- A part. -/
structure Ev where
  k : Int
  y : Bool
  m : Nat
  t : ByteArray
  c : Int
/-- One that may be. -/
def mayE (e : Ev) : Prop := 0 ≤ e.k ∧ e.k ≤ 7 ∧ (e.k = 5 ∨ e.k = 6 → -1 ≤ e.c)
instance (e : Ev) : Decidable (mayE e) := by unfold mayE; infer_instance
/-- A part without what its kind has not. -/
def tidyE (e : Ev) : Ev := if e.k = 1 then ⟨1, e.y, 0, ⟨#[]⟩, 0⟩ else if e.k = 2 then ⟨2, e.y, e.m, ⟨#[]⟩, 0⟩ else if e.k = 3 ∨ e.k = 4 then ⟨e.k, false, 0, e.t, 0⟩ else if e.k = 5 ∨ e.k = 6 then ⟨e.k, false, 0, ⟨#[]⟩, e.c⟩ else ⟨e.k, false, 0, ⟨#[]⟩, 0⟩
/-- An open container: a map or not, its count, how many parts it has. -/
structure Bx where
  map : Bool
  c : Int
  have_ : Nat
deriving DecidableEq
/-- May it not be at its end? -/
def shutB (b : Bx) : Prop := (0 ≤ b.c ∧ (b.have_ : Int) ≠ (if b.map then 2 * b.c else b.c)) ∨ (b.map = true ∧ b.have_ % 2 = 1)
instance (b : Bx) : Decidable (shutB b) := by unfold shutB; infer_instance
/-- The parts so far: wrong; within open containers (the last opened first); one document. -/
inductive Ck
  | bad (e : Nat)
  | live (s : List Bx)
  | done
deriving DecidableEq
/-- A part within a container. -/
def incB : List Bx → List Bx
  | [] => []
  | b :: r => ⟨b.map, b.c, b.have_ + 1⟩ :: r
/-- Must a key come? -/
def keyB : List Bx → Bool
  | [] => false
  | b :: _ => b.map && b.have_ % 2 == 0
def stepC : Ck → Ev → Ck
  | .bad f, _ => .bad f
  | .done, _ => .bad 2
  | .live s, e =>
    if ¬ mayE e then .bad 2
    else if e.k = 7 then
      match s with
      | [] => .bad 2
      | b :: r => if shutB b then .bad 2 else if r = [] then .done else .live r
    else if keyB s = true ∧ e.k ≠ 3 then .bad 8
    else if e.k = 5 ∨ e.k = 6 then (if 16 ≤ s.length then .bad 4 else .live (⟨decide (e.k = 6), e.c, 0⟩ :: incB s))
    else if s = [] then .done else .live (incB s)
def runC (s : Ck) (l : List Ev) : Ck := l.foldl stepC s
/-- What Check answers. -/
def errC : Ck → Nat
  | .bad e => e
  | .live _ => 3
  | .done => 0
def checkE (l : List Ev) : Nat := errC (runC (.live []) l)
theorem runC_cons (s : Ck) (e : Ev) (l : List Ev) : runC s (e :: l) = runC (stepC s e) l := rfl
theorem runC_append (s : Ck) (l k : List Ev) : runC s (l ++ k) = runC (runC s l) k := by unfold runC; rw [List.foldl_append]
theorem runC_bad (f : Nat) (l : List Ev) : runC (.bad f) l = .bad f := by
  induction l with
  | nil => rfl
  | cons e l ih => exact ih
/-- The errors that there are. -/
def WfC : Ck → Prop
  | .bad e => e = 2 ∨ e = 4 ∨ e = 8
  | _ => True
theorem wf_stepC (s : Ck) (e : Ev) (h : WfC s) : WfC (stepC s e) := by
  cases s with
  | bad f => exact h
  | done => exact .inl rfl
  | live s =>
    simp only [stepC]
    split
    · exact .inl rfl
    · split
      · cases s with
        | nil => exact .inl rfl
        | cons b r =>
          simp only []
          split
          · exact .inl rfl
          · split <;> trivial
      · split
        · exact .inr (.inr rfl)
        · split
          · split
            · exact .inr (.inl rfl)
            · trivial
          · split <;> trivial
theorem wf_runC (l : List Ev) : ∀ s, WfC s → WfC (runC s l) := by
  induction l with
  | nil => exact fun s h => h
  | cons e l ih => exact fun s h => ih _ (wf_stepC s e h)
theorem errC_zero {s : Ck} (h : WfC s) (he : errC s = 0) : s = .done := by
  cases s with
  | bad e =>
    have : e = 0 := he
    rcases h with h | h | h <;> omega
  | live s => simp [errC] at he
  | done => rfl
theorem check_zero {l : List Ev} (h : checkE l = 0) : runC (.live []) l = .done := errC_zero (wf_runC l _ trivial) h
theorem runC_done {l : List Ev} (h : runC .done l = .done) : l = [] := by
  cases l with
  | nil => rfl
  | cons e l =>
    rw [runC_cons, show stepC .done e = .bad 2 from rfl, runC_bad] at h
    cases h
/-- The beginning of a document is not at its end. -/
theorem check_cut (l : List Ev) (h : checkE l = 0) (k : Nat) (hk : k < l.length) : checkE (l.take k) = 3 := by
  have h1 := check_zero h
  rw [← List.take_append_drop k l, runC_append] at h1
  unfold checkE
  cases hs : runC (.live []) (l.take k) with
  | bad f => rw [hs, runC_bad] at h1; cases h1
  | live s => rfl
  | done =>
    rw [hs] at h1
    have := congrArg List.length (runC_done h1)
    simp at this
    omega
/-- Behind a document nothing more may come. -/
theorem check_more (l : List Ev) (e : Ev) (h : checkE l = 0) : checkE (l ++ [e]) = 2 := by
  unfold checkE
  rw [runC_append, check_zero h]
  rfl
/-- How deep parts are in one another: now, and at most (as the statement reckons it). -/
def deepS (d : Int × Int) (e : Ev) : Int × Int := if e.k = 5 ∨ e.k = 6 then (d.1 + 1, max d.2 (d.1 + 1)) else if e.k = 7 then (d.1 - 1, d.2) else d
def deepR (d : Int × Int) (l : List Ev) : Int × Int := l.foldl deepS d
theorem deepR_cons (d : Int × Int) (e : Ev) (l : List Ev) : deepR d (e :: l) = deepR (deepS d e) l := rfl
theorem deepR_le (l : List Ev) : ∀ d : Int × Int, d.2 ≤ (deepR d l).2 := by
  induction l with
  | nil => exact fun d => Int.le_refl _
  | cons e l ih =>
    intro d
    rw [deepR_cons]
    refine Int.le_trans ?_ (ih _)
    unfold deepS
    split
    · exact Int.le_max_left _ _
    · split <;> exact Int.le_refl _
/-- The stack beneath which a box lies. -/
def onB (B : Bx) (s : List Bx) : List Bx := s ++ [B]
/-- A document within one more container: it goes its way there, unless it is too deep. -/
theorem goes_in (B : Bx) (hB : B.map = false) : ∀ (l : List Ev) (s : List Bx) (most : Int), s ≠ [] → most ≤ 15 → (s.length : Int) ≤ 15 → runC (.live s) l = .done →
    runC (.live (onB B s)) l = if 16 ≤ (deepR ((s.length : Int), most) l).2 then .bad 4 else .live [B]
  | [], s, most, hs, _, _, h => by simp [runC] at h
  | e :: l, s, most, hs, hm, hl, h => by
    rw [runC_cons] at h ⊢
    rw [deepR_cons]
    have hne : onB B s ≠ [] := by simp [onB]
    have hlen : (onB B s).length = s.length + 1 := by simp [onB]
    have hkey : keyB (onB B s) = keyB s := by
      cases s with
      | nil => exact absurd rfl hs
      | cons b r => rfl
    have hinc : incB (onB B s) = onB B (incB s) := by
      cases s with
      | nil => exact absurd rfl hs
      | cons b r => rfl
    have hincl : (incB s).length = s.length := by cases s <;> rfl
    have hincn : incB s ≠ [] := by
      cases s with
      | nil => exact absurd rfl hs
      | cons b r => simp [incB]
    by_cases hmay : mayE e
    · by_cases h7 : e.k = 7
      · have h56 : ¬ (e.k = 5 ∨ e.k = 6) := by omega
        have hd : deepS ((s.length : Int), most) e = ((s.length : Int) - 1, most) := by
          unfold deepS
          rw [if_neg h56, if_pos h7]
        cases s with
        | nil => exact absurd rfl hs
        | cons b r =>
          have e1 : stepC (.live (b :: r)) e = if shutB b then .bad 2 else if r = [] then .done else .live r := by
            simp only [stepC]
            rw [if_neg (by simpa using hmay), if_pos h7]
          have e2 : stepC (.live (onB B (b :: r))) e = if shutB b then .bad 2 else .live (onB B r) := by
            simp only [stepC, onB, List.cons_append]
            rw [if_neg (by simpa using hmay), if_pos h7]
            simp
          rw [e1] at h
          rw [e2, hd]
          by_cases hsb : shutB b
          · rw [if_pos hsb, runC_bad] at h
            cases h
          · rw [if_neg hsb] at h ⊢
            by_cases hr : r = []
            · rw [if_pos hr] at h
              have hl0 := runC_done h
              subst hl0 hr
              have : ¬ (16 : Int) ≤ (deepR (((([b] : List Bx).length : Nat) : Int) - 1, most) []).2 := by simp [deepR]; omega
              rw [if_neg this]
              rfl
            · rw [if_neg hr] at h
              have hl' : ((r.length : Nat) : Int) ≤ 15 := by simp at hl; omega
              have ih := goes_in B hB l r most hr hm hl' h
              have e3 : (((b :: r).length : Nat) : Int) - 1 = (r.length : Int) := by simp
              rw [e3]
              exact ih
      · by_cases hk : keyB s = true ∧ e.k ≠ 3
        · have e1 : stepC (.live s) e = .bad 8 := by
            simp only [stepC]
            rw [if_neg (by simpa using hmay), if_neg h7, if_pos hk]
          rw [e1, runC_bad] at h
          cases h
        · by_cases h56 : e.k = 5 ∨ e.k = 6
          · have hd : deepS ((s.length : Int), most) e = ((s.length : Int) + 1, max most ((s.length : Int) + 1)) := by
              unfold deepS
              rw [if_pos h56]
            have e1 : stepC (.live s) e = .live (⟨decide (e.k = 6), e.c, 0⟩ :: incB s) := by
              simp only [stepC]
              rw [if_neg (by simpa using hmay), if_neg h7, if_neg hk, if_pos h56, if_neg (by omega)]
            have e2 : stepC (.live (onB B s)) e = if 15 ≤ s.length then .bad 4 else .live (onB B (⟨decide (e.k = 6), e.c, 0⟩ :: incB s)) := by
              simp only [stepC, hkey, hlen, hinc]
              rw [if_neg (by simpa using hmay), if_neg h7, if_neg hk, if_pos h56]
              by_cases h15 : 15 ≤ s.length
              · rw [if_pos h15, if_pos (by omega)]
              · rw [if_neg h15, if_neg (by omega)]
                rfl
            rw [e1] at h
            rw [e2, hd]
            by_cases h15 : 15 ≤ s.length
            · rw [if_pos h15, runC_bad]
              have := deepR_le l ((s.length : Int) + 1, max most ((s.length : Int) + 1))
              simp only [] at this
              rw [if_pos (by omega)]
            · rw [if_neg h15]
              have ih := goes_in B hB l (⟨decide (e.k = 6), e.c, 0⟩ :: incB s) (max most ((s.length : Int) + 1)) (by simp) (by omega) (by rw [List.length_cons, hincl]; omega) h
              rw [List.length_cons, hincl] at ih
              exact ih
          · have hd : deepS ((s.length : Int), most) e = ((s.length : Int), most) := by
              unfold deepS
              rw [if_neg h56, if_neg h7]
            have e1 : stepC (.live s) e = .live (incB s) := by
              simp only [stepC]
              rw [if_neg (by simpa using hmay), if_neg h7, if_neg hk, if_neg h56, if_neg hs]
            have e2 : stepC (.live (onB B s)) e = .live (onB B (incB s)) := by
              simp only [stepC, hkey, hinc]
              rw [if_neg (by simpa using hmay), if_neg h7, if_neg hk, if_neg h56, if_neg hne]
            rw [e1] at h
            rw [e2, hd]
            have ih := goes_in B hB l (incB s) most hincn hm (by rw [hincl]; exact hl) h
            rw [hincl] at ih
            exact ih
    · have e1 : stepC (.live s) e = .bad 2 := by
        simp only [stepC]
        rw [if_pos (by simpa using hmay)]
      rw [e1, runC_bad] at h
      cases h
/-- A document, whole, within an array that has nothing else so far. -/
theorem run_whole (c : Int) (l : List Ev) (h : runC (.live []) l = .done) : runC (.live [⟨false, c, 0⟩]) l = if 16 ≤ (deepR (0, 0) l).2 then .bad 4 else .live [⟨false, c, 1⟩] := by
  cases l with
  | nil => simp [runC] at h
  | cons e l =>
    rw [runC_cons] at h ⊢
    rw [deepR_cons]
    by_cases hmay : mayE e
    · by_cases h7 : e.k = 7
      · have e1 : stepC (.live []) e = .bad 2 := by
          simp only [stepC]
          rw [if_neg (by simpa using hmay), if_pos h7]
        rw [e1, runC_bad] at h
        cases h
      · by_cases h56 : e.k = 5 ∨ e.k = 6
        · have hd : deepS (0, 0) e = (1, 1) := by
            unfold deepS
            rw [if_pos h56]
            rfl
          have e1 : stepC (.live []) e = .live [⟨decide (e.k = 6), e.c, 0⟩] := by
            simp only [stepC]
            rw [if_neg (by simpa using hmay), if_neg h7, if_neg (by simp [keyB]), if_pos h56]
            rfl
          have e2 : stepC (.live [⟨false, c, 0⟩]) e = .live (onB ⟨false, c, 1⟩ [⟨decide (e.k = 6), e.c, 0⟩]) := by
            simp only [stepC]
            rw [if_neg (by simpa using hmay), if_neg h7, if_neg (by simp [keyB]), if_pos h56]
            rfl
          rw [e1] at h
          rw [e2, hd]
          exact goes_in ⟨false, c, 1⟩ rfl l [⟨decide (e.k = 6), e.c, 0⟩] 1 (by simp) (by omega) (by simp) h
        · have hd : deepS (0, 0) e = (0, 0) := by
            unfold deepS
            rw [if_neg h56, if_neg h7]
          have e1 : stepC (.live []) e = .done := by
            simp only [stepC]
            rw [if_neg (by simpa using hmay), if_neg h7, if_neg (by simp [keyB]), if_neg h56]
            rfl
          have e2 : stepC (.live [⟨false, c, 0⟩]) e = .live [⟨false, c, 1⟩] := by
            simp only [stepC]
            rw [if_neg (by simpa using hmay), if_neg h7, if_neg (by simp [keyB]), if_neg h56]
            rfl
          rw [e1] at h
          have hl0 := runC_done h
          subst hl0
          rw [e2, hd]
          rfl
    · have e1 : stepC (.live []) e = .bad 2 := by
        simp only [stepC]
        rw [if_pos (by simpa using hmay)]
      rw [e1, runC_bad] at h
      cases h
/-- A document in an array of a count. -/
theorem check_wrap (c : Int) (a z : Ev) (ha : a.k = 5) (hc : a.c = c) (hz : z.k = 7) (l : List Ev) (h : checkE l = 0) :
    checkE (a :: (l ++ [z])) = if c < -1 then 2 else if 16 ≤ (deepR (0, 0) l).2 then 4 else if c ≠ 1 ∧ c ≠ -1 then 2 else 0 := by
  have h1 := check_zero h
  unfold checkE
  rw [runC_cons, runC_append]
  have hmz : mayE z := ⟨by omega, by omega, fun h => by omega⟩
  by_cases hc1 : c < -1
  · have e1 : stepC (.live []) a = .bad 2 := by
      simp only [stepC]
      rw [if_pos]
      intro hm
      have := hm.2.2 (.inl ha)
      omega
    rw [e1, runC_bad, runC_bad, if_pos hc1]
    rfl
  · have hma : mayE a := ⟨by omega, by omega, fun _ => by omega⟩
    have e1 : stepC (.live []) a = .live [⟨false, c, 0⟩] := by
      simp only [stepC]
      rw [if_neg (by simpa using hma), if_neg (by omega), if_neg (by simp [keyB]), if_pos (.inl ha), hc]
      simp [incB, ha]
    rw [e1, run_whole c l h1, if_neg hc1]
    by_cases hd : 16 ≤ (deepR (0, 0) l).2
    · rw [if_pos hd, if_pos hd, runC_bad]
      rfl
    · rw [if_neg hd, if_neg hd, runC_cons]
      have e2 : stepC (.live [⟨false, c, 1⟩]) z = if shutB ⟨false, c, 1⟩ then .bad 2 else .done := by
        simp only [stepC]
        rw [if_neg (by simpa using hmz), if_pos hz]
        simp
      rw [e2]
      by_cases hcc : c ≠ 1 ∧ c ≠ -1
      · rw [if_pos hcc, if_pos]
        · rfl
        · left
          simp only [Bool.false_eq_true, if_false]
          omega
      · rw [if_neg hcc, if_neg]
        · rfl
        · intro hs
          rcases hs with hs | hs
          · simp only [Bool.false_eq_true, if_false] at hs
            omega
          · cases hs.1
def evNull : Ev := ⟨0, false, 0, ⟨#[]⟩, 0⟩
def evEnd : Ev := ⟨7, false, 0, ⟨#[]⟩, 0⟩
/-- So many containers in one another. -/
def deepL (n : Nat) (maps : Bool) : List Ev :=
  (List.replicate n (if maps then [⟨6, false, 0, ⟨#[]⟩, 1⟩, ⟨3, false, 0, ⟨#[97]⟩, 0⟩] else [⟨5, false, 0, ⟨#[]⟩, -1⟩])).flatten ++ [evNull] ++ List.replicate n evEnd
theorem check_deep : ∀ n : Fin 31, ∀ maps : Bool, 1 ≤ n.val → checkE (deepL n.val maps) = if 16 < n.val then 4 else 0 := by decide +kernel
end Go.Proofs.Ytkfidnfnehnhoaa
