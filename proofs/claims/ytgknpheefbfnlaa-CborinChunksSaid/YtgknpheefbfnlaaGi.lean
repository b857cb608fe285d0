/-
  CONTRACTS of package cborin: Step, New, Held, Done, End, All.
-/
import Derived.Test.YtgknpheefbfnlaaGh
import Derived.Test.YtgknpheefbfnlaaGj
import Derived.Test.YtgknpheefbfnlaaGd
import Derived.Test.YtgknpheefbfnlaaGa
import Derived.Test.YtgknpheefbfnlaaGc
import Derived.Test.YtgknpheefbfnlaaGp
/-
  NO PROGRAM NEEDED (but for names): what the machine of CinPure may be, kept by each step.
-/
namespace Go.Proofs.Ytgknpheefbfnlaa
open Go.Lib
/-- All of them have an item. -/
structure AllS (M : Nat) (s : List Bx) : Prop where
  deep : s.length ≤ 16
  c : ∀ x ∈ s, -1 ≤ x.c ∧ x.c ≤ 1000000
  some_ : ∀ x ∈ s, 1 ≤ x.have_
  most : ∀ x ∈ s, x.have_ ≤ M
/-- What the open ones may be, each with so many items at most. -/
structure PS (M : Nat) (s : List Bx) : Prop where
  deep : s.length ≤ 16
  c : ∀ x ∈ s, -1 ≤ x.c ∧ x.c ≤ 1000000
  some_ : ∀ x ∈ s.tail, 1 ≤ x.have_
  most : ∀ x ∈ s, x.have_ ≤ M
theorem PS.ok {M : Nat} {s : List Bx} (h : PS M s) (hM : M + 1 ≤ 2000000000) : OkS s ∧ ∀ x ∈ s, x.have_ + 1 ≤ 2000000000 :=
  ⟨⟨h.deep, h.c, h.some_, fun x hx => by have := h.most x hx; omega⟩, fun x hx => by have := h.most x hx; omega⟩
theorem PS.mono {M N : Nat} {s : List Bx} (h : PS M s) (hM : M ≤ N) : PS N s := ⟨h.deep, h.c, h.some_, fun x hx => Nat.le_trans (h.most x hx) hM⟩
theorem AllS.ps {M : Nat} {s : List Bx} (h : AllS M s) : PS M s := ⟨h.deep, h.c, fun x hx => h.some_ x (List.mem_of_mem_tail hx), h.most⟩
theorem PS.inc {M : Nat} {s : List Bx} (h : PS M s) : AllS (M + 1) (incB s) := by
  cases s with
  | nil => exact ⟨by simp [incB], fun x hx => by simp [incB] at hx, fun x hx => by simp [incB] at hx, fun x hx => by simp [incB] at hx⟩
  | cons y r =>
    refine ⟨h.deep, fun x hx => ?_, fun x hx => ?_, fun x hx => ?_⟩
    all_goals
      simp only [incB, List.mem_cons] at hx
      rcases hx with rfl | hx
    · exact h.c y (by simp)
    · exact h.c x (List.mem_cons_of_mem _ hx)
    · simp
    · exact h.some_ x hx
    · have := h.most y (by simp); simp only; omega
    · have := h.most x (List.mem_cons_of_mem _ hx); omega
theorem AllS.tail {M : Nat} {x : Bx} {r : List Bx} (h : AllS M (x :: r)) : AllS M r :=
  ⟨by have := h.deep; simp only [List.length_cons] at this; omega, fun y hy => h.c y (List.mem_cons_of_mem _ hy), fun y hy => h.some_ y (List.mem_cons_of_mem _ hy), fun y hy => h.most y (List.mem_cons_of_mem _ hy)⟩
theorem AllS.rest {M : Nat} : ∀ {s : List Bx}, AllS M s → PS M (restC s)
  | [], h => h.ps
  | b :: r, h => by
    simp only [restC]
    split
    · exact h.tail.rest
    · exact h.ps
/-- What a state of the machine may be. -/
def WfK (D M : Nat) : Ci → Prop
  | .bad e => e ≠ 0
  | .item s dn => PS M s ∧ s.length ≤ D ∧ (dn = true → s = [])
  | .head s h => (PS M s ∧ s.length ≤ D) ∧ (keyB s = true → majH h = 3) ∧ (4 ≤ majH h → s.length < D) ∧ majH h < 6 ∧ ∃ m n v, h = .mid m n v
  | .text s m n t u => (PS M s ∧ s.length ≤ D) ∧ 1 ≤ n ∧ t.length + n ≤ 200 ∧ (m = false → u = st0)
  | .open_ s _ t => (PS M s ∧ s.length ≤ D) ∧ t.length ≤ 200
  | .chead s m t h => (PS M s ∧ s.length ≤ D) ∧ t.length ≤ 200 ∧ ∃ n v, h = .mid (mjT m) n v
  | .ctext s m t n u => (PS M s ∧ s.length ≤ D) ∧ 1 ≤ n ∧ t.length + n ≤ 200 ∧ (m = false → u = st0)
theorem wf_at {D M : Nat} {s : List Bx} (h : AllS M s) (hd : s.length ≤ D) : WfK D M (atC s) := ⟨h.rest, Nat.le_trans (rest_len s) hd, fun h => by simpa using h⟩
theorem wf_put {D M : Nat} {s : List Bx} (h : PS M s) (hd : s.length ≤ D) (e : Ev) : WfK D (M + 1) (putC s e).1 := wf_at h.inc (by rw [inc_lenK]; exact hd)
theorem wf_begin {D M : Nat} {s : List Bx} (h : PS M s) (hd : s.length < D) (hD : D ≤ 16) (m : Bool) {c : Int} (hc : -1 ≤ c ∧ c ≤ 1000000) : WfK D (M + 1) (beginC s m c).1 := by
  by_cases h0 : c = 0
  · subst h0
    rw [begin_zero]
    exact wf_at h.inc (by rw [inc_lenK]; omega)
  · rw [begin_ne s m h0]
    have hi := h.inc
    refine ⟨⟨by simp only [List.length_cons, inc_lenK]; omega, fun x hx => ?_, fun x hx => hi.some_ x hx, fun x hx => ?_⟩, by simp only [List.length_cons, inc_lenK]; omega, fun h => by cases h⟩
    · simp only [List.mem_cons] at hx
      rcases hx with rfl | hx
      · exact hc
      · exact hi.c x hx
    · simp only [List.mem_cons] at hx
      rcases hx with rfl | hx
      · simp
      · exact hi.most x hx
theorem wf_head {D M : Nat} {s : List Bx} (h : PS M s) (hd : s.length ≤ D) (hD : D ≤ 16) {g : Hd} (hk : keyB s = true → majH g = 3) (hx : 4 ≤ majH g → s.length < D) (hm : majH g < 6) (hn : g ≠ .new) (he : ∀ e, g = .bad e → e ≠ 0) : WfK D (M + 1) (headC s g).1 := by
  have h1 := h.mono (Nat.le_succ M)
  cases g with
  | bad e => exact he e rfl
  | new => exact absurd rfl hn
  | mid m n v => exact ⟨⟨h1, hd⟩, hk, hx, hm, m, n, v, rfl⟩
  | fin m v o =>
    simp only [majH] at hk hx hm
    simp only [headC]
    split
    · exact wf_put h hd _
    split
    · split
      · exact ⟨⟨h1, hd⟩, by simp⟩
      split
      · exact (by decide : (5 : Nat) ≠ 0)
      split
      · exact wf_put h hd _
      · exact ⟨⟨h1, hd⟩, by omega, by simp only [List.length_nil]; omega, fun _ => rfl⟩
    · split
      · exact wf_begin h (hx (by omega)) hD _ (by omega)
      split
      · exact (by decide : (7 : Nat) ≠ 0)
      · exact wf_begin h (hx (by omega)) hD _ (by omega)
theorem wf_chunk {D M : Nat} {s : List Bx} {m : Bool} {t : List UInt8} (h : PS M s ∧ s.length ≤ D) (ht : t.length ≤ 200) {g : Hd} (hn : g ≠ .new) (he : ∀ e, g = .bad e → e ≠ 0) (hm : ∀ a n v, g = .mid a n v → a = mjT m) : WfK D (M + 1) (chunkC s m t g).1 := by
  have h1 := h.1.mono (Nat.le_succ M)
  cases g with
  | bad e => exact he e rfl
  | new => exact absurd rfl hn
  | mid a n v =>
    obtain rfl := hm a n v rfl
    exact ⟨⟨h1, h.2⟩, ht, n, v, rfl⟩
  | fin a v o =>
    simp only [chunkC]
    split
    · exact (by decide : (5 : Nat) ≠ 0)
    split
    · exact ⟨⟨h1, h.2⟩, ht⟩
    · exact ⟨⟨h1, h.2⟩, by omega, by omega, fun _ => rfl⟩
theorem wf_goC {D M : Nat} {s : List Bx} {m ch : Bool} {t : List UInt8} {n : Nat} {u : Option (Nat × Nat × Nat)} (h : PS M s ∧ s.length ≤ D) (ht : t.length + n ≤ 200) (hu : m = false → u = st0) : WfK D (M + 1) (goC s m ch t n u).1 := by
  have h1 := h.1.mono (Nat.le_succ M)
  unfold goC
  split
  · cases ch
    · exact ⟨⟨h1, h.2⟩, by omega, ht, hu⟩
    · exact ⟨⟨h1, h.2⟩, by omega, ht, hu⟩
  split
  · exact ⟨⟨h1, h.2⟩, by omega⟩
  · exact wf_put h.1 h.2 _
theorem wf_bytC {D M : Nat} {s : List Bx} {m ch : Bool} {t : List UInt8} {n : Nat} {u : Option (Nat × Nat × Nat)} (h : PS M s ∧ s.length ≤ D) (ht : t.length + (n + 1) ≤ 200) (hu : m = false → u = st0) (y : UInt8) : WfK D (M + 1) (bytC s m ch t n u y).1 := by
  unfold bytC
  split
  · refine wf_goC h (by simp only [List.length_append, List.length_cons, List.length_nil]; omega) (fun hm => ?_)
    subst hm
    exact hu rfl
  · exact (by decide : (9 : Nat) ≠ 0)
theorem wf_stepCi {D M : Nat} (hD : D ≤ 16) {s : Ci} (h : WfK D M s) (y : UInt8) : WfK D (M + 1) (stepCi D s y).1 := by
  have hb := y.toNat_lt
  cases s with
  | bad e => exact h
  | item s dn =>
    obtain ⟨hp, hd, _⟩ := h
    simp only [stepCi]
    unfold firstC
    split
    · exact (by decide : (2 : Nat) ≠ 0)
    rename_i hform
    split
    · cases s with
      | nil => exact (by decide : (2 : Nat) ≠ 0)
      | cons x r =>
        simp only
        split
        · exact (by decide : (2 : Nat) ≠ 0)
        · have ha : AllS (M + 1) r := ⟨by have := hp.deep; simp only [List.length_cons] at this; omega, fun y hy => hp.c y (List.mem_cons_of_mem _ hy), fun y hy => hp.some_ y hy, fun y hy => by have := hp.most y (List.mem_cons_of_mem _ hy); omega⟩
          exact wf_at ha (by simp only [List.length_cons] at hd; omega)
    split
    · exact (by decide : (8 : Nat) ≠ 0)
    rename_i hkey
    split
    · exact (by decide : (8 : Nat) ≠ 0)
    split
    · split
      · exact wf_put hp hd _
      split
      · exact wf_put hp hd _
      split
      · exact (by decide : (6 : Nat) ≠ 0)
      · exact (by decide : (8 : Nat) ≠ 0)
    split
    · exact (by decide : (4 : Nat) ≠ 0)
    · rename_i h6 h7 hdd
      have hmj := maj_new (b := y.toNat) (fun h => hform (.inr (.inl h)))
      refine wf_head hp hd hD ?_ ?_ ?_ (stepH_new (.inl rfl)) (fun e he => stepH_err (fun f hf => by cases hf) he)
      · intro hk
        rw [hmj]
        by_cases h3 : y.toNat / 32 = 3
        · exact h3
        · exact absurd ⟨hk, h3⟩ hkey
      · intro h4
        rw [hmj] at h4
        by_cases hh : D ≤ s.length
        · exact absurd ⟨by omega, hh⟩ hdd
        · omega
      · rw [hmj]
        omega
  | head s g =>
    obtain ⟨⟨hp, hd⟩, h1, h2, h3, m, n, v, rfl⟩ := h
    have hmj : majH (stepH (.mid m n v) y.toNat) = m := by
      simp only [stepH]
      split <;> rfl
    exact wf_head hp hd hD (by rw [hmj]; exact h1) (by rw [hmj]; exact h2) (by rw [hmj]; exact h3) (stepH_new (.inr ⟨m, n, v, rfl⟩)) (fun e he => stepH_err (fun f hf => by cases hf) he)
  | text s m n t u =>
    obtain ⟨hp, hn, ht, hu⟩ := h
    obtain ⟨n', rfl⟩ : ∃ n', n = n' + 1 := ⟨n - 1, by omega⟩
    rw [text_eq]
    exact wf_bytC hp ht hu y
  | open_ s m t =>
    obtain ⟨hp, ht⟩ := h
    by_cases hf : y.toNat = 255
    · simp only [stepCi]
      rw [if_pos hf]
      exact wf_put hp.1 hp.2 _
    · by_cases hc : y.toNat / 32 ≠ (if m = true then 3 else 2) ∨ 28 ≤ y.toNat % 32
      · simp only [stepCi]
        rw [if_neg hf, if_pos hc]
        exact (by decide : (2 : Nat) ≠ 0)
      · simp only [stepCi]
        rw [if_neg hf, if_neg hc]
        refine wf_chunk hp ht (stepH_new (.inl rfl)) (fun e he => stepH_err (fun f hf => by cases hf) he) (fun a n v hg => ?_)
        have hmj := maj_new (b := y.toNat) (fun h => hc (.inr h.1))
        rw [hg] at hmj
        simp only [majH] at hmj
        rw [hmj]
        by_cases h4 : y.toNat / 32 = (if m = true then 3 else 2)
        · exact h4
        · exact absurd (.inl h4) hc
  | chead s m t g =>
    obtain ⟨hp, ht, n, v, rfl⟩ := h
    refine wf_chunk hp ht (stepH_new (.inr ⟨_, n, v, rfl⟩)) (fun e he => stepH_err (fun f hf => by cases hf) he) (fun a n' v' hg => ?_)
    simp only [stepH] at hg
    split at hg
    · cases hg
    · injection hg with h1; exact h1.symm
  | ctext s m t n u =>
    obtain ⟨hp, hn, ht, hu⟩ := h
    obtain ⟨n', rfl⟩ : ∃ n', n = n' + 1 := ⟨n - 1, by omega⟩
    rw [ctext_eq]
    exact wf_bytC hp ht hu y
theorem WfK.mono {D M N : Nat} {s : Ci} (h : WfK D M s) (hM : M ≤ N) : WfK D N s := by
  cases s with
  | bad e => exact h
  | item s dn => exact ⟨h.1.mono hM, h.2⟩
  | head s g => exact ⟨⟨h.1.1.mono hM, h.1.2⟩, h.2⟩
  | text s m n t u => exact ⟨⟨h.1.1.mono hM, h.1.2⟩, h.2⟩
  | open_ s m t => exact ⟨⟨h.1.1.mono hM, h.1.2⟩, h.2⟩
  | chead s m t g => exact ⟨⟨h.1.1.mono hM, h.1.2⟩, h.2⟩
  | ctext s m t n u => exact ⟨⟨h.1.1.mono hM, h.1.2⟩, h.2⟩
/-- The open ones. -/
def stkK : Ci → List Bx
  | .bad _ => []
  | .item s _ => s
  | .head s _ => s
  | .text s _ _ _ _ => s
  | .open_ s _ _ => s
  | .chead s _ _ _ => s
  | .ctext s _ _ _ _ => s
/-- Not too many items yet. -/
def SmC (s : Ci) : Prop := ∀ x ∈ stkK s, x.have_ ≤ 1000000000
theorem PS.of {M N : Nat} {s : List Bx} (h : PS M s) (hs : ∀ x ∈ s, x.have_ ≤ N) : PS N s := ⟨h.deep, h.c, h.some_, hs⟩
theorem WfK.small {D M : Nat} {s : Ci} (h : WfK D M s) (hs : SmC s) : WfK D 1000000000 s := by
  cases s with
  | bad e => exact h
  | item s dn => exact ⟨h.1.of hs, h.2⟩
  | head s g => exact ⟨⟨h.1.1.of hs, h.1.2⟩, h.2⟩
  | text s m n t u => exact ⟨⟨h.1.1.of hs, h.1.2⟩, h.2⟩
  | open_ s m t => exact ⟨⟨h.1.1.of hs, h.1.2⟩, h.2⟩
  | chead s m t g => exact ⟨⟨h.1.1.of hs, h.1.2⟩, h.2⟩
  | ctext s m t n u => exact ⟨⟨h.1.1.of hs, h.1.2⟩, h.2⟩
theorem wfK_ci0 (D M : Nat) : WfK D M ci0 := ⟨⟨by simp, fun x hx => by simp at hx, fun x hx => by simp at hx, fun x hx => by simp at hx⟩, by simp, fun h => by cases h⟩
theorem WfK.sm {D M : Nat} {s : Ci} (h : WfK D M s) (hM : M ≤ 1000000000) : SmC s := by
  cases s with
  | bad e => intro x hx; simp [stkK] at hx
  | item s dn => exact fun x hx => Nat.le_trans (h.1.most x hx) hM
  | head s g => exact fun x hx => Nat.le_trans (h.1.1.most x hx) hM
  | text s m n t u => exact fun x hx => Nat.le_trans (h.1.1.most x hx) hM
  | open_ s m t => exact fun x hx => Nat.le_trans (h.1.1.most x hx) hM
  | chead s m t g => exact fun x hx => Nat.le_trans (h.1.1.most x hx) hM
  | ctext s m t n u => exact fun x hx => Nat.le_trans (h.1.1.most x hx) hM
theorem wfK_run (D : Nat) (hD : D ≤ 16) : ∀ (l : List UInt8) (M : Nat) (s : Ci), WfK D M s → WfK D (M + l.length) (runCi D s l).1
  | [], M, s, h => h
  | b :: l, M, s, h => by
    have := wfK_run D hD l (M + 1) _ (wf_stepCi hD h b)
    simp only [runCi, List.length_cons]
    rwa [show M + (l.length + 1) = M + 1 + l.length by omega]
theorem sm_run (D : Nat) (hD : D ≤ 16) (l : List UInt8) (hl : l.length ≤ 1000000000) : SmC (runCi D ci0 l).1 := (wfK_run D hD l 0 ci0 (wfK_ci0 D 0)).sm (by omega)
theorem sm_0 : SmC ci0 := sm_run 1 (by omega) [] (by simp)
theorem sm_1 (D : Nat) (hD : D ≤ 16) (a : UInt8) : SmC (stepCi D ci0 a).1 := sm_run D hD [a] (by simp)
theorem sm_2 (D : Nat) (hD : D ≤ 16) (a b : UInt8) : SmC (stepCi D (stepCi D ci0 a).1 b).1 := sm_run D hD [a, b] (by simp)
end Go.Proofs.Ytgknpheefbfnlaa
/-
  What chapter 13's laws want of package cborin, as a hypothesis: a Parser (New, Step, Held, Done).
-/
namespace Go.Proofs.Ytgknpheefbfnlaa
open Go.RowKit
open Go.Lib
/-- A Parser in block b, made since w0: New, Step (while no container has a thousand million items), Held, Done are the machine's. -/
structure CinP (PK : World → World → Nat → Nat → Ci → Prop) : Prop where
  new_ : ∀ D : Nat, 1 ≤ D ∧ D ≤ 16 → ∀ w : World, Calls Try.prog 20 #[.int .i64 D] w fun r w' => ∃ b, r = .returned (.pointer (some ⟨b, 0, none⟩)) ∧ PK w w' b D ci0
  step : ∀ (w0 w : World) (b D : Nat) (s : Ci) (c : UInt8), PK w0 w b D s → SmC s → Calls Try.prog 21 #[.pointer (some ⟨b, 0, none⟩), .int .u8 c.toNat] w fun r w' =>
    (∃ v, r = .returned (.tuple #[v, .int .i64 (errCi (stepCi D s c).1 : Nat)]) ∧ Vls w0 w' v (stepCi D s c).2) ∧ PK w0 w' b D (stepCi D s c).1
  held : ∀ (w0 w : World) (b D : Nat) (s : Ci), PK w0 w b D s → Calls Try.prog 22 #[.pointer (some ⟨b, 0, none⟩)] w fun r w' => r = .returned (.int .i64 (heldCi s : Nat)) ∧ Below w.heap.size w w'
  done : ∀ (w0 w : World) (b D : Nat) (s : Ci), PK w0 w b D s → Calls Try.prog 23 #[.pointer (some ⟨b, 0, none⟩)] w fun r w' => r = .returned (.bool (doneCi s)) ∧ w = w'
  go : ∀ (w0 w w' : World) (b D : Nat) (s : Ci), PK w0 w b D s → Below w.heap.size w w' → PK w0 w' b D s
  bel : ∀ (w0 w : World) (b D : Nat) (s : Ci), PK w0 w b D s → Below w0.heap.size w0 w
end Go.Proofs.Ytgknpheefbfnlaa
/-
  CONTRACTS of package cborin, part Q: take.
-/
namespace Go.Proofs.Ytgknpheefbfnlaa
open Go.RowKit
open Go.Lib
/-- A byte behind which no error was: what take tells. -/
def TakeR (w w' : World) (b o D : Nat) (vt vs : Value) (q : Ci × List Ev) (r : Ending) : Prop := ∃ x, r = .returned (.tuple #[x, .int .i64 (errCi q.1 : Nat)]) ∧ GoR w w w' b o D vt vs q x
theorem low_self {w : World} {b : Nat} {vs : Value} (hb : b < w.heap.size) (hv : ∀ k ∈ Value.owner vs, k < w.heap.size) : Low w w b vs := ⟨Nat.le_refl _, hb, hv⟩
/-- byteOfHead, an item's. -/
theorem head0_at {w : World} {b o D : Nat} {h : Hd} {vt : Value} {vs : Value} {s : List Bx} (c : CP w b o D 0 h 0 false 0 vt [] st0 vs s.length (inL s)) (hn : h = .new ∨ ∃ m n v, h = .mid m n v) (hk : OkS s) (hm : ∀ x ∈ s, x.have_ + 1 ≤ 2000000000) (hdD : s.length ≤ D) (hD : D ≤ 16) (y : UInt8) :
    Calls Try.prog 48 #[.pointer (some ⟨b, o, none⟩), .int .u8 (y.toNat : Int)] w fun r w' => TakeR w w' b o D vt vs (hed0 D s h y.toNat) r := by
  have hy := y.toNat_lt
  have hwf := wf_stepH h y.toNat hy c.hd.1
  have hlow : Low w w b vs := low_self c.lt c.op.win.lt
  unfold TakeR hed0
  cases hh : stepH h y.toNat with
  | bad e =>
    rw [hh] at hwf
    have he : e ≠ 0 := by rcases hwf with rfl | rfl <;> decide
    exact bh_bad c y hk.deep hh he
  | new => exact absurd hh (stepH_new hn)
  | mid m n v =>
    simp only
    by_cases hr : refE D 0 0 s (.mid m n v) (y.toNat % 32) = 0
    · rw [hr, sel_0]
      refine (bh_mid c y hk.deep hh hr).mono ?_
      rintro r w' ⟨rfl, I⟩
      exact ⟨_, rfl, Vls.nil_ _ _, ⟨vt, vs, I.cp, fun k hk => .inl hk⟩, I.sub⟩
    · have hs : ∀ X, sel (refE D 0 0 s (.mid m n v) (y.toNat % 32)) X = (.bad (refE D 0 0 s (.mid m n v) (y.toNat % 32)), []) := fun X => if_pos hr
      rw [hs]
      exact bh_ref_mid c y hk.deep hh rfl hr
  | fin m v q =>
    simp only
    by_cases hr : refE D 0 0 s (.fin m v q) (y.toNat % 32) = 0
    · rw [hr, sel_0]
      rw [hh] at hwf
      have hq : q = true → v = 0 := by
        intro hq
        subst hq
        rcases hn with rfl | ⟨a, n, v', rfl⟩
        · simp only [stepH] at hh
          repeat' split at hh
          all_goals first | (cases hh; done) | (cases hh; rfl)
        · simp only [stepH] at hh
          split at hh <;> cases hh
      have h0 : itemE D s (.fin m v q) (y.toNat % 32) = 0 ∨ (m = 7 ∧ q = true ∧ mayB s = true) := by
        unfold refE at hr
        rw [if_neg (by decide)] at hr
        by_cases hbk : brkH (.fin m v q) = true
        · rw [if_pos hbk] at hr
          rw [brk_fin, Bool.and_eq_true, decide_eq_true_eq] at hbk
          refine .inr ⟨hbk.1, hbk.2, ?_⟩
          by_cases hmb : mayB s = true
          · exact hmb
          · rw [if_neg hmb] at hr; cases hr
        · rw [if_neg hbk] at hr
          exact .inl hr
      have hitem : itemE D s (.fin m v q) (y.toNat % 32) = 0 → m ≠ 6 ∧ ((m = 4 ∨ m = 5) → s.length ≠ D) := by
        intro h
        unfold itemE at h
        by_cases a1 : opnH (.fin m v q) = true ∧ ¬ (2 ≤ majH (.fin m v q) ∧ majH (.fin m v q) ≤ 5)
        · rw [if_pos a1] at h; cases h
        rw [if_neg a1] at h
        by_cases a2 : keyB s = true ∧ majH (.fin m v q) ≠ 3
        · rw [if_pos a2] at h; cases h
        rw [if_neg a2] at h
        by_cases a3 : majH (.fin m v q) = 6
        · rw [if_pos a3] at h; cases h
        rw [if_neg a3] at h
        have h6 : m ≠ 6 := a3
        by_cases a4 : majH (.fin m v q) = 7
        · have h7 : m = 7 := a4
          exact ⟨h6, fun h45 => by omega⟩
        rw [if_neg a4] at h
        by_cases a5 : (majH (.fin m v q) = 4 ∨ majH (.fin m v q) = 5) ∧ s.length = D
        · rw [if_pos a5] at h; cases h
        exact ⟨h6, fun h45 h10 => a5 ⟨h45, h10⟩⟩
      refine bh_fin0 (w0 := w) c y hk.deep rfl hh hr (R := begC s m v q) (fun w2 I => ?_)
      refine begins_at I.cp (hlow.of I.sub.size rfl) c.wt.lt hk hm hwf hq ?_ ?_ ?_
      · rcases h0 with h0 | ⟨h7, _⟩
        · exact (hitem h0).1
        · omega
      · intro h45
        rcases h0 with h0 | ⟨h7, _⟩
        · have := (hitem h0).2 h45
          omega
        · omega
      · intro h7 hqt hnil
        rcases h0 with h0 | ⟨_, _, hmb⟩
        · unfold itemE at h0
          rw [if_pos] at h0
          · cases h0
          · subst h7
            exact ⟨hqt, by simp [majH]⟩
        · rw [hnil] at hmb
          cases hmb
    · have hs : ∀ X, sel (refE D 0 0 s (.fin m v q) (y.toNat % 32)) X = (.bad (refE D 0 0 s (.fin m v q) (y.toNat % 32)), []) := fun X => if_pos hr
      rw [hs]
      exact bh_ref_fin c y hk.deep hh rfl hr
/-- byteOfHead, a chunk's. -/
theorem head1_at {w : World} {b o D : Nat} {h : Hd} {m : Bool} {vt : Value} {t : List UInt8} {vs : Value} {s : List Bx} (c : CP w b o D 1 h (mjT m) true 0 vt t st0 vs s.length (inL s)) (hn : h = .new ∨ ∃ m n v, h = .mid m n v) (ht : t.length ≤ 200) (hk : OkS s) (hm : ∀ x ∈ s, x.have_ + 1 ≤ 2000000000) (y : UInt8) :
    Calls Try.prog 48 #[.pointer (some ⟨b, o, none⟩), .int .u8 (y.toNat : Int)] w fun r w' => TakeR w w' b o D vt vs (hed1 s m t h y.toNat) r := by
  have hy := y.toNat_lt
  have hwf := wf_stepH h y.toNat hy c.hd.1
  have hlow : Low w w b vs := low_self c.lt c.op.win.lt
  have hre : ∀ g l, refE D 1 (mjT m) s g l = chE (mjT m) g := fun g l => if_pos rfl
  unfold TakeR hed1
  cases hh : stepH h y.toNat with
  | bad e =>
    rw [hh] at hwf
    have he : e ≠ 0 := by rcases hwf with rfl | rfl <;> decide
    exact bh_bad c y hk.deep hh he
  | new => exact absurd hh (stepH_new hn)
  | mid a n v =>
    simp only
    by_cases hr : chE (mjT m) (.mid a n v) = 0
    · rw [hr, sel_0]
      refine (bh_mid c y hk.deep hh ((hre _ _).trans hr)).mono ?_
      rintro r w' ⟨rfl, I⟩
      exact ⟨_, rfl, Vls.nil_ _ _, ⟨vt, vs, I.cp, fun k hk => .inl hk⟩, I.sub⟩
    · have hs : ∀ X, sel (chE (mjT m) (.mid a n v)) X = (.bad (chE (mjT m) (.mid a n v)), []) := fun X => if_pos hr
      rw [hs]
      exact bh_ref_mid c y hk.deep hh (hre _ _) hr
  | fin a v q =>
    simp only
    by_cases hr : chE (mjT m) (.fin a v q) = 0
    · rw [hr, sel_0]
      rw [hh] at hwf
      refine bh_fin1 (w0 := w) c y hk.deep rfl hh ((hre _ _).trans hr) (R := chunkE s m t (.fin a v q)) (fun w2 I => ?_)
      exact chunk_at I.cp ht (hlow.of I.sub.size rfl) hk hm hwf
    · have hs : ∀ X, sel (chE (mjT m) (.fin a v q)) X = (.bad (chE (mjT m) (.fin a v q)), []) := fun X => if_pos hr
      rw [hs]
      exact bh_ref_fin c y hk.deep hh (hre _ _) hr
set_option maxRecDepth 100000 in
set_option maxHeartbeats 2000000 in
theorem ctake_end {w : World} {b o D : Nat} {h : Hd} {mj : Nat} {ch : Bool} {lk : Nat} {vt : Value} {t : List UInt8} {u : Option (Nat × Nat × Nat)} {vs : Value} {n : Nat} {xs : List Value} (c : CP w b o D 3 h mj ch lk vt t u vs n xs) (y : UInt8) :
    Calls Try.prog 37 #[.pointer (some ⟨b, o, none⟩), .int .u8 (y.toNat : Int)] w fun r w' => TakeR w w' b o D vt vs (.bad 2, []) r := by
  have c2 := c.cells.1.2.2.1
  have HG : Hid (GoR w w w b o D vt vs (.bad 2, []) (.slice none 0 0)) := Lib.hid ⟨Vls.nil_ _ _, ⟨vt, vs, ⟨by decide, c.room, c.cells.1.2.1.1⟩, fun k hk => .inl hk⟩, Subg.refl _ _ _ _ _⟩
  clear c
  go_enter Try.func37, Try.ntmps37
  go_wp2
  go_ret2
  exact ⟨_, rfl, HG.out⟩
set_option maxRecDepth 100000 in
set_option maxHeartbeats 2000000 in
theorem ctake_text {w : World} {b o D : Nat} {vt vs : Value} {q : Ci × List Ev} (hc : w.cell? ⟨b, o + 2, none⟩ = some (.int .i64 (2 : Nat))) {y : UInt8}
    (H : Calls Try.prog 47 #[.pointer (some ⟨b, o, none⟩), .int .u8 (y.toNat : Int)] w fun r w' => TakeR w w' b o D vt vs q r) :
    Calls Try.prog 37 #[.pointer (some ⟨b, o, none⟩), .int .u8 (y.toNat : Int)] w fun r w' => TakeR w w' b o D vt vs q r := by
  have HH := Lib.hid H
  clear H
  go_enter Try.func37, Try.ntmps37
  go_wp2_with fail
  refine HH.out.mono ?_
  rintro r w' ⟨x, rfl, hq⟩
  have HQ := Lib.hid hq
  clear hq
  go_wp2
  go_ret2
  exact ⟨x, rfl, HQ.out⟩
set_option maxRecDepth 100000 in
set_option maxHeartbeats 2000000 in
theorem ctake_head {w : World} {b o D pl : Nat} {vt vs : Value} {q : Ci × List Ev} (hp : pl = 0 ∨ pl = 1) (hc : w.cell? ⟨b, o + 2, none⟩ = some (.int .i64 (pl : Nat))) {y : UInt8}
    (H : Calls Try.prog 48 #[.pointer (some ⟨b, o, none⟩), .int .u8 (y.toNat : Int)] w fun r w' => TakeR w w' b o D vt vs q r) :
    Calls Try.prog 37 #[.pointer (some ⟨b, o, none⟩), .int .u8 (y.toNat : Int)] w fun r w' => TakeR w w' b o D vt vs q r := by
  have HH := Lib.hid H
  clear H
  rcases hp with rfl | rfl
  all_goals
    go_enter Try.func37, Try.ntmps37
    go_wp2_with fail
    refine HH.out.mono ?_
    rintro r w' ⟨x, rfl, hq⟩
    have HQ := Lib.hid hq
    clear hq
    go_wp2
    go_ret2
    exact ⟨x, rfl, HQ.out⟩
/-- TAKE. -/
theorem ctake_at {w : World} {b o D M : Nat} {s : Ci} {vt vs : Value} (hD : D ≤ 16) (hs : StC w b o D s vt vs) (hw : WfK D M s) (hM : M + 1 ≤ 2000000000) (hb : ∀ e, s ≠ .bad e) (y : UInt8) :
    Calls Try.prog 37 #[.pointer (some ⟨b, o, none⟩), .int .u8 (y.toNat : Int)] w fun r w' => TakeR w w' b o D vt vs (stepCi D s y) r := by
  cases s with
  | bad e => exact absurd rfl (hb e)
  | item s dn =>
    obtain ⟨hp, hd, _⟩ := hw
    cases dn with
    | true =>
      have : stepCi D (.item s true) y = (.bad 2, []) := by
        simp only [stepCi, firstC]
        simp
      rw [this]
      exact ctake_end hs y
    | false =>
      have c : CP w b o D 0 .new 0 false 0 vt [] st0 vs s.length (inL s) := hs
      rw [show stepCi D (.item s false) y = hed0 D s .new y.toNat from first_eq D s hd y.toNat y.toNat_lt]
      exact ctake_head (.inl rfl) c.cells.1.2.2.1 (head0_at c (.inl rfl) (hp.ok hM).1 (hp.ok hM).2 hd hD y)
  | head s h =>
    obtain ⟨⟨hp, hd⟩, h1, h2, h3, m, n, v, rfl⟩ := hw
    have c : CP w b o D 0 (.mid m n v) 0 false 0 vt [] st0 vs s.length (inL s) := hs
    rw [show stepCi D (.head s (.mid m n v)) y = hed0 D s (.mid m n v) y.toNat from head_eq D s h3 h1 h2 y.toNat]
    exact ctake_head (.inl rfl) c.cells.1.2.2.1 (head0_at c (.inr ⟨_, _, _, rfl⟩) (hp.ok hM).1 (hp.ok hM).2 hd hD y)
  | text s m n t u =>
    obtain ⟨⟨hp, hd⟩, hn, ht, hu⟩ := hw
    obtain ⟨n', rfl⟩ : ∃ n', n = n' + 1 := ⟨n - 1, by omega⟩
    have c : CP w b o D 2 .new (mjT m) false (n' + 1) vt t u vs s.length (inL s) := hs
    rw [text_eq]
    exact ctake_text c.cells.1.2.2.1 (byteOfText_at c hu ht (low_self c.lt c.op.win.lt) (hp.ok hM).1 (hp.ok hM).2 y)
  | open_ s m t =>
    obtain ⟨⟨hp, hd⟩, ht⟩ := hw
    have c : CP w b o D 1 .new (mjT m) true 0 vt t st0 vs s.length (inL s) := hs
    rw [open_eq]
    exact ctake_head (.inr rfl) c.cells.1.2.2.1 (head1_at c (.inl rfl) ht (hp.ok hM).1 (hp.ok hM).2 y)
  | chead s m t h =>
    obtain ⟨⟨hp, hd⟩, ht, n, v, rfl⟩ := hw
    have c : CP w b o D 1 (.mid (mjT m) n v) (mjT m) true 0 vt t st0 vs s.length (inL s) := hs
    rw [chead_eq]
    exact ctake_head (.inr rfl) c.cells.1.2.2.1 (head1_at c (.inr ⟨_, _, _, rfl⟩) ht (hp.ok hM).1 (hp.ok hM).2 y)
  | ctext s m t n u =>
    obtain ⟨⟨hp, hd⟩, hn, ht, hu⟩ := hw
    obtain ⟨n', rfl⟩ : ∃ n', n = n' + 1 := ⟨n - 1, by omega⟩
    have c : CP w b o D 2 .new (mjT m) true (n' + 1) vt t u vs s.length (inL s) := hs
    rw [ctext_eq]
    exact ctake_text c.cells.1.2.2.1 (byteOfText_at c hu ht (low_self c.lt c.op.win.lt) (hp.ok hM).1 (hp.ok hM).2 y)
end Go.Proofs.Ytgknpheefbfnlaa
/-
  CONTRACTS of package cborin, part R: a Parser by the machine's state; had, Step, New, Held, Done, End.
-/
namespace Go.Proofs.Ytgknpheefbfnlaa
open Go.RowKit
open Go.Lib
/-- The cells of a Parser that is new, or behind an error. -/
def paC (e D : Nat) : List Value := [.int .i64 (e : Int), .int .i64 (D : Int), .int .i64 0, .int .i64 0, .int .i64 0, .int .i64 0, .bool false, .int .i64 0, .int .u64 0, .int .i64 0, .bool false, .int .i64 0, .slice none 0 0, .int .i64 0, .int .u8 0, .int .u8 0, .bool false, .slice none 0 0]
theorem paC_one (e D : Nat) : (paC e D).toArray.all (·.oneCell') = true := by simp [paC, Value.oneCell']
/-- A Parser, by the machine's state. -/
def StP (w : World) (b o D : Nat) (s : Ci) (vt vs : Value) : Prop :=
  match s with
  | .bad e => e ≠ 0 ∧ At w b o (paC e D) ∧ vt = .slice none 0 0 ∧ vs = .slice none 0 0
  | .item s dn => StC w b o D (.item s dn) vt vs
  | .head s h => StC w b o D (.head s h) vt vs
  | .text s m n t u => StC w b o D (.text s m n t u) vt vs
  | .open_ s m t => StC w b o D (.open_ s m t) vt vs
  | .chead s m t h => StC w b o D (.chead s m t h) vt vs
  | .ctext s m t n u => StC w b o D (.ctext s m t n u) vt vs
theorem StP.of {w : World} {b o D : Nat} {s : Ci} {vt vs : Value} (h : StC w b o D s vt vs) (hb : ∀ e, s ≠ .bad e) : StP w b o D s vt vs := by
  cases s with
  | bad e => exact absurd rfl (hb e)
  | _ => exact h
theorem StP.st {w : World} {b o D : Nat} {s : Ci} {vt vs : Value} (h : StP w b o D s vt vs) (hb : ∀ e, s ≠ .bad e) : StC w b o D s vt vs := by
  cases s with
  | bad e => exact absurd rfl (hb e)
  | _ => exact h
/-- Whatever the state: its cells. -/
theorem StC.cp {w : World} {b o D : Nat} {s : Ci} {vt vs : Value} (h : StC w b o D s vt vs) (hb : ∀ e, s ≠ .bad e) (hdn : ∀ s', s = .item s' true → s' = []) : ∃ pl hh mj ch lk t u, CP w b o D pl hh mj ch lk vt t u vs (stkK s).length (inL (stkK s)) ∧ heldCi s = t.length + (stkK s).length ∧ (pl = 3 ↔ doneCi s = true) := by
  cases s with
  | bad e => exact absurd rfl (hb e)
  | item s dn =>
    cases dn with
    | false => exact ⟨_, _, _, _, _, _, _, h, by simp [heldCi, stkK], by simp [doneCi]⟩
    | true =>
      obtain rfl := hdn s rfl
      exact ⟨_, _, _, _, _, _, _, h, by simp [heldCi, stkK], by simp [doneCi]⟩
  | head s g => exact ⟨_, _, _, _, _, _, _, h, by simp [heldCi, stkK], by simp [doneCi]⟩
  | text s m n t u => exact ⟨_, _, _, _, _, _, _, h, rfl, by simp [doneCi]⟩
  | open_ s m t => exact ⟨_, _, _, _, _, _, _, h, rfl, by simp [doneCi]⟩
  | chead s m t g => exact ⟨_, _, _, _, _, _, _, h, rfl, by simp [doneCi]⟩
  | ctext s m t n u => exact ⟨_, _, _, _, _, _, _, h, rfl, by simp [doneCi]⟩
theorem WfK.dn {D M : Nat} {s : Ci} (h : WfK D M s) : ∀ s', s = .item s' true → s' = [] := by
  rintro s' rfl
  exact h.2.2 rfl
theorem StC.go {w w' : World} {b o D : Nat} {s : Ci} {vt vs : Value} (h : StC w b o D s vt vs) (hb : ∀ e, s ≠ .bad e) (k : Below w.heap.size w w') : StC w' b o D s vt vs := by
  cases s with
  | bad e => exact absurd rfl (hb e)
  | _ => exact CP.go h k
theorem StP.lt {w : World} {b o D : Nat} {s : Ci} {vt vs : Value} (h : StP w b o D s vt vs) : b < w.heap.size := by
  cases s with
  | bad e => exact h.2.1.lt (by simp [paC])
  | _ => exact CP.lt h
theorem StP.go {w w' : World} {b o D : Nat} {s : Ci} {vt vs : Value} (h : StP w b o D s vt vs) (k : Below w.heap.size w w') : StP w' b o D s vt vs := by
  cases s with
  | bad e => exact ⟨h.1, h.2.1.keep (k.block b (StP.lt (s := .bad e) h)), h.2.2⟩
  | _ => exact CP.go h k
theorem StP.err {w : World} {b o D : Nat} {s : Ci} {vt vs : Value} (h : StP w b o D s vt vs) : w.cell? ⟨b, o, none⟩ = some (.int .i64 (errCi s : Nat)) ∧ w.cell? ⟨b, o + 1, none⟩ = some (.int .i64 (D : Nat)) := by
  cases s with
  | bad e => exact ⟨(h.2.1 0 _ rfl).1, (h.2.1 1 _ rfl).1⟩
  | _ => exact ⟨(CP.cells h).1.1.1, (CP.cells h).1.2.1.1⟩
theorem cp_new {w : World} {b o D : Nat} (h : At w b o (paC 0 D)) : CP w b o D 0 .new 0 false 0 (.slice none 0 0) [] st0 (.slice none 0 0) 0 [] := by
  have e1 := h.right (vs := [.int .i64 ((0 : Nat) : Int), .int .i64 (D : Int), .int .i64 0]) (us := _)
  have e2 := e1.right (vs := hd6 0 0 0 false 0 0) (us := _)
  have e3 := e2.right (vs := [.int .i64 0, .bool false, .int .i64 0, .slice none 0 0]) (us := _)
  have e4 := e3.right (vs := ckCells 0 0 0 false) (us := _)
  exact ⟨h.left (vs := [.int .i64 ((0 : Nat) : Int), .int .i64 (D : Int), .int .i64 0]), ⟨trivial, e1.left (vs := hd6 0 0 0 false 0 0)⟩, e2.left (vs := [.int .i64 0, .bool false, .int .i64 0, .slice none 0 0]), cat_zero (e3.left (vs := ckCells 0 0 0 false)), ⟨e4, Win.nil_ _ _ _, by simp [Value.owner]⟩, Win.nil_ _ _ _, by simp [Value.owner]⟩
set_option maxHeartbeats 1000000 in
theorem had_at {w : World} {b o D e : Nat} (hD : 1 ≤ D) (c0 : w.cell? ⟨b, o, none⟩ = some (.int .i64 (e : Nat))) (c1 : w.cell? ⟨b, o + 1, none⟩ = some (.int .i64 (D : Nat))) :
    Calls Try.prog 36 #[.pointer (some ⟨b, o, none⟩)] w fun r w' => r = .returned (.int .i64 (e : Nat)) ∧ w = w' := by
  have hz : ((D : Int) == 0) = false := by rw [beq_eq_false_iff_ne]; omega
  clear hD
  go_enter Try.func36, Try.ntmps36
  go_wp2
  go_ret
  exact ⟨rfl, rfl⟩
set_option maxHeartbeats 1000000 in
theorem done_cell {w : World} {b o pl : Nat} (c2 : w.cell? ⟨b, o + 2, none⟩ = some (.int .i64 (pl : Nat))) :
    Calls Try.prog 23 #[.pointer (some ⟨b, o, none⟩)] w fun r w' => r = .returned (.bool (decide (pl = 3))) ∧ w = w' := by
  have hz : ((pl : Int) == 3) = decide (pl = 3) := by rw [Bool.eq_iff_iff, beq_iff_eq, decide_eq_true_eq]; omega
  generalize decide (pl = 3) = B at *
  go_enter Try.func23, Try.ntmps23
  go_wp2
  go_ret
  exact ⟨rfl, rfl⟩
/-- DONE. -/
theorem done_at {w : World} {b o D M : Nat} {s : Ci} {vt vs : Value} (h : StP w b o D s vt vs) (hw : WfK D M s) :
    Calls Try.prog 23 #[.pointer (some ⟨b, o, none⟩)] w fun r w' => r = .returned (.bool (doneCi s)) ∧ w = w' := by
  by_cases hb : ∃ e, s = .bad e
  · obtain ⟨e, rfl⟩ := hb
    exact done_cell (pl := 0) (h.2.1 2 _ rfl).1
  · have hb : ∀ e, s ≠ .bad e := fun e he => hb ⟨e, he⟩
    obtain ⟨pl, _, _, _, _, _, _, c, _, hd⟩ := (h.st hb).cp hb hw.dn
    have := done_cell c.cells.1.2.2.1
    have e : decide (pl = 3) = doneCi s := by rw [Bool.eq_iff_iff, decide_eq_true_eq]; exact hd
    rwa [e] at this
set_option maxRecDepth 100000 in
set_option maxHeartbeats 1000000 in
theorem held_cell {w : World} {b o p q : Nat} {a1 a2 : Option Addr} {x1 x2 : Nat} (hp : p ≤ 1000) (hq : q ≤ 1000) (c1 : w.cell? ⟨b, o + 9 + 3, none⟩ = some (.slice a1 p x1)) (c2 : w.cell? ⟨b, o + 17, none⟩ = some (.slice a2 q x2)) :
    Calls Try.prog 22 #[.pointer (some ⟨b, o, none⟩)] w fun r w' => r = .returned (.int .i64 ((p + q : Nat) : Int)) ∧ ∃ n, w' = w.drewN n := by
  have hw : IntKind.i64.wrap ((p : Int) + (q : Int)) = (p : Int) + (q : Int) := by simp only [IntKind.wrap_i64]; omega
  go_enter Try.func22, Try.ntmps22
  go_wp2
  go_quiet (fail)
  go_wp2
  go_ret
  exact ⟨rfl, _, rfl⟩
/-- HELD. -/
theorem held_at {w : World} {b o D M : Nat} {s : Ci} {vt vs : Value} (h : StP w b o D s vt vs) (hw : WfK D M s) :
    Calls Try.prog 22 #[.pointer (some ⟨b, o, none⟩)] w fun r w' => r = .returned (.int .i64 (heldCi s : Nat)) ∧ ∃ n, w' = w.drewN n := by
  by_cases hb : ∃ e, s = .bad e
  · obtain ⟨e, rfl⟩ := hb
    exact held_cell (p := 0) (q := 0) (by omega) (by omega) (h.2.1 12 _ rfl).1 (h.2.1 17 _ rfl).1
  · have hb : ∀ e, s ≠ .bad e := fun e he => hb ⟨e, he⟩
    obtain ⟨_, _, _, _, _, t, _, c, hh, _⟩ := (h.st hb).cp hb hw.dn
    have hlen : (stkK s).length ≤ 16 ∧ heldCi s ≤ 216 + (stkK s).length := by
      cases s with
      | bad e => exact absurd rfl (hb e)
      | item s dn => exact ⟨hw.1.deep, by simp [heldCi, stkK]⟩
      | head s g => exact ⟨hw.1.1.deep, by simp [heldCi, stkK]⟩
      | text s m n t u => exact ⟨hw.1.1.deep, by simp only [heldCi, stkK]; have := hw.2.2.1; omega⟩
      | open_ s m t => exact ⟨hw.1.1.deep, by simp only [heldCi, stkK]; have := hw.2; omega⟩
      | chead s m t g => exact ⟨hw.1.1.deep, by simp only [heldCi, stkK]; have := hw.2.1; omega⟩
      | ctext s m t n u => exact ⟨hw.1.1.deep, by simp only [heldCi, stkK]; have := hw.2.2.1; omega⟩
    obtain ⟨a1, x1, e1, _, _⟩ := c.wt.slice_form
    obtain ⟨a2, x2, e2, _, _⟩ := c.op.win.slice_form
    rw [hh]
    exact held_cell (by omega) (by omega) (by rw [← e1]; exact c.cells.2.1.2.2.2.1) (by rw [← e2]; exact c.cells.2.2.1)
set_option maxHeartbeats 1000000 in
/-- END. -/
theorem cend_at {w : World} {b o D M : Nat} {s : Ci} {vt vs : Value} (hD : 1 ≤ D) (h : StP w b o D s vt vs) (hw : WfK D M s) :
    Calls Try.prog 28 #[.pointer (some ⟨b, o, none⟩)] w fun r w' => r = .returned (.int .i64 (endCi s : Nat)) ∧ w = w' := by
  have HH := Lib.hid (had_at hD h.err.1 h.err.2)
  have HD := Lib.hid (done_at h hw)
  have he : ∀ e, s = .bad e → e ≠ 0 := fun e h => by subst h; exact hw
  have hdn := hw.dn
  by_cases hb : ∃ e, s = .bad e
  · obtain ⟨e, rfl⟩ := hb
    have hz : ((e : Int) != 0) = true := by have := he e rfl; rw [bne_iff_ne]; omega
    simp only [errCi, endCi] at HH ⊢
    clear h he hw hdn
    go_enter Try.func28, Try.ntmps28
    go_wp2_with fail
    refine HH.out.mono ?_
    rintro r w1 ⟨rfl, rfl⟩
    go_wp2
    go_ret
    exact ⟨rfl, rfl⟩
  · have hb : ∀ e, s ≠ .bad e := fun e he => hb ⟨e, he⟩
    have e0 : errCi s = 0 := by cases s <;> first | rfl | exact absurd rfl (hb _)
    have e1 : endCi s = if doneCi s = true then 0 else 3 := by
      cases s with
      | bad e => exact absurd rfl (hb e)
      | item s dn =>
        cases dn with
        | false =>
          simp [endCi, doneCi]
        | true =>
          obtain rfl := hdn s rfl
          rfl
      | _ => rfl
    rw [e0] at HH
    rw [e1]
    generalize doneCi s = B at *
    clear h he hw hdn
    cases B with
    | true =>
      go_enter Try.func28, Try.ntmps28
      go_wp2_with fail
      refine HH.out.mono ?_
      rintro r w1 ⟨rfl, rfl⟩
      go_wp2_with fail
      refine HD.out.mono ?_
      rintro r w1 ⟨rfl, rfl⟩
      go_wp2
      go_ret
      exact ⟨rfl, rfl⟩
    | false =>
      go_enter Try.func28, Try.ntmps28
      go_wp2_with fail
      refine HH.out.mono ?_
      rintro r w1 ⟨rfl, rfl⟩
      go_wp2_with fail
      refine HD.out.mono ?_
      rintro r w1 ⟨rfl, rfl⟩
      go_wp2
      go_ret
      exact ⟨rfl, rfl⟩
end Go.Proofs.Ytgknpheefbfnlaa
/-
  CONTRACTS of package cborin, part S: Step, New: CinP of the Parser.
-/
namespace Go.Proofs.Ytgknpheefbfnlaa
open Go.RowKit
open Go.Lib
/-- Behind a step. -/
def StepK (w w' : World) (b o D : Nat) (vt vs : Value) (q : Ci × List Ev) (r : Ending) : Prop :=
  (∃ u, r = .returned (.tuple #[u, .int .i64 (errCi q.1 : Nat)]) ∧ Vls w w' u q.2) ∧ (∃ vt' vs', StP w' b o D q.1 vt' vs' ∧ ∀ k ∈ Value.owner vt' ++ Value.owner vs', k ∈ Value.owner vt ++ Value.owner vs ∨ w.heap.size ≤ k) ∧ Subg (Value.owner vt ++ Value.owner vs) b o 18 w w'
set_option maxRecDepth 100000 in
set_option maxHeartbeats 4000000 in
/-- STEP. -/
theorem cstep_at {w : World} {b o D M : Nat} {s : Ci} {vt vs : Value} (hD : 1 ≤ D ∧ D ≤ 16) (h : StP w b o D s vt vs) (hw : WfK D M s) (hM : M + 1 ≤ 2000000000) (y : UInt8) :
    Calls Try.prog 21 #[.pointer (some ⟨b, o, none⟩), .int .u8 (y.toNat : Int)] w fun r w' => StepK w w' b o D vt vs (stepCi D s y) r := by
  have HH := Lib.hid (had_at hD.1 h.err.1 h.err.2)
  by_cases hb : ∃ e, s = .bad e
  · obtain ⟨e, rfl⟩ := hb
    have hz : ((e : Int) != 0) = true := by have : e ≠ 0 := hw; rw [bne_iff_ne]; omega
    have HK : Hid (StepK w w b o D vt vs (stepCi D (.bad e) y) (.returned (.tuple #[.slice none 0 0, .int .i64 (e : Nat)]))) := Lib.hid ⟨⟨_, rfl, Vls.nil_ _ _⟩, ⟨vt, vs, h, fun k hk => .inl hk⟩, Subg.refl _ _ _ _ _⟩
    simp only [errCi] at HH
    clear h hw hD hM
    go_enter Try.func21, Try.ntmps21
    go_wp2_with fail
    refine HH.out.mono ?_
    rintro r w1 ⟨rfl, rfl⟩
    go_wp2
    go_ret2
    exact HK.out
  · have hb : ∀ e, s ≠ .bad e := fun e he => hb ⟨e, he⟩
    have e0 : errCi s = 0 := by cases s <;> first | rfl | exact absurd rfl (hb _)
    have hT := ctake_at (y := y) hD.2 (h.st hb) hw hM hb
    have HL := Lib.hid h.lt
    rw [e0] at HH
    generalize stepCi D s y = R at *
    have HT := Lib.hid hT
    clear hT h hw hM hb e0 hD
    by_cases he : errCi R.1 = 0
    · have HE := Lib.hid he
      have HF : Hid (∀ (w' : World) (x : Value), GoR w w w' b o D vt vs R x → StepK w w' b o D vt vs R (.returned (.tuple #[x, .int .i64 (errCi R.1 : Nat)]))) := Lib.hid (fun w' x hg => by
        obtain ⟨vt', vs', hst, ho⟩ := hg.st
        have hnb : ∀ e, R.1 ≠ .bad e := fun e h => by
          rw [h] at hst he
          exact hst.1 he
        exact ⟨⟨x, rfl, hg.vls⟩, ⟨vt', vs', StP.of hst hnb, ho⟩, hg.sub⟩)
      unfold TakeR at HT
      rw [he] at HT HF
      go_enter Try.func21, Try.ntmps21
      go_wp2_with fail
      refine HH.out.mono ?_
      rintro r w1 ⟨rfl, rfl⟩
      go_wp2_with fail
      refine HT.out.mono ?_
      rintro r w1 ⟨x, rfl, hg⟩
      have HG := Lib.hid hg
      clear hg
      go_wp2
      go_ret2
      exact HF.out _ _ HG.out
    · obtain ⟨e, hR, hne⟩ := err_bad he
      obtain ⟨R1, R2⟩ := R
      simp only at hR
      subst hR
      have hz : ((e : Int) != 0) = true := by rw [bne_iff_ne]; omega
      unfold TakeR at HT
      simp only [errCi] at HT
      have HN := Lib.hid hne
      clear he hne
      go_enter Try.func21, Try.ntmps21
      go_wp2_with fail
      refine HH.out.mono ?_
      rintro r w1 ⟨rfl, rfl⟩
      go_wp2_with fail
      refine HT.out.mono ?_
      rintro r w1 ⟨x, rfl, hg⟩
      have HG := Lib.hid hg
      obtain ⟨vt', vs', ⟨_, hroom, c1⟩, _⟩ := hg.st
      have HR := Lib.hid hroom
      clear hg hroom
      go_wp2_with (refine wpList_store_room rfl 86 _ _ rfl b o (paC e D) rfl rfl HR.out (by kernel_rfl) (paC_one _ _) ?_)
      intro w2 h2
      have HA := Lib.hid h2.out.1
      have HS2 := Lib.hid h2.out.2
      clear h2
      go_wp2
      go_ret2
      refine ⟨⟨x, rfl, HG.out.vls.sub HS2.out HL.out⟩, ⟨.slice none 0 0, .slice none 0 0, ⟨HN.out, HA.out, rfl, rfl⟩, fun k hk => by simp [Value.owner] at hk⟩, HG.out.sub.tr (HS2.out.subg _)⟩
set_option maxRecDepth 100000 in
set_option maxHeartbeats 1000000 in
/-- NEW. -/
theorem cnew_any (D : Nat) (hD : 1 ≤ D ∧ D ≤ 16) (w : World) :
    Calls Try.prog 20 #[.int .i64 D] w fun r w' => r = .returned (.pointer (some ⟨w.heap.size, 0, none⟩)) ∧ StP w' w.heap.size 0 D ci0 (.slice none 0 0) (.slice none 0 0) ∧ Below w.heap.size w w' := by
  have h1 : ((D : Int) < 1) = False := by simp; omega
  have h2 : ((16 : Int) < (D : Int)) = False := by simp; omega
  have HP : Hid (StP (w.alloc (.cells (paC 0 D).toArray 86)) w.heap.size 0 D ci0 (.slice none 0 0) (.slice none 0 0)) := Lib.hid (cp_new (at_block (heap_alloc_new w _)))
  clear hD
  go_enter Try.func20, Try.ntmps20
  go_wp2
  go_ret
  exact ⟨rfl, HP.out, up_alloc (Below.refl _ _) _⟩
/-- A Parser in block b, made since w0. -/
structure PKc (w0 w : World) (b D : Nat) (s : Ci) : Prop where
  ex : ∃ vt vs, StP w b 0 D s vt vs ∧ ∀ k ∈ Value.owner vt ++ Value.owner vs, w0.heap.size ≤ k
  wf : WfK D 2000000000 s
  dD : 1 ≤ D ∧ D ≤ 16
  b0 : w0.heap.size ≤ b
  bel : Below w0.heap.size w0 w
theorem PKc.step {w0 w w' : World} {b D M : Nat} {s : Ci} {vt vs : Value} {r : Ending} {y : UInt8} (h : PKc w0 w b D s) (ho : ∀ k ∈ Value.owner vt ++ Value.owner vs, w0.heap.size ≤ k) (hk : StepK w w' b 0 D vt vs (stepCi D s y) r) (hw : WfK D M (stepCi D s y).1) (hM : M ≤ 2000000000) :
    (∃ v, r = .returned (.tuple #[v, .int .i64 (errCi (stepCi D s y).1 : Nat)]) ∧ Vls w0 w' v (stepCi D s y).2) ∧ PKc w0 w' b D (stepCi D s y).1 := by
  obtain ⟨⟨u, hr, hv⟩, ⟨vt', vs', hst, ho'⟩, hS⟩ := hk
  have hsz := h.bel.size
  refine ⟨⟨u, hr, hv.old hsz⟩, ⟨⟨vt', vs', hst, fun k hk => (ho' k hk).elim (ho k) (fun h => Nat.le_trans hsz h)⟩, hw.mono hM, h.dD, h.b0, h.bel.trans (hS.below h.b0 ho hsz)⟩⟩
/-- CINP: a Parser is the machine's. -/
theorem cinP_all : CinP PKc where
  new_ := fun D hD w => (cnew_any D hD w).mono fun r w' h => ⟨_, h.1, ⟨⟨_, _, h.2.1, fun k hk => by simp [Value.owner] at hk⟩, wfK_ci0 _ _, hD, Nat.le_refl _, h.2.2⟩⟩
  step := fun w0 w b D s c h hs => by
    obtain ⟨vt, vs, hst, ho⟩ := h.ex
    have hwf := h.wf.small hs
    exact (cstep_at h.dD hst hwf (by omega) c).mono fun r w' hk => h.step ho hk (wf_stepCi h.dD.2 hwf c) (by omega)
  held := fun w0 w b D s h => by
    obtain ⟨vt, vs, hst, ho⟩ := h.ex
    exact (held_at hst h.wf).mono fun r w' hr => ⟨hr.1, by obtain ⟨n, rfl⟩ := hr.2; exact below_drN (Below.refl _ _) n⟩
  done := fun w0 w b D s h => by
    obtain ⟨vt, vs, hst, ho⟩ := h.ex
    exact done_at hst h.wf
  go := fun w0 w w' b D s h k => by
    obtain ⟨vt, vs, hst, ho⟩ := h.ex
    exact ⟨⟨vt, vs, hst.go k, ho⟩, h.wf, h.dD, h.b0, h.bel.trans (k.mono h.bel.size)⟩
  bel := fun w0 w b D s h => h.bel
end Go.Proofs.Ytgknpheefbfnlaa
/-
  CONTRACTS of package cborin, part T: plain; All: CinAll.
-/
namespace Go.Proofs.Ytgknpheefbfnlaa
open Go.RowKit
open Go.Lib
theorem heap_new2c (w : World) (x y : Obj) : ((w.alloc x).alloc y).heap[w.heap.size + 1]? = some y := by
  have := heap_alloc_new (w.alloc x) y
  simpa using this
set_option maxRecDepth 100000 in
set_option maxHeartbeats 2000000 in
theorem cplain_at {w0 w : World} {v : Value} {L : List Ev} (hV : Vls w0 w v L) (hL : ∀ e ∈ L, ToldC e) (hn : L.length ≤ 900) :
    Calls Try.prog 27 #[v] w fun r w' => ∃ u, r = .returned u ∧ Made w w' u L.length L := by
  obtain ⟨a, c, rfl⟩ := hV.form
  obtain ⟨n, hnn⟩ : ∃ n, L.length = n := ⟨_, rfl⟩
  have H0 : Hid (Made w w (.slice none 0 0) 0 (L.take 0)) := Lib.hid (by simpa using made_nil w)
  have HW := Lib.hid hV.win
  have HL := Lib.hid hL
  have HNN := Lib.hid hnn
  rw [hnn] at hn HW ⊢
  clear hV hL hnn
  go_enter Try.func27, Try.ntmps27
  go_wp2
  go_loopw [3, 5, 6, 7, 10] (fun l _ _ _ i wr => ∃ (j : Nat) (a1 : Option Addr) (c1 : Nat), l = .slice a1 j c1 ∧ i = .int .i64 j ∧ j ≤ n ∧ Hid (Made w wr (.slice a1 j c1) j (L.take j))) (fun _ _ _ _ i _ => n - (RowKit.intOf i).toNat)
  case atStart => exact ⟨0, none, 0, rfl, rfl, by omega, H0⟩
  case round =>
    obtain ⟨j, a1, c1, rfl, rfl, hj, HM⟩ := hrel
    clear H0
    by_cases hlt : j < n
    · have hjl : j < L.length := by rw [HNN.out]; exact hlt
      have hT := HL.out _ (List.getElem_mem hjl)
      have hwin : Win wr 20 1 (.slice a n c) n (L.map valE) := HW.out.keep fun k hk => HM.out.1.block k (HW.out.lt k hk)
      obtain ⟨g, off, c', hv, x0⟩ := hwin.elem j (valE L[j]) (by simp [hjl])
      have htk : L.take (j + 1) = L.take j ++ [L[j]] := by rw [List.take_add_one, List.getElem?_eq_getElem hjl]; rfl
      have hP := fun W => plain_any L[j] hT.1 W
      rw [hT.2.1] at hP
      generalize L[j] = e at *
      simp only [Value.slice.injEq] at hv
      obtain ⟨rfl, hv2, rfl⟩ := hv
      clear hv2
      obtain ⟨k, y, m, t, c2⟩ := e
      simp only [evV] at hP
      have HP := Lib.hid hP
      have HTK := Lib.hid htk
      generalize valE ⟨k, y, m, t, c2⟩ = V at *
      have hHM := HM.out
      clear hT hwin hP htk hjl
      go_wp2_with fail
      refine (HP.out _).mono ?_
      rintro r w1 ⟨rfl, b1⟩
      have HM1 := Lib.hid (hHM.go b1)
      clear hHM b1
      go_wp2_with (at_builtin; refine wpList_append_win rfl _ _ _ rfl Try.underlying23 info_ev rfl rfl ((HM1.out.2.1.alloc _).alloc _) _ rfl 1 _ (src_new _ Try.underlying23 5 1 (evsC [⟨k, y, m, t, c2⟩]) 40 _ rfl (evsC_one _) (heap_new2c _ _ _)) ?e1 ?e2 ?_)
      case e1 => unfold maxLen; omega
      case e2 => omega
      intro v3 w3 hW3 hG3 hO3
      have hM3 : Made w w3 v3 (j + 1) (L.take j ++ [⟨k, y, m, t, c2⟩]) := made_more HM1.out (up_alloc (up_alloc (Below.refl _ _) _) _) hW3.out hG3.out (by simpa using hO3.out)
      rw [← HTK.out] at hM3
      obtain ⟨a3, c3, rfl, _, _⟩ := hM3.2.1.slice_form
      have M3 := Lib.hid hM3
      clear hW3 hG3 hO3 hM3
      go_wp2
      go_roundw
      case rel => exact ⟨j + 1, a3, c3, rfl, rfl, hlt, M3⟩
      case measure => simp [RowKit.intOf]; omega
    · obtain rfl : j = n := by omega
      have HF : Hid (Made w wr (.slice a1 j c1) j L) := Lib.hid (by
        have := HM.out
        rwa [List.take_of_length_le (by rw [HNN.out]; exact Nat.le_refl _)] at this)
      go_wp2
      go_ret
      exact ⟨_, rfl, HF.out⟩
/-! ### All -/
/-- Behind an error there is nothing more. -/
theorem all_stopC {D e j : Nat} {l : List UInt8} (h : (runCi D ci0 (l.take j)).1 = .bad e) : allCi D l = ((runCi D ci0 (l.take j)).2, e) := by
  have h1 := runCi_append D ci0 (l.take j) (l.drop j)
  rw [List.take_append_drop] at h1
  unfold allCi
  rw [h1, h, runCi_bad]
  simp [endCi]
theorem CP.keepB {w w' : World} {b o D pl : Nat} {h : Hd} {mj : Nat} {ch : Bool} {lk : Nat} {vt : Value} {t : List UInt8} {u : Option (Nat × Nat × Nat)} {vs : Value} {n : Nat} {xs : List Value} (c : CP w b o D pl h mj ch lk vt t u vs n xs) (hb : w'.heap[b]? = w.heap[b]?) (hg : ∀ k ∈ Value.owner vt ++ Value.owner vs, w'.heap[k]? = w.heap[k]?) : CP w' b o D pl h mj ch lk vt t u vs n xs :=
  ⟨c.a.keep hb, c.hd.keep hb, c.tx.keep hb, c.ck.keep hb, ⟨c.op.ptr.keep hb, c.op.win.keep fun k hk => hg k (List.mem_append.2 (.inr hk)), c.op.far⟩, c.wt.keep fun k hk => hg k (List.mem_append.2 (.inl hk)), c.ft⟩
theorem StP.keepB {w w' : World} {b o D : Nat} {s : Ci} {vt vs : Value} (h : StP w b o D s vt vs) (hb : w'.heap[b]? = w.heap[b]?) (hg : ∀ k ∈ Value.owner vt ++ Value.owner vs, w'.heap[k]? = w.heap[k]?) : StP w' b o D s vt vs := by
  cases s with
  | bad e => exact ⟨h.1, h.2.1.keep hb, h.2.2⟩
  | _ => exact CP.keepB h hb hg
theorem CP.evs {w : World} {b o D pl : Nat} {h : Hd} {mj : Nat} {ch : Bool} {lk : Nat} {vt : Value} {t : List UInt8} {u : Option (Nat × Nat × Nat)} {vs : Value} {n : Nat} {xs : List Value} (c : CP w b o D pl h mj ch lk vt t u vs n xs) {v : Value} {m : Nat} {L : List Value} (hv : Win w 40 5 v m L) : ∀ k ∈ Value.owner vt ++ Value.owner vs, k ∉ Value.owner v := fun k hk => by
  rcases List.mem_append.1 hk with hk | hk
  · exact hv.apart2 c.wt (by decide) k hk
  · exact hv.apart2 c.op.win (by decide) k hk
theorem StP.evs {w : World} {b o D : Nat} {s : Ci} {vt vs : Value} (h : StP w b o D s vt vs) {v : Value} {m : Nat} {L : List Value} (hv : Win w 40 5 v m L) : ∀ k ∈ Value.owner vt ++ Value.owner vs, k ∉ Value.owner v := by
  cases s with
  | bad e =>
    obtain ⟨_, _, rfl, rfl⟩ := h
    intro k hk
    simp [Value.owner] at hk
  | _ => exact CP.evs h hv
theorem CP.olt {w : World} {b o D pl : Nat} {h : Hd} {mj : Nat} {ch : Bool} {lk : Nat} {vt : Value} {t : List UInt8} {u : Option (Nat × Nat × Nat)} {vs : Value} {n : Nat} {xs : List Value} (c : CP w b o D pl h mj ch lk vt t u vs n xs) : ∀ k ∈ Value.owner vt ++ Value.owner vs, k < w.heap.size := fun k hk => by
  rcases List.mem_append.1 hk with hk | hk
  · exact c.wt.lt k hk
  · exact c.op.win.lt k hk
theorem StP.olt {w : World} {b o D : Nat} {s : Ci} {vt vs : Value} (h : StP w b o D s vt vs) : ∀ k ∈ Value.owner vt ++ Value.owner vs, k < w.heap.size := by
  cases s with
  | bad e =>
    obtain ⟨_, _, rfl, rfl⟩ := h
    intro k hk
    simp [Value.owner] at hk
  | _ => exact CP.olt h
/-- In the midst of All: the Parser, in the block that New made; the parts so far. -/
structure AllK (w w1 wr : World) (D M : Nat) (s : Ci) (u : Value) (n : Nat) (L : List Ev) : Prop where
  pat : ∃ vt vs, StP wr w.heap.size 0 D s vt vs ∧ ∀ k ∈ Value.owner vt ++ Value.owner vs, w.heap.size ≤ k
  wf : WfK D M s
  wfc : WfCi D s
  win : Win wr 40 5 u n (evsC L)
  own : ∀ k ∈ Value.owner u, w1.heap.size ≤ k
  below : Below w.heap.size w wr
  b1 : w.heap.size < w1.heap.size
  size : w1.heap.size ≤ wr.heap.size
theorem AllK.kept {w w1 wr w2 w3 : World} {D M : Nat} {s : Ci} {u u2 vt vs : Value} {n m : Nat} {L K : List Ev} {q : Ci × List Ev} {r : Ending} (h : AllK w w1 wr D M s u n L) (hst : StP wr w.heap.size 0 D s vt vs) (hK : StepK wr w2 w.heap.size 0 D vt vs q r) (hM : Made w2 w3 u2 m K) : Win w3 40 5 u n (evsC L) :=
  h.win.keep fun k hk => by
    have h1 := h.win.lt k hk
    have h2 := h.own k hk
    have h3 := h.b1
    exact (hM.1.block k (Nat.lt_of_lt_of_le h1 hK.2.2.size)).trans (hK.2.2.block k h1 (by omega) (fun hg => hst.evs h.win k hg hk))
/-- Behind a step that told parts, and their append. -/
theorem AllK.next {w w1 wr w2 w3 w4 : World} {D M : Nat} {s : Ci} {u u2 u3 vt vs : Value} {n m : Nat} {L K : List Ev} {q : Ci × List Ev} {r : Ending} (h : AllK w w1 wr D M s u n L) (hst : StP wr w.heap.size 0 D s vt vs) (ho : ∀ k ∈ Value.owner vt ++ Value.owner vs, w.heap.size ≤ k) (hK : StepK wr w2 w.heap.size 0 D vt vs q r) (hwf : WfK D (M + 1) q.1) (hwc : WfCi D q.1) (hM : Made w2 w3 u2 m K)
    (hW : Win w4 40 5 u3 (n + m) (evsC L ++ evsC K)) (hG : w3.grownBy w4 u.ownBlock) (hO : u3.ownBlock = u.ownBlock ∨ u3.ownBlock = some w3.heap.size ∧ w3.heap.size < w4.heap.size) : AllK w w1 w4 D (M + 1) q.1 u3 (n + m) (L ++ K) := by
  have hrow : ∀ k, u.ownBlock = some k → w1.heap.size ≤ k := fun k hk => h.own k ((ob_iff _ _).1 hk)
  have hu3 := h.kept hst hK hM
  obtain ⟨⟨x, _, hv⟩, ⟨vt', vs', hst', ho'⟩, hS⟩ := hK
  have h12 : wr.heap.size ≤ w2.heap.size := hS.size
  have h23 : w2.heap.size ≤ w3.heap.size := hM.1.size
  have hb := h.b1
  have hs := h.size
  have h3 : Below w.heap.size w w3 := (h.below.trans (hS.below (Nat.le_refl _) ho (by omega))).trans (hM.1.mono (by omega))
  have hst3 : StP w3 w.heap.size 0 D q.1 vt' vs' := hst'.go hM.1
  have hlt := hst3.olt
  have hbl := hst3.lt
  have hev := hst3.evs hu3
  refine ⟨⟨vt', vs', hst3.keepB (hG.block _ hbl (fun e => by have := hrow _ e.symm; omega)) (fun k hk => hG.block k (hlt k hk) (fun e => hev k hk ((ob_iff _ _).1 e.symm))), fun k hk => (ho' k hk).elim (ho k) (fun h => by omega)⟩, hwf, hwc, by rw [evsC_append]; exact hW, fun k hk => ?_, h3.grown hG (by omega) (fun k hk => by have := hrow k hk; omega), hb, Nat.le_trans hs (Nat.le_trans h12 (Nat.le_trans h23 hG.size))⟩
  rcases hO with e | ⟨e, _⟩
  · exact hrow k (e ▸ (ob_iff _ _).2 hk)
  · have h2 := (ob_iff _ _).2 hk
    rw [e] at h2
    cases h2
    omega
/-- The list, told of the world ahead of all. -/
theorem AllK.made {w w1 wr : World} {D M : Nat} {s : Ci} {u : Value} {n : Nat} {L : List Ev} (h : AllK w w1 wr D M s u n L) : Made w wr u n L := ⟨h.below, h.win, fun k hk => Nat.le_trans (Nat.le_of_lt h.b1) (h.own k hk)⟩
set_option maxRecDepth 100000 in
set_option maxHeartbeats 4000000 in
/-- ALL. -/
theorem call_any : CinAll := by
  intro bs D hD hz w
  obtain ⟨X, hX⟩ : ∃ X : ByteArray, (⟨bs.toArray⟩ : ByteArray) = X := ⟨_, rfl⟩
  have hsz : X.size = bs.length := by rw [← hX]; exact size_of bs
  have hget : ∀ (i : Nat) (h : i < X.size) (h' : i < bs.length), X[i] = bs[i]'h' := by subst hX; intro i h h'; rfl
  have HGET := Lib.hid hget
  have HSZ := Lib.hid hsz
  have HZ := Lib.hid (And.intro hz hD)
  have HN := Lib.hid (cnew_any D hD w)
  have hx : X.size ≤ 100000000 := by omega
  have HX := Lib.hid hX
  rw [hX]
  clear hX hget hsz hz hD
  go_enter Try.func14, Try.ntmps14
  go_wp2_with fail
  refine HN.out.mono ?_
  rintro r w1 ⟨rfl, hP, hb⟩
  have hs1 : w.heap.size < w1.heap.size := hP.lt
  have H0 : Hid (AllK w w1 w1 D 0 (runCi D ci0 (bs.take 0)).1 (.slice none 0 0) 0 (runCi D ci0 (bs.take 0)).2) := Lib.hid ⟨⟨_, _, by simpa [runCi] using hP, fun k hk => by simp [Value.owner] at hk⟩, by simpa [runCi] using wfK_ci0 D 0, by simpa [runCi] using wf_ci0 D, by simpa [runCi, evsC] using Win.nil_ _ _ _, fun k hk => by simp [Value.owner] at hk, hb, hs1, Nat.le_refl _⟩
  clear hP hb hs1
  go_wp2
  go_loopw [7, 8, 9, 10, 17] (fun l _ _ _ i wr => ∃ (j n : Nat) (a : Option Addr) (c : Nat), l = .slice a n c ∧ i = .int .i64 j ∧ j ≤ X.size ∧ n ≤ 18 * j ∧ Hid (AllK w w1 wr D j (runCi D ci0 (bs.take j)).1 (.slice a n c) n (runCi D ci0 (bs.take j)).2)) (fun _ _ _ _ i _ => X.size - (RowKit.intOf i).toNat)
  case atStart => exact ⟨0, 0, none, 0, rfl, rfl, by omega, by omega, H0⟩
  case round =>
    obtain ⟨j, n, a, c, rfl, rfl, hj, hn, HA⟩ := hrel
    clear H0
    obtain ⟨vt, vs, hst, ho⟩ := HA.out.pat
    have HST := Lib.hid (And.intro hst ho)
    by_cases hlt : j < X.size
    · have hjl : j < bs.length := by rw [← HSZ.out]; exact hlt
      have hy := HGET.out j hlt hjl
      have hsn := runCi_snoc D ci0 bs j hjl
      have hS := cstep_at HZ.out.2 hst HA.out.wf (by omega) bs[j]
      have hF := fine_step bs[j] HA.out.wfc
      have hwf := wf_stepCi HZ.out.2.2 HA.out.wf bs[j]
      have hD16 := HA.out.wfc
      have hstp := @all_stopC D
      obtain ⟨y, hyy⟩ : ∃ y, bs[j] = y := ⟨_, rfl⟩
      rw [hyy] at hy hS hF hsn hwf
      have hsk : stkC (runCi D ci0 (bs.take j)).1 ≤ 16 := by
        have := HA.out.wf
        revert this
        generalize (runCi D ci0 (bs.take j)).1 = s
        intro h
        cases s with
        | bad e => exact Nat.zero_le _
        | item s dn => exact h.1.deep
        | head s g => exact h.1.1.deep
        | text s m n t u => exact h.1.1.deep
        | open_ s m t => exact h.1.1.deep
        | chead s m t g => exact h.1.1.deep
        | ctext s m t n u => exact h.1.1.deep
      have hlen : (stepCi D (runCi D ci0 (bs.take j)).1 y).2.length ≤ 18 := by have := hF.len; omega
      have hTd := hF.told
      have hwc := hF.wf
      clear hF hsk hD16
      generalize runCi D ci0 (bs.take j) = R at *
      obtain ⟨s, L⟩ := R
      simp only at hS hTd hsn hlen HA hwf hwc HST
      generalize stepCi D s y = T at *
      obtain ⟨s', K⟩ := T
      simp only at hTd hsn hlen hwf hwc
      have HS := Lib.hid hS
      have HTD := Lib.hid hTd
      have HSN := Lib.hid hsn
      have HL := Lib.hid hlen
      have HW := Lib.hid (And.intro hwf hwc)
      have HHN := Lib.hid hn
      have hn9 : n ≤ 1800000000 := by omega
      clear hS hTd hsn hlen hyy hstp hjl hn hwf hwc hst ho
      unfold StepK at HS
      go_wp2_with fail
      refine HS.out.mono ?_
      rintro r w2 ⟨⟨v2, rfl, hV⟩, hrest⟩
      have H2 : Hid (StepK wr w2 w.heap.size 0 D vt vs (s', K) (.returned (.tuple #[v2, .int .i64 (errCi s' : Nat)]))) := Lib.hid ⟨⟨v2, rfl, hV⟩, hrest⟩
      have HV := Lib.hid hV
      clear hV hrest
      go_wp2_with fail
      refine (cplain_at HV.out HTD.out (by have := HL.out; omega)).mono ?_
      rintro r w3 ⟨u2, rfl, hM⟩
      obtain ⟨a2, c2, rfl, _, _⟩ := hM.2.1.slice_form
      have HW1 := Lib.hid (HA.out.kept HST.out.1 H2.out hM)
      have H3 := Lib.hid hM
      clear hM
      obtain ⟨m, hm⟩ : ∃ m, K.length = m := ⟨_, rfl⟩
      have hm9 : m ≤ 18 := by have := HL.out; omega
      have HW2 : Hid (Win w3 40 5 (.slice a2 m c2) m (evsC K)) := Lib.hid (by have := H3.out.2.1; rwa [hm] at this)
      have H3' : Hid (Made w2 w3 (.slice a2 m c2) m K) := Lib.hid (by have := H3.out; rwa [hm] at this)
      rw [hm]
      clear hm H3
      go_wp2_with (at_builtin; refine wpList_append_win rfl _ _ _ rfl Try.underlying23 info_ev rfl rfl HW1.out _ rfl m _ (HW2.out.src Try.underlying23 (evsC_one _)) ?e1 ?e2 ?_)
      case e1 => unfold maxLen; omega
      case e2 => omega
      intro v4 w4 hW4 hG4 hO4
      have hA4 := HA.out.next HST.out.1 HST.out.2 H2.out HW.out.1 HW.out.2 H3'.out hW4.out hG4.out hO4.out
      obtain ⟨a4, c4, rfl, _, _⟩ := hA4.win.slice_form
      have H4 := Lib.hid hA4
      clear hW4 hG4 hO4 hA4
      by_cases he : errCi s' = 0
      · rw [he]
        clear he
        go_wp2
        go_roundw
        case rel => exact ⟨j + 1, n + m, a4, c4, rfl, rfl, hlt, by have := HHN.out; omega, Lib.hid (by rw [HSN.out]; exact H4.out)⟩
        case measure => simp [RowKit.intOf]; omega
      · obtain ⟨e, hbad, hne⟩ := err_bad he
        have hR : allCi D bs = (L ++ K, e) := by
          have := all_stopC (D := D) (e := e) (j := j + 1) (l := bs) (by rw [HSN.out]; exact hbad)
          rw [this, HSN.out]
        have HR := Lib.hid hR
        have hz : ((e : Int) != 0) = true := by rw [bne_iff_ne]; omega
        rw [hbad]
        simp only [errCi]
        have hlen : (L ++ K).length = n + m := by
          have h1 := H4.out.win.1
          rw [evsC_length] at h1
          omega
        have HLEN := Lib.hid hlen
        clear he hbad hR hlen hne
        go_wp2
        go_ret2
        rw [HR.out]
        refine ⟨_, rfl, ?_⟩
        have := H4.out.made
        simp only
        rw [HLEN.out]
        exact this
    · obtain rfl : j = X.size := by omega
      have hE := cend_at HZ.out.2.1 hst HA.out.wf
      have hall : allCi D bs = ((runCi D ci0 (bs.take X.size)).2, endCi (runCi D ci0 (bs.take X.size)).1) := by
        rw [List.take_of_length_le (by rw [HSZ.out]; exact Nat.le_refl _)]
        rfl
      generalize runCi D ci0 (bs.take X.size) = R at *
      obtain ⟨s, L⟩ := R
      simp only at hE HA hall
      generalize endCi s = E at *
      have HE := Lib.hid hE
      have HALL := Lib.hid hall
      clear hE hall hn hst ho
      go_wp2_with fail
      refine HE.out.mono ?_
      rintro r w2 ⟨rfl, rfl⟩
      go_wp2
      go_ret2
      rw [HALL.out]
      refine ⟨_, rfl, ?_⟩
      simp only
      have h1 := HA.out.win.1
      rw [evsC_length] at h1
      have hl : L.length = n := by omega
      rw [hl]
      exact HA.out.made
end Go.Proofs.Ytgknpheefbfnlaa
