/-
  Parts: CinPn, PipPure, HeadPut, CoD, CoF, CoG, CoSz.
-/
import Derived.Test.YtkgconbdmnmbnaaGreatG1d
import Derived.Test.YtkgconbdmnmbnaaGreatG0g
import Derived.Test.YtkgconbdmnmbnaaGreatG1a
import Derived.Test.YtkgconbdmnmbnaaGreatG0n
import Derived.Test.YtkgconbdmnmbnaaGreatG0o
import Derived.Test.YtkgconbdmnmbnaaGreatHHeadRh
import Derived.Deep.RegionWith
import Derived.Test.YtkgconbdmnmbnaaGreatG0l
set_option maxRecDepth 100000
set_option maxHeartbeats 16000000
open Go.Lib (hid)
namespace Go.Proofs.YtkgconbdmnmbnaaGreat
section
open Go.Lib
structure AllS (M : Nat) (s : List Bx) : Prop where
  deep : s.length ≤ 16
  c : ∀ x ∈ s, -1 ≤ x.c ∧ x.c ≤ 1000000
  some_ : ∀ x ∈ s, 1 ≤ x.have_
  most : ∀ x ∈ s, x.have_ ≤ M
structure PS (M : Nat) (s : List Bx) : Prop where
  deep : s.length ≤ 16
  c : ∀ x ∈ s, -1 ≤ x.c ∧ x.c ≤ 1000000
  some_ : ∀ x ∈ s.tail, 1 ≤ x.have_
  most : ∀ x ∈ s, x.have_ ≤ M
theorem PS.ok {M : Nat} {s : List Bx} (h : PS M s) (hM : M + 1 ≤ 2000000000) : OkS s ∧ ∀ x ∈ s, x.have_ + 1 ≤ 2000000000 :=
  ⟨⟨h.deep, h.c, h.some_, fun x hx => by have := h.most x hx; omega⟩, fun x hx => by have := h.most x hx; omega⟩
theorem PS.mono {M N : Nat} {s : List Bx} (h : PS M s) (hM : M ≤ N) : PS N s := ⟨h.deep, h.c, h.some_, fun x hx => Nat.le_trans (h.most x hx) hM⟩
theorem AllS.ps {M : Nat} {s : List Bx} (h : AllS M s) : PS M s := ⟨h.deep, h.c, fun x hx => h.some_ x (List.mem_of_mem_tail hx), h.most⟩
theorem PS.inc {M : Nat} {s : List Bx} (h : PS M s) : AllS (M + 1) (incB s) := by
  cases s with
  | nil => exact ⟨by simp [incB], fun x hx => by simp [incB] at hx, fun x hx => by simp [incB] at hx, fun x hx => by simp [incB] at hx⟩
  | cons y r =>
    refine ⟨h.deep, fun x hx => ?_, fun x hx => ?_, fun x hx => ?_⟩
    all_goals
      simp only [incB, List.mem_cons] at hx; rcases hx with rfl | hx
    · exact h.c y (by simp)
    · exact h.c x (List.mem_cons_of_mem _ hx)
    · simp
    · exact h.some_ x hx
    · have := h.most y (by simp); simp only; omega
    · have := h.most x (List.mem_cons_of_mem _ hx); omega
theorem AllS.tail {M : Nat} {x : Bx} {r : List Bx} (h : AllS M (x :: r)) : AllS M r :=
  ⟨by have := h.deep; simp only [List.length_cons] at this; omega, fun y hy => h.c y (List.mem_cons_of_mem _ hy), fun y hy => h.some_ y (List.mem_cons_of_mem _ hy), fun y hy => h.most y (List.mem_cons_of_mem _ hy)⟩
theorem AllS.rest {M : Nat} : ∀ {s : List Bx}, AllS M s → PS M (restC s)
  | [], h => h.ps
  | b :: r, h => by
    simp only [restC]; split
    · exact h.tail.rest
    · exact h.ps
def WfK (D M : Nat) : Ci → Prop
  | .bad e => e ≠ 0
  | .item s dn => PS M s ∧ s.length ≤ D ∧ (dn = true → s = [])
  | .head s h => (PS M s ∧ s.length ≤ D) ∧ (keyB s = true → majH h = 3) ∧ (4 ≤ majH h → s.length < D) ∧ majH h < 6 ∧ ∃ m n v, h = .mid m n v
  | .text s m n t u => (PS M s ∧ s.length ≤ D) ∧ 1 ≤ n ∧ t.length + n ≤ 200 ∧ (m = false → u = st0)
  | .open_ s _ t => (PS M s ∧ s.length ≤ D) ∧ t.length ≤ 200
  | .chead s m t h => (PS M s ∧ s.length ≤ D) ∧ t.length ≤ 200 ∧ ∃ n v, h = .mid (mjT m) n v
  | .ctext s m t n u => (PS M s ∧ s.length ≤ D) ∧ 1 ≤ n ∧ t.length + n ≤ 200 ∧ (m = false → u = st0)
theorem wf_at {D M : Nat} {s : List Bx} (h : AllS M s) (hd : s.length ≤ D) : WfK D M (atC s) := ⟨h.rest, Nat.le_trans (rest_len s) hd, fun h => by simpa using h⟩
theorem wf_put {D M : Nat} {s : List Bx} (h : PS M s) (hd : s.length ≤ D) (e : Ev) : WfK D (M + 1) (putC s e).1 := wf_at h.inc (by rw [inc_lenK]; exact hd)
theorem wf_begin {D M : Nat} {s : List Bx} (h : PS M s) (hd : s.length < D) (hD : D ≤ 16) (m : Bool) {c : Int} (hc : -1 ≤ c ∧ c ≤ 1000000) : WfK D (M + 1) (beginC s m c).1 := by
  by_cases h0 : c = 0
  · subst h0
    rw [begin_zero]; exact wf_at h.inc (by rw [inc_lenK]; omega)
  · rw [begin_ne s m h0]
    have hi := h.inc; refine ⟨⟨by simp only [List.length_cons, inc_lenK]; omega, fun x hx => ?_, fun x hx => hi.some_ x hx, fun x hx => ?_⟩, by simp only [List.length_cons, inc_lenK]; omega, fun h => by cases h⟩
    · simp only [List.mem_cons] at hx
      rcases hx with rfl | hx
      · exact hc
      · exact hi.c x hx
    · simp only [List.mem_cons] at hx
      rcases hx with rfl | hx
      · simp
      · exact hi.most x hx
theorem wf_head {D M : Nat} {s : List Bx} (h : PS M s) (hd : s.length ≤ D) (hD : D ≤ 16) {g : Hd} (hk : keyB s = true → majH g = 3) (hx : 4 ≤ majH g → s.length < D) (hm : majH g < 6) (hn : g ≠ .new) (he : ∀ e, g = .bad e → e ≠ 0) : WfK D (M + 1) (headC s g).1 := by
  have h1 := h.mono (Nat.le_succ M); cases g with
  | bad e => exact he e rfl
  | new => exact absurd rfl hn
  | mid m n v => exact ⟨⟨h1, hd⟩, hk, hx, hm, m, n, v, rfl⟩
  | fin m v o =>
    simp only [majH] at hk hx hm; simp only [headC]; split
    · exact wf_put h hd _
    split
    · split
      · exact ⟨⟨h1, hd⟩, by simp⟩
      split
      · exact (by decide : (5 : Nat) ≠ 0)
      split
      · exact wf_put h hd _
      · exact ⟨⟨h1, hd⟩, by omega, by simp only [List.length_nil]; omega, fun _ => rfl⟩
    · split
      · exact wf_begin h (hx (by omega)) hD _ (by omega)
      split
      · exact (by decide : (7 : Nat) ≠ 0)
      · exact wf_begin h (hx (by omega)) hD _ (by omega)
theorem wf_chunk {D M : Nat} {s : List Bx} {m : Bool} {t : List UInt8} (h : PS M s ∧ s.length ≤ D) (ht : t.length ≤ 200) {g : Hd} (hn : g ≠ .new) (he : ∀ e, g = .bad e → e ≠ 0) (hm : ∀ a n v, g = .mid a n v → a = mjT m) : WfK D (M + 1) (chunkC s m t g).1 := by
  have h1 := h.1.mono (Nat.le_succ M); cases g with
  | bad e => exact he e rfl
  | new => exact absurd rfl hn
  | mid a n v =>
    obtain rfl := hm a n v rfl; exact ⟨⟨h1, h.2⟩, ht, n, v, rfl⟩
  | fin a v o =>
    simp only [chunkC]; split
    · exact (by decide : (5 : Nat) ≠ 0)
    split
    · exact ⟨⟨h1, h.2⟩, ht⟩
    · exact ⟨⟨h1, h.2⟩, by omega, by omega, fun _ => rfl⟩
theorem wf_goC {D M : Nat} {s : List Bx} {m ch : Bool} {t : List UInt8} {n : Nat} {u : Option (Nat × Nat × Nat)} (h : PS M s ∧ s.length ≤ D) (ht : t.length + n ≤ 200) (hu : m = false → u = st0) : WfK D (M + 1) (goC s m ch t n u).1 := by
  have h1 := h.1.mono (Nat.le_succ M); unfold goC; split
  · cases ch
    · exact ⟨⟨h1, h.2⟩, by omega, ht, hu⟩
    · exact ⟨⟨h1, h.2⟩, by omega, ht, hu⟩
  split
  · exact ⟨⟨h1, h.2⟩, by omega⟩
  · exact wf_put h.1 h.2 _
theorem wf_bytC {D M : Nat} {s : List Bx} {m ch : Bool} {t : List UInt8} {n : Nat} {u : Option (Nat × Nat × Nat)} (h : PS M s ∧ s.length ≤ D) (ht : t.length + (n + 1) ≤ 200) (hu : m = false → u = st0) (y : UInt8) : WfK D (M + 1) (bytC s m ch t n u y).1 := by
  unfold bytC; split
  · refine wf_goC h (by simp only [List.length_append, List.length_cons, List.length_nil]; omega) (fun hm => ?_)
    subst hm; exact hu rfl
  · exact (by decide : (9 : Nat) ≠ 0)
theorem wf_stepCi {D M : Nat} (hD : D ≤ 16) {s : Ci} (h : WfK D M s) (y : UInt8) : WfK D (M + 1) (stepCi D s y).1 := by
  have hb := y.toNat_lt; cases s with
  | bad e => exact h
  | item s dn =>
    obtain ⟨hp, hd, _⟩ := h; simp only [stepCi]; unfold firstC; split
    · exact (by decide : (2 : Nat) ≠ 0)
    rename_i hform; split
    · cases s with
      | nil => exact (by decide : (2 : Nat) ≠ 0)
      | cons x r =>
        simp only; split
        · exact (by decide : (2 : Nat) ≠ 0)
        · have ha : AllS (M + 1) r := ⟨by have := hp.deep; simp only [List.length_cons] at this; omega, fun y hy => hp.c y (List.mem_cons_of_mem _ hy), fun y hy => hp.some_ y hy, fun y hy => by have := hp.most y (List.mem_cons_of_mem _ hy); omega⟩
          exact wf_at ha (by simp only [List.length_cons] at hd; omega)
    split
    · exact (by decide : (8 : Nat) ≠ 0)
    rename_i hkey; split
    · exact (by decide : (8 : Nat) ≠ 0)
    split
    · split
      · exact wf_put hp hd _
      split
      · exact wf_put hp hd _
      split
      · exact (by decide : (6 : Nat) ≠ 0)
      · exact (by decide : (8 : Nat) ≠ 0)
    split
    · exact (by decide : (4 : Nat) ≠ 0)
    · rename_i h6 h7 hdd
      have hmj := maj_new (b := y.toNat) (fun h => hform (.inr (.inl h))); refine wf_head hp hd hD ?_ ?_ ?_ (stepH_new (.inl rfl)) (fun e he => stepH_err (fun f hf => by cases hf) he)
      · intro hk
        rw [hmj]; by_cases h3 : y.toNat / 32 = 3
        · exact h3
        · exact absurd ⟨hk, h3⟩ hkey
      · intro h4
        rw [hmj] at h4; by_cases hh : D ≤ s.length
        · exact absurd ⟨by omega, hh⟩ hdd
        · omega
      · rw [hmj]
        omega
  | head s g =>
    obtain ⟨⟨hp, hd⟩, h1, h2, h3, m, n, v, rfl⟩ := h; have hmj : majH (stepH (.mid m n v) y.toNat) = m := by
      simp only [stepH]; split <;> rfl
    exact wf_head hp hd hD (by rw [hmj]; exact h1) (by rw [hmj]; exact h2) (by rw [hmj]; exact h3) (stepH_new (.inr ⟨m, n, v, rfl⟩)) (fun e he => stepH_err (fun f hf => by cases hf) he)
  | text s m n t u =>
    obtain ⟨hp, hn, ht, hu⟩ := h; obtain ⟨n', rfl⟩ : ∃ n', n = n' + 1 := ⟨n - 1, by omega⟩
    rw [text_eq]; exact wf_bytC hp ht hu y
  | open_ s m t =>
    obtain ⟨hp, ht⟩ := h; by_cases hf : y.toNat = 255
    · simp only [stepCi]
      rw [if_pos hf]; exact wf_put hp.1 hp.2 _
    · by_cases hc : y.toNat / 32 ≠ (if m = true then 3 else 2) ∨ 28 ≤ y.toNat % 32
      · simp only [stepCi]
        rw [if_neg hf, if_pos hc]; exact (by decide : (2 : Nat) ≠ 0)
      · simp only [stepCi]
        rw [if_neg hf, if_neg hc]; refine wf_chunk hp ht (stepH_new (.inl rfl)) (fun e he => stepH_err (fun f hf => by cases hf) he) (fun a n v hg => ?_); have hmj := maj_new (b := y.toNat) (fun h => hc (.inr h.1)); rw [hg] at hmj; simp only [majH] at hmj; rw [hmj]; by_cases h4 : y.toNat / 32 = (if m = true then 3 else 2)
        · exact h4
        · exact absurd (.inl h4) hc
  | chead s m t g =>
    obtain ⟨hp, ht, n, v, rfl⟩ := h; refine wf_chunk hp ht (stepH_new (.inr ⟨_, n, v, rfl⟩)) (fun e he => stepH_err (fun f hf => by cases hf) he) (fun a n' v' hg => ?_); simp only [stepH] at hg; split at hg
    · cases hg
    · injection hg with h1; exact h1.symm
  | ctext s m t n u =>
    obtain ⟨hp, hn, ht, hu⟩ := h; obtain ⟨n', rfl⟩ : ∃ n', n = n' + 1 := ⟨n - 1, by omega⟩
    rw [ctext_eq]; exact wf_bytC hp ht hu y
def stkK : Ci → List Bx
  | .bad _ => []
  | .item s _ => s
  | .head s _ => s
  | .text s _ _ _ _ => s
  | .open_ s _ _ => s
  | .chead s _ _ _ => s
  | .ctext s _ _ _ _ => s
def SmC (s : Ci) : Prop := ∀ x ∈ stkK s, x.have_ ≤ 1000000000
theorem wfK_ci0 (D M : Nat) : WfK D M ci0 := ⟨⟨by simp, fun x hx => by simp at hx, fun x hx => by simp at hx, fun x hx => by simp at hx⟩, by simp, fun h => by cases h⟩
end
section
open Go.Lib
inductive Rs
  | js (s : Js)
  | cb (s : Ci)
  | pk (s : Pm)
inductive Ws
  | js (pr : Bool → Nat → List UInt8) (q : Os)
  | cb (q : Kq)
  | pk (q : Kq)
def stepRs (D : Nat) : Rs → UInt8 → Rs × List Ev
  | .js s, b => (.js (stepJ D s b).1, (stepJ D s b).2)
  | .cb s, b => (.cb (stepCi D s b).1, (stepCi D s b).2)
  | .pk s, b => (.pk (stepPm D s b).1, (stepPm D s b).2)
def errRs : Rs → Nat
  | .js s => errP s.p
  | .cb s => errCi s
  | .pk s => errPm s
def endRs (D : Nat) : Rs → List Ev × Nat
  | .js s => endJ D s
  | .cb s => ([], endCi s)
  | .pk s => ([], endPm s)
def stepWs : Ws → Ev → (List UInt8 × Nat) × Ws
  | .js pr q, e => ((stepOx pr q e).1, .js pr (stepOx pr q e).2)
  | .cb q, e => ((stepQ q e).1, .cb (stepQ q e).2)
  | .pk q, e => ((stepR q e).1, .pk (stepR q e).2)
def writesP : Ws → List Ev → (List UInt8 × Nat) × Ws
  | q, [] => (([], 0), q)
  | q, e :: l => if (stepWs q e).1.2 ≠ 0 then (([], (stepWs q e).1.2), (stepWs q e).2) else (((stepWs q e).1.1 ++ (writesP (stepWs q e).2 l).1.1, (writesP (stepWs q e).2 l).1.2), (writesP (stepWs q e).2 l).2)
def freeP (lim : Nat) : Option Gs → Ev → Option Gs × List Ev × Nat
  | none, e => (none, [e], 0)
  | some g, e => (some (stepG lim g e).s, (stepG lim g e).l, (stepG lim g e).e)
def passP (lim : Nat) (g : Option Gs) (q : Ws) (e : Ev) : (List UInt8 × Nat) × (Option Gs × Ws) :=
  if (freeP lim g e).2.2 ≠ 0 then (([], (freeP lim g e).2.2), ((freeP lim g e).1, q)) else ((writesP q (freeP lim g e).2.1).1, ((freeP lim g e).1, (writesP q (freeP lim g e).2.1).2))
def turnP (lim : Nat) : Option Gs → Ws → List Ev → Nat → (List UInt8 × Nat) × (Option Gs × Ws)
  | g, q, [], told => (([], told), (g, q))
  | g, q, e :: l, told => if (passP lim g q e).1.2 ≠ 0 then passP lim g q e else (((passP lim g q e).1.1 ++ (turnP lim (passP lim g q e).2.1 (passP lim g q e).2.2 l told).1.1, (turnP lim (passP lim g q e).2.1 (passP lim g q e).2.2 l told).1.2), (turnP lim (passP lim g q e).2.1 (passP lim g q e).2.2 l told).2)
inductive Pp
  | over (e : Nat)
  | live (r : Rs) (g : Option Gs) (q : Ws)
def overE (e : Nat) : Nat := if e = 0 then 14 else e
def stepPp (D lim : Nat) : Pp → UInt8 → Pp × (List UInt8 × Nat)
  | .over e, _ => (.over e, ([], overE e))
  | .live r g q, b =>
    if (turnP lim g q (stepRs D r b).2 (errRs (stepRs D r b).1)).1.2 ≠ 0 then (.over (turnP lim g q (stepRs D r b).2 (errRs (stepRs D r b).1)).1.2, (turnP lim g q (stepRs D r b).2 (errRs (stepRs D r b).1)).1)
    else (.live (stepRs D r b).1 (turnP lim g q (stepRs D r b).2 (errRs (stepRs D r b).1)).2.1 (turnP lim g q (stepRs D r b).2 (errRs (stepRs D r b).1)).2.2, (turnP lim g q (stepRs D r b).2 (errRs (stepRs D r b).1)).1)
def endPp (D lim : Nat) : Pp → Pp × (List UInt8 × Nat)
  | .over e => (.over e, ([], overE e))
  | .live r g q => (.over (turnP lim g q (endRs D r).1 (endRs D r).2).1.2, (turnP lim g q (endRs D r).1 (endRs D r).2).1)
def ovPp : Pp → Bool
  | .over _ => true
  | .live _ _ _ => false
def runPp (D lim : Nat) : Pp → List UInt8 → Pp × List UInt8
  | s, [] => (s, [])
  | s, b :: l => ((runPp D lim (stepPp D lim s b).1 l).1, (stepPp D lim s b).2.1 ++ (runPp D lim (stepPp D lim s b).1 l).2)
def batchPp (D lim : Nat) : Pp → List UInt8 → List UInt8 × Nat
  | s, [] => (endPp D lim s).2
  | s, b :: l => if (stepPp D lim s b).2.2 ≠ 0 then (stepPp D lim s b).2 else ((stepPp D lim s b).2.1 ++ (batchPp D lim (stepPp D lim s b).1 l).1, (batchPp D lim (stepPp D lim s b).1 l).2)
def rs0 (f : Int) : Rs := if f = 1 then .js j0 else if f = 2 then .cb ci0 else .pk pm0
def ws0 (pr : Bool → Nat → List UInt8) (t : Int) : Ws := if t = 1 then .js pr ⟨[], false⟩ else if t = 2 then .cb ⟨[], false⟩ else .pk ⟨[], false⟩
def pp0 (pr : Bool → Nat → List UInt8) (f t : Int) : Pp := .live (rs0 f) (if t = 3 then some gs0 else none) (ws0 pr t)
def WfRs (D M : Nat) : Rs → Prop
  | .js s => match s.p with
    | .bad _ => True
    | .at_ st dn => WfX s.lx ∧ WfJ D st dn
  | .cb s => WfK D M s ∧ WfCi D s
  | .pk s => WfPm D s
def depRs : Rs → Nat
  | .js _ => 0
  | .cb s => stkC s
  | .pk s => stkN s
theorem sz_tok (D : Nat) (p : Pj) (t : Tk) : ∀ e ∈ (tokJ D p t).2, e.t.size ≤ t.t.length := by
  have hv : ∀ (st : List FrJ) (dn : Bool) (x : Ev), x.t.size ≤ t.t.length → ∀ e ∈ (valJ st dn x).2, e.t.size ≤ t.t.length := by
    intro st dn x hx e he; unfold valJ at he; split at he
    · simp only [List.mem_singleton] at he
      exact he ▸ hx
    · simp at he
  have h0 : ∀ e : Ev, e.t = ⟨#[]⟩ → e.t.size ≤ t.t.length := fun e h => by rw [h]; exact Nat.zero_le _
  have ht : (evText t.t).t.size ≤ t.t.length := by simp [evText, ByteArray.size]
  have hshut : ∀ (m : Bool) (st : List FrJ), ∀ e ∈ (shutJ m st).2, e.t.size ≤ t.t.length := by
    intro m st e he; unfold shutJ at he; split at he
    · rename_i b p r
      by_cases hc : b = m ∧ (p = 0 ∨ p = if m then 3 else 1)
      · rw [if_pos hc] at he
        have h9 : e = evEnd := by simpa using he
        rw [h9]; exact h0 _ rfl
      · rw [if_neg hc] at he
        cases he
    · cases he
  have hopen : ∀ (st : List FrJ) (dn m : Bool), ∀ e ∈ (openJ D st dn m (evOpen m)).2, e.t.size ≤ t.t.length := by
    intro st dn m e he; unfold openJ at he; split at he
    · split at he
      · cases he
      · have h9 : e = evOpen m := by simpa using he
        rw [h9]; exact h0 _ rfl
    · cases he
  intro e he; cases p with
  | bad f => simp [tokJ] at he
  | at_ st dn =>
    simp only [tokJ] at he; split at he
    · unfold commaJ at he; split at he <;> cases he
    · split at he
      · unfold colonJ at he; split at he <;> cases he
      · split at he
        · exact hshut _ _ e he
        · split at he
          · exact hshut _ _ e he
          · split at he
            · exact hopen _ _ _ e he
            · split at he
              · exact hopen _ _ _ e he
              · split at he
                · unfold strJ at he
                  split at he
                  · simp only [List.mem_singleton] at he
                    exact he ▸ ht
                  · simp only [List.mem_singleton] at he
                    exact he ▸ ht
                  · exact hv _ _ _ ht e he
                · split at he
                  · exact hv _ _ _ (h0 _ rfl) e he
                  · split at he
                    · exact hv _ _ _ (h0 _ rfl) e he
                    · split at he
                      · exact hv _ _ _ (h0 _ rfl) e he
                      · exact hv _ _ _ (h0 _ rfl) e he
theorem sz_toks (D : Nat) : ∀ (l : List Tk) (p : Pj), (∀ t ∈ l, KindT t) → ∀ e ∈ (toksJ D p l).2, e.t.size ≤ 200
  | [], _, _, e, he => by simp [toksJ] at he
  | t :: l, p, h, e, he => by
    simp only [toksJ, List.mem_append] at he; rcases he with he | he
    · exact Nat.le_trans (sz_tok D p t e he) (h t (by simp)).2.1
    · exact sz_toks D l _ (fun x hx => h x (by simp [hx])) e he
theorem told_js {D : Nat} {s : Js} {M : Nat} (h : WfRs D M (.js s)) (b : UInt8) : WfRs D M (.js (stepJ D s b).1) ∧ (∀ e ∈ (stepJ D s b).2, ToldC e) := by
  obtain ⟨lx, p⟩ := s; cases p with
  | bad e => exact ⟨trivial, by simp [stepJ]⟩
  | at_ st dn =>
    have hw := step_wf lx h.1 b; have ht := told_toks D (stepX lx b).2 (.at_ st dn) hw.2; have hz := sz_toks D (stepX lx b).2 (.at_ st dn) hw.2; have hp := wf_toks (D := D) (stepX lx b).2 (p := .at_ st dn) h.2; simp only [stepJ]; cases hb : badX (stepX lx b).1 with
    | some e => exact ⟨trivial, by simp⟩
    | none =>
      refine ⟨?_, fun e he => ⟨(ht e he).1, (ht e he).2.1, (ht e he).2.2, hz e he⟩⟩; simp only [WfRs]; revert hp; cases (toksJ D (.at_ st dn) (stepX lx b).2).1 with
      | bad e => exact fun _ => trivial
      | at_ st' dn' => exact fun hp => ⟨hw.1, hp⟩
theorem told_endJ (D : Nat) (s : Js) : ∀ e ∈ (endJ D s).1, ToldC e := by
  intro e he; have h1 := told_fin D s e he; refine ⟨h1.1, h1.2.1, h1.2.2, ?_⟩; unfold endJ at he; split at he
  · simp at he
  · split at he
    · simp at he
    · have := sz_toks D (endX s.lx).1 s.p (end_wf _)
      split at he
      all_goals
        rename_i h; rw [h] at this; exact this e he
theorem told_rs {D M : Nat} (hD : D ≤ 16) {r : Rs} (h : WfRs D M r) (b : UInt8) : WfRs D (M + 1) (stepRs D r b).1 ∧ (∀ e ∈ (stepRs D r b).2, ToldC e) ∧ (stepRs D r b).2.length + depRs (stepRs D r b).1 ≤ depRs r + 2 := by
  cases r with
  | js s => exact ⟨(told_js h b).1, (told_js h b).2, by have := stepJ_len D s b; simpa [stepRs, depRs] using this⟩
  | cb s =>
    have hf := fine_step b h.2; exact ⟨⟨wf_stepCi hD h.1 b, hf.wf⟩, hf.told, hf.len⟩
  | pk s =>
    have hf := tolP_step hD h b; exact ⟨wfP_step hD h b, hf.told, hf.len⟩
theorem told_end_rs (D : Nat) (r : Rs) : (∀ e ∈ (endRs D r).1, ToldC e) ∧ (endRs D r).1.length ≤ 1 := by
  cases r with
  | js s => exact ⟨told_endJ D s, endJ_len D s⟩
  | cb s => exact ⟨by simp [endRs], by simp [endRs]⟩
  | pk s => exact ⟨by simp [endRs], by simp [endRs]⟩
end
section
open Go.RowKit
open Go.Lib
theorem and7 (n : Int) : bits .and .i64 n 7 = ((n % 8).toNat : Int) := by
  have h127 : (BitVec.ofInt 64 7).toNat = 2 ^ 3 - 1 := by decide
  have key : (BitVec.ofInt 64 n &&& BitVec.ofInt 64 7).toNat = (n % ((2 ^ 64 : Nat) : Int)).toNat % 2 ^ 3 := by
    rw [BitVec.toNat_and, BitVec.toNat_ofInt, h127, Nat.and_two_pow_sub_one_eq_mod]
  show IntKind.i64.wrap ((BitVec.ofInt 64 n &&& BitVec.ofInt 64 7).toNat : Nat) = _; rw [key, IntKind.wrap_i64]; omega
theorem put_small (n : Int) (v : Nat) (hv : v < 24) (w : World) :
    Calls Tryz.prog 260 #[.int .i64 n, .int .u64 v] w fun e w' => e = .returned (.string ⟨(headB (n % 8).toNat v).toArray⟩) ∧ Below w.heap.size w w' := by
  have ha := and7 n; obtain ⟨m, hm⟩ : ∃ m, (n % 8).toNat = m := ⟨_, rfl⟩
  have hm8 : m < 8 := by omega
  rw [hm] at ha ⊢; have hw1 : IntKind.u64.wrap (m : Int) = (m : Int) := wrapI_u64 _ (by omega) (by omega); have hw2 : (m : Int) * 32 = ((m * 2 ^ 5 : Nat) : Int) := by omega
  have ho := or_u64 m v 5 (by omega) (by omega); rw [← hw2] at ho; clear hw2; have HB := hid (fun W => big_1 (m * 2 ^ 5 + v) _ rfl W); have e : headB m v = bigB 1 (m * 2 ^ 5 + v) := by
    rw [big_one]; simp [headB, sizH, hv, bigB]
  rw [e]; have hz : ((v : Int) < 24) = True := by simp only [eq_iff_iff, iff_true]; omega
  generalize (⟨(bigB 1 (m * 2 ^ 5 + v)).toArray⟩ : ByteArray) = X at *
  generalize m * 2 ^ 5 + v = f at *
  clear e hm hv; go_enter Tryz.func260, Tryz.ntmps260; (go_wp2_with fail); refine (HB.out _).mono ?_; rintro e w1 ⟨rfl, b1⟩; go_wp2; go_ret; exact ⟨rfl, b1⟩
theorem put_great (n : Int) (v K : Nat) (hv : v < 18446744073709551616) (h24 : 24 ≤ v) (hK : K = 0 ∧ v < 256 ∨ K = 1 ∧ 256 ≤ v ∧ v < 65536 ∨ K = 2 ∧ 65536 ≤ v ∧ v < 4294967296 ∨ K = 3 ∧ 4294967296 ≤ v) (w : World) :
    Calls Tryz.prog 260 #[.int .i64 n, .int .u64 v] w fun e w' => e = .returned (.string ⟨(headB (n % 8).toNat v).toArray⟩) ∧ Below w.heap.size w w' := by
  have ha := and7 n; obtain ⟨m, hm⟩ : ∃ m, (n % 8).toNat = m := ⟨_, rfl⟩
  have hm8 : m < 8 := by omega
  rw [hm] at ha ⊢; have hK3 : K ≤ 3 := by omega
  have hw1 : IntKind.u64.wrap (m : Int) = (m : Int) := wrapI_u64 _ (by omega) (by omega); have hw2 : (m : Int) * 32 = ((m * 2 ^ 5 : Nat) : Int) := by omega
  have ho := or_u64 m (24 + K) 5 (by omega) (by omega); rw [← hw2] at ho; clear hw2; have HL := hid (fun W => len64_any v hv W); have l8 := bitLen_le v 8 hv; have l16 := bitLen_le v 16 hv; have l32 := bitLen_le v 32 hv; have l64 := bitLen_le v 64 hv; have hB1 := hid (fun W => big_1 (m * 2 ^ 5 + (24 + K)) _ rfl W); have hP1 : 1 ≤ 2 ^ K := Nat.pow_pos (by decide); have hP8 : 2 ^ K ≤ 8 := by
    have := Nat.pow_le_pow_right (n := 2) (by decide) hK3; omega
  have hB2 := hid (fun W => big_any v (2 ^ K) hP1 hP8 W); have e : (⟨(headB m v).toArray⟩ : ByteArray) = (⟨(bigB 1 (m * 2 ^ 5 + (24 + K))).toArray⟩ : ByteArray) ++ ⟨(bigB (2 ^ K) v).toArray⟩ := by
    rw [ba_append, big_one]; simp [headB, sizH_k v K hv h24 hK]
  rw [e]; have s1 : (⟨(bigB 1 (m * 2 ^ 5 + (24 + K))).toArray⟩ : ByteArray).size = 1 := by rw [ba_size, bigB_length]
  have s2 : (⟨(bigB (2 ^ K) v).toArray⟩ : ByteArray).size ≤ 8 := by rw [ba_size, bigB_length]; exact hP8
  generalize (⟨(bigB 1 (m * 2 ^ 5 + (24 + K))).toArray⟩ : ByteArray) = X at *
  generalize (⟨(bigB (2 ^ K) v).toArray⟩ : ByteArray) = Y at *
  generalize m * 2 ^ 5 + (24 + K) = f at *
  generalize Lib.bitLen v = L at *
  have hz : ((v : Int) < 24) = False := by simp only [eq_iff_iff, iff_false]; omega
  have hsum : (9223372036854775807 < X.size + Y.size) = False := by simp only [eq_iff_iff, iff_false]; omega
  clear e hm hP1; go_enter Tryz.func260, Tryz.ntmps260; (go_wp2_with fail)
  go_loopw [6, 7] (fun l q wr => ∃ k : Nat, k ≤ K ∧ l = .int .u64 ((24 + k : Nat) : Int) ∧ q = .int .i64 ((2 ^ k : Nat) : Int) ∧ w = wr) (fun l _ _ => 24 + K - (RowKit.intOf l).toNat)
  case atStart => exact ⟨0, Nat.zero_le _, rfl, rfl, rfl⟩
  case round =>
    obtain ⟨k, hk, rfl, rfl, rfl⟩ := hrel; by_cases hlt : k < K
    · have hd : k = 0 ∨ k = 1 ∨ k = 2 := by omega
      rcases hd with rfl | rfl | rfl
      · have hgt : ((8 : Int) < (L : Int)) = True := by
          simp only [eq_iff_iff, iff_true]; have : ¬ L ≤ 8 := by rw [l8]; simp; omega
          omega
        clear l8 l16 l32 l64 hB1 hB2; (go_wp2_with fail); refine (HL.out _).mono ?_; rintro e w1 ⟨rfl, rfl⟩; (go_wp2_with fail)
        go_roundw
        case rel => exact ⟨1, hlt, rfl, rfl, by first | rfl | trivial⟩
        case measure => simp [RowKit.intOf]; omega
      · have hgt : ((16 : Int) < (L : Int)) = True := by
          simp only [eq_iff_iff, iff_true]; have : ¬ L ≤ 16 := by rw [l16]; simp; omega
          omega
        clear l8 l16 l32 l64 hB1 hB2; (go_wp2_with fail); refine (HL.out _).mono ?_; rintro e w1 ⟨rfl, rfl⟩; (go_wp2_with fail)
        go_roundw
        case rel => exact ⟨2, hlt, rfl, rfl, by first | rfl | trivial⟩
        case measure => simp [RowKit.intOf]; omega
      · have hgt : ((32 : Int) < (L : Int)) = True := by
          simp only [eq_iff_iff, iff_true]; have : ¬ L ≤ 32 := by rw [l32]; simp; omega
          omega
        clear l8 l16 l32 l64 hB1 hB2; (go_wp2_with fail); refine (HL.out _).mono ?_; rintro e w1 ⟨rfl, rfl⟩; (go_wp2_with fail)
        go_roundw
        case rel => exact ⟨3, hlt, rfl, rfl, by first | rfl | trivial⟩
        case measure => simp [RowKit.intOf]; omega
    · obtain rfl : k = K := by omega
      have hgt : (((2 ^ k : Nat) : Int) * 8 < (L : Int)) = False := by
        simp only [eq_iff_iff, iff_false]; have h8 : L ≤ 8 * 2 ^ k := by
          rcases hK with ⟨rfl, h⟩ | ⟨rfl, h⟩ | ⟨rfl, h⟩ | ⟨rfl, h⟩
          · exact l8.2 (by omega)
          · exact l16.2 (by omega)
          · exact l32.2 (by omega)
          · exact l64.2 (by omega)
        omega
      have hmul : wrap64 (((2 ^ k : Nat) : Int) * 8) = ((2 ^ k : Nat) : Int) * 8 := by
        have hp8 : ((2 ^ k : Nat) : Int) ≤ 8 := by omega
        have hp0 : 0 ≤ ((2 ^ k : Nat) : Int) := Int.natCast_nonneg _; unfold wrap64; generalize ((2 ^ k : Nat) : Int) = P at *
        omega
      clear l8 l16 l32 l64 hK; generalize 2 ^ k = P at *
      generalize 24 + k = low at *
      (go_wp2_with fail); refine (HL.out _).mono ?_; rintro e w1 ⟨rfl, rfl⟩; (go_wp2_with fail); refine (hB1.out _).mono ?_; rintro e w2 ⟨rfl, b2⟩; have B2 := hid b2; clear b2; (go_wp2_with fail); refine (hB2.out _).mono ?_; rintro e w3 ⟨rfl, b3⟩; have B3 := hid (B2.out.trans (b3.mono B2.out.size)); clear b3; go_wp2; go_ret; exact ⟨rfl, B3.out⟩
theorem hput_any (n : Int) (v : Nat) (hv : v < 18446744073709551616) (w : World) :
    Calls Tryz.prog 260 #[.int .i64 n, .int .u64 v] w fun e w' => e = .returned (.string ⟨(headB (n % 8).toNat v).toArray⟩) ∧ Below w.heap.size w w' := by
  by_cases h : v < 24
  · exact put_small n v h w
  · obtain ⟨K, hK⟩ := class_of v
    exact put_great n v K hv (by omega) hK w
end
section
open Go.RowKit
open Go.Lib
theorem qbool_of (y : Bool) (w : World) : Calls Tryz.prog 261 #[.bool y] w fun r w' => r = .returned (.string ⟨#[if y = true then 245 else 244]⟩) ∧ w = w' := by
  cases y
  all_goals
    go_enter Tryz.func261, Tryz.ntmps261; go_wp2; go_ret; exact ⟨rfl, rfl⟩
theorem qend_of (y : Bool) (w : World) : Calls Tryz.prog 259 #[.bool y] w fun r w' => r = .returned (.string ⟨(if y = true then [] else [(255 : UInt8)]).toArray⟩) ∧ w = w' := by
  cases y
  all_goals
    go_enter Tryz.func259, Tryz.ntmps259; go_wp2; go_ret; exact ⟨rfl, rfl⟩
theorem qwhole_of (y : Bool) (m : Nat) (hm : m < 18446744073709551616) (w : World) : Calls Tryz.prog 262 #[.agg #[.bool y, .int .u64 m]] w fun r w' => r = .returned (.string ⟨(headB (if y = true then 1 else 0) m).toArray⟩) ∧ Below w.heap.size w w' := by
  cases y
  · have HP := hid (fun W => hput_any 0 m hm W)
    rw [show ((0 : Int) % 8).toNat = 0 from rfl] at HP; simp only [Bool.false_eq_true, if_false]; generalize (⟨(headB 0 m).toArray⟩ : ByteArray) = Z at *
    go_enter Tryz.func262, Tryz.ntmps262; (go_wp2_with fail); refine (HP.out _).mono ?_; rintro r w1 ⟨rfl, b1⟩; have B1 := hid (up_trans (up_alloc (Below.refl _ _) _) b1); clear b1; go_wp2; go_ret; exact ⟨rfl, B1.out⟩
  · have HP := hid (fun W => hput_any 1 m hm W)
    rw [show ((1 : Int) % 8).toNat = 1 from rfl] at HP; simp only [if_true]; generalize (⟨(headB 1 m).toArray⟩ : ByteArray) = Z at *
    go_enter Tryz.func262, Tryz.ntmps262; (go_wp2_with fail); refine (HP.out _).mono ?_; rintro r w1 ⟨rfl, b1⟩; have B1 := hid (up_trans (up_alloc (Below.refl _ _) _) b1); clear b1; go_wp2; go_ret; exact ⟨rfl, B1.out⟩
theorem qtext_of (j : Nat) (hj : j < 8) (t : ByteArray) (ht : t.size ≤ 100000) (w : World) : Calls Tryz.prog 263 #[.int .i64 (j : Int), .string t] w fun r w' => r = .returned (.string ⟨(headB j t.data.toList.length ++ t.data.toList).toArray⟩) ∧ Below w.heap.size w w' := by
  have hl : t.data.toList.length = t.size := Array.length_toList; have HP := hid (fun W => hput_any j t.size (by omega) W); rw [show ((j : Int) % 8).toNat = j by omega] at HP; have hz := headB_len j t.size; have hcat : (⟨(headB j t.data.toList.length ++ t.data.toList).toArray⟩ : ByteArray) = ⟨(headB j t.size).toArray⟩ ++ t := by
    rw [hl, ← cat_of]
  have hsz : (⟨(headB j t.size).toArray⟩ : ByteArray).size ≤ 9 := by rw [size_of]; exact hz
  rw [hcat]; generalize (⟨(headB j t.size).toArray⟩ : ByteArray) = Z at *
  have z1 : ¬ 9223372036854775807 < Z.size + t.size := by omega
  have hw : IntKind.u64.wrap (t.size : Int) = (t.size : Int) := by simp only [IntKind.wrap_u64]; omega
  clear hl hz hcat hsz; go_enter Tryz.func263, Tryz.ntmps263; (go_wp2_with fail); refine (HP.out _).mono ?_; rintro r w1 ⟨rfl, b1⟩; have B1 := hid b1; clear b1; go_wp2; go_ret; exact ⟨rfl, B1.out⟩
def begB (m : Bool) (c : Int) : List UInt8 := if c < 0 then [if m = true then 191 else 159] else headB (if m = true then 5 else 4) c.toNat
theorem qbegin_of (m : Bool) (c : Int) (hc : -1 ≤ c ∧ c ≤ 9223372036854775807) (w : World) : Calls Tryz.prog 253 #[.agg #[.bool m, .int .i64 c]] w fun r w' => r = .returned (.string ⟨(begB m c).toArray⟩) ∧ Below w.heap.size w w' := by
  by_cases hn : c = -1
  · subst hn
    cases m
    all_goals
      unfold begB; rw [if_pos (by omega)]; go_enter Tryz.func253, Tryz.ntmps253; go_wp2; go_ret; exact ⟨rfl, up_alloc (Below.refl _ _) _⟩
  · obtain ⟨n, rfl⟩ : ∃ n : Nat, c = n := ⟨c.toNat, by omega⟩
    have hz : ((n : Int) == -1) = false := by rw [beq_eq_false_iff_ne]; exact hn
    have hw : IntKind.u64.wrap (n : Int) = (n : Int) := by simp only [IntKind.wrap_u64]; omega
    unfold begB; rw [if_neg (by omega), Int.toNat_natCast]; cases m
    · have HP := hid (fun W => hput_any 4 n (by omega) W)
      rw [show ((4 : Int) % 8).toNat = 4 from rfl] at HP; simp only [Bool.false_eq_true, if_false]; generalize (⟨(headB 4 n).toArray⟩ : ByteArray) = Z at *
      clear hn; go_enter Tryz.func253, Tryz.ntmps253; (go_wp2_with fail); refine (HP.out _).mono ?_; rintro r w1 ⟨rfl, b1⟩; have B1 := hid (up_trans (up_alloc (Below.refl _ _) _) b1); clear b1; go_wp2; go_ret; exact ⟨rfl, B1.out⟩
    · have HP := hid (fun W => hput_any 5 n (by omega) W)
      rw [show ((5 : Int) % 8).toNat = 5 from rfl] at HP; simp only [if_true]; generalize (⟨(headB 5 n).toArray⟩ : ByteArray) = Z at *
      clear hn; go_enter Tryz.func253, Tryz.ntmps253; (go_wp2_with fail); refine (HP.out _).mono ?_; rintro r w1 ⟨rfl, b1⟩; have B1 := hid (up_trans (up_alloc (Below.refl _ _) _) b1); clear b1; go_wp2; go_ret; exact ⟨rfl, B1.out⟩
theorem qvalue_of (e : Ev) (hk : e.k = 0 ∨ e.k = 1 ∨ e.k = 2 ∨ e.k = 3 ∨ e.k = 4) (hm : e.m < 18446744073709551616) (ht : e.t.size ≤ 1000) (w : World) :
    Calls Tryz.prog 254 #[valE e] w fun r w' => r = .returned (.string ⟨(writeK [] e).toArray⟩) ∧ Below w.heap.size w w' := by
  have a1 := is_bool; have a2 := is_whole; have a3 := is_word; have a4 := is_blob; have b1 := fun d h => not_bool d h
  have b2 := fun d h => not_whole d h
  have b3 := fun d h => not_word d h
  have b4 := fun d h => not_blob d h
  have hB := hid (Below.refl w.heap.size w); obtain ⟨k, y, m, t, c⟩ := e; simp only at hk hm ht; rcases hk with rfl | rfl | rfl | rfl | rfl
  · have ho : writeK [] ⟨0, y, m, t, c⟩ = [246] := by simp [writeK]
    rw [ho]; have p1 : ∀ W, (Instr.typeAssert .nilIface 20 4 true).run Tryz.prog W = .ok (.tuple #[.bool false, .bool false]) W := fun W => by kernel_rfl
    have p2 : ∀ W, (Instr.typeAssert .nilIface 20 123 true).run Tryz.prog W = .ok (.tuple #[.agg #[.bool false, .int .u64 0], .bool false]) W := fun W => by kernel_rfl
    have p3 : ∀ W, (Instr.typeAssert .nilIface 20 176 true).run Tryz.prog W = .ok (.tuple #[.string ⟨#[]⟩, .bool false]) W := fun W => by kernel_rfl
    have p4 : ∀ W, (Instr.typeAssert .nilIface 20 178 true).run Tryz.prog W = .ok (.tuple #[.string ⟨#[]⟩, .bool false]) W := fun W => by kernel_rfl
    clear ho hm ht; simp only [valE]; go_enter Tryz.func254, Tryz.ntmps254; go_wp2; go_ret; exact ⟨rfl, by repeat (first | exact Below.refl _ _ | refine up_alloc ?_ _)⟩
  · have ho : writeK [] ⟨1, y, m, t, c⟩ = [if y = true then 245 else 244] := by simp [writeK]
    rw [ho]; have HQ := hid (fun W => qbool_of y W); have hZ : (⟨[if y = true then (245 : UInt8) else 244].toArray⟩ : ByteArray) = ⟨#[if y = true then 245 else 244]⟩ := rfl; rw [hZ]; clear ho hm ht hZ; generalize (⟨#[if y = true then (245 : UInt8) else 244]⟩ : ByteArray) = Z at *
    simp only [valE]; go_enter Tryz.func254, Tryz.ntmps254; (go_wp2_with fail); refine (HQ.out _).mono ?_; rintro r w1 ⟨rfl, rfl⟩; go_wp2; go_ret; exact ⟨rfl, hB.out⟩
  · have ho : writeK [] ⟨2, y, m, t, c⟩ = headB (if y = true then 1 else 0) m := by simp [writeK]
    rw [ho]; have HP := hid (fun W => qwhole_of y m hm W); generalize (⟨(headB (if y = true then 1 else 0) m).toArray⟩ : ByteArray) = Z at *
    clear ho ht; simp only [valE]; go_enter Tryz.func254, Tryz.ntmps254; (go_wp2_with fail); refine (HP.out _).mono ?_; rintro r w1 ⟨rfl, hb⟩; have HB1 := hid (up_trans (up_alloc hB.out _) hb); clear hb; go_wp2; go_ret; exact ⟨rfl, HB1.out⟩
  · have ho : writeK [] ⟨3, y, m, t, c⟩ = headB 3 t.data.toList.length ++ t.data.toList := by simp [writeK]
    rw [ho]; have HP := hid (fun W => qtext_of 3 (by omega) t (by omega) W); generalize (⟨(headB 3 t.data.toList.length ++ t.data.toList).toArray⟩ : ByteArray) = Z at *
    clear ho hm; simp only [valE]; go_enter Tryz.func254, Tryz.ntmps254; (go_wp2_with fail); refine (HP.out _).mono ?_; rintro r w1 ⟨rfl, hb⟩; have HB1 := hid (up_trans (up_alloc hB.out _) hb); clear hb; go_wp2; go_ret; exact ⟨rfl, HB1.out⟩
  · have ho : writeK [] ⟨4, y, m, t, c⟩ = headB 2 t.data.toList.length ++ t.data.toList := by simp [writeK]
    rw [ho]; have HP := hid (fun W => qtext_of 2 (by omega) t (by omega) W); generalize (⟨(headB 2 t.data.toList.length ++ t.data.toList).toArray⟩ : ByteArray) = Z at *
    clear ho hm; simp only [valE]; go_enter Tryz.func254, Tryz.ntmps254; (go_wp2_with fail); refine (HP.out _).mono ?_; rintro r w1 ⟨rfl, hb⟩; have HB1 := hid (up_trans (up_alloc hB.out _) hb); clear hb; go_wp2; go_ret; exact ⟨rfl, HB1.out⟩
end
section
open Go.RowKit
open Go.Lib
theorem QAt.whole {w : World} {b o : Nat} {F : List Nat} {s : List Bx} {d : Bool} (h : QAt w b o F ⟨s, d⟩) (D : Bool) (hD : D = true → s = []) : QAt (w.setCell ⟨b, o + 1, none⟩ (.bool D)) b o F ⟨s, D⟩ ∧ Jf b o F F w (w.setCell ⟨b, o + 1, none⟩ (.bool D)) := by
  obtain ⟨a, cp, hA, hW, hF⟩ := h.cells; obtain ⟨cs, t, fr, hc, ht⟩ := h.blk; have hap : b ∉ Value.owner (.slice a s.length cp) := hW.apart hc (fun e => ht e.symm); have hset := hA.set 1 (by simp) (.bool D); exact ⟨⟨⟨a, cp, by simpa using hset, hW.setCell_far hap _, hF⟩, ⟨_, t, fr, heap_setCell_at w ⟨b, o + 1, none⟩ _ _ _ _ rfl hc, ht⟩, hD, h.wf⟩, (Jf.refl b o F w).set (o + 1) _ (by omega)⟩
theorem QAt.pair {w : World} {b o : Nat} {F : List Nat} {q : Kq} (h : QAt w b o F q) : ∃ a cp, (w.cell? ⟨b, o, none⟩ = some (.slice a q.s.length cp) ∧ w.frozen? ⟨b, o, none⟩ = false) ∧ (∃ u, w.cell? ⟨b, o + 1, none⟩ = some u) ∧ w.frozen? ⟨b, o + 1, none⟩ = false := by
  obtain ⟨a, cp, hA, _, _⟩ := h.cells; obtain ⟨⟨c0, f0⟩, ⟨c1, f1⟩⟩ := oat_two hA; exact ⟨a, cp, ⟨c0, f0⟩, ⟨_, c1⟩, f1⟩
theorem len_emp (s : List Bx) : ((s.length : Int) == 0) = s.isEmpty := by
  cases s with
  | nil => rfl
  | cons x r =>
    rw [Bool.eq_iff_iff]; simp; omega
theorem endQ {w : World} {b o : Nat} {F : List Nat} {x : Bx} {r : List Bx} (h : QAt w b o F ⟨x :: r, false⟩) (hs : r.length ≤ 999) :
    Calls Tryz.prog 250 #[.pointer (some ⟨b, o, none⟩)] w fun q w' => q = .returned (.string ⟨(if x.c < 0 then [(255 : UInt8)] else []).toArray⟩) ∧ QAt w' b o F ⟨r, r.isEmpty⟩ ∧ Jf b o F F w w' := by
  have HL := hid (leaveQ h hs); have hx := h.wf x (by simp); have hO : (⟨(if x.c < 0 then [(255 : UInt8)] else []).toArray⟩ : ByteArray) = ⟨(if (x.c != -1) = true then [] else [(255 : UInt8)]).toArray⟩ := by
    by_cases hc : x.c = -1
    · rw [if_pos (by omega), if_neg (by simp [hc])]
    · rw [if_neg (by omega), if_pos (by simpa using hc)]
  rw [hO]; generalize (x.c != -1) = C at *
  have HE := hid (fun W => qend_of C W); generalize (⟨(if C = true then [] else [(255 : UInt8)]).toArray⟩ : ByteArray) = Z at *
  have he := len_emp r; have hE0 : r.isEmpty = true → r = [] := fun e => by simpa using e
  generalize r.isEmpty = E at *
  have HE0 := hid hE0; clear h hx hO hE0; go_enter Tryz.func250, Tryz.ntmps250; (go_wp2_with fail); refine HL.out.mono ?_; rintro e w1 ⟨rfl, hj, hf⟩; obtain ⟨a, cp, ⟨c0, f0⟩, ⟨u, c1⟩, f1⟩ := hj.pair; have hw := hj.whole E HE0.out; have HW := hid (And.intro hw.1 (hf.trans hw.2)); simp only at c0; generalize r.length = n' at *
  clear hj hf hw; (go_wp2_with fail); refine (HE.out _).mono ?_; rintro e w2 ⟨rfl, rfl⟩; go_wp2; go_ret; exact ⟨rfl, HW.out⟩
theorem QAt.count {w : World} {b o : Nat} {F : List Nat} {s : List Bx} (h : QAt w b o F ⟨s, false⟩) (hs : dpQ s ≤ 1000) (hf : fulT s = false) : ∃ a cp, (∀ w', Below w.heap.size w w' → w'.cell? ⟨b, o, none⟩ = some (.slice a s.length cp)) ∧
    (∀ w', Below w.heap.size w w' → Calls Tryz.prog 251 #[.slice a s.length cp] w' fun r w2 => r = .returned (.tuple #[]) ∧ QAt w2 b o F ⟨incB s, false⟩ ∧ Jf b o F F w w2) := by
  obtain ⟨a, cp, hA, hW, hF⟩ := h.cells; obtain ⟨cs, t, fr, hc, ht⟩ := h.blk; have hlt := h.lt; refine ⟨a, cp, fun w' k => (hA.keep (k.block b hlt) 0 _ rfl).1, fun w' k => ?_⟩; have hWk : Win w' 281 3 (.slice a s.length cp) s.length (kcL s) := hW.keep fun i hi => k.block i (hW.lt i hi)
  refine (kcount_any hWk hs).mono ?_; rintro r w2 ⟨h1, h2, h3⟩; have hbF : b ∉ F := fun hk => (h.row b hk).2.1 rfl
  rw [hF] at h3; have hlt' : b < w'.heap.size := Nat.lt_of_lt_of_le hlt k.size; have hblk : w2.heap[b]? = w.heap[b]? := (h3.block b hlt' hbF).trans (k.block b hlt); have hl : (incB s).length = s.length := by cases s <;> rfl
  refine ⟨h1, ⟨⟨a, cp, ?_, ?_, ?_⟩, ⟨cs, t, fr, hblk.trans hc, ht⟩, fun e => (by cases e), h.wf.inc hf⟩, ?_⟩
  · simp only [hl]
    exact hA.keep hblk
  · simp only [hl]
    exact h2
  · simp only [hl]
    exact hF
  · have hj : Jf b o F F w' w2 := ⟨⟨h3.os, h3.tape, h3.output, h3.size, fun i hi hn => h3.block i hi (fun e => hn (List.mem_cons_of_mem _ e)), fun i hi => .inl hi⟩, fun c1 t1 fr1 h1 => ⟨c1, (h3.block b hlt' hbF).trans h1, rfl⟩, fun i _ => World.cell?_of_block (w := w') (h3.block b hlt' hbF)⟩
    exact (Jf.of k hlt).trans hj
theorem qwrite_end {w : World} {b o : Nat} {F : List Nat} {x : Bx} {r : List Bx} (h : QAt w b o F ⟨x :: r, false⟩) (hs : r.length ≤ 999) (v : Value)
    (hC : ∀ W, (Instr.typeAssert v 20 166 true).run Tryz.prog W = .ok (.tuple #[.agg #[], .bool true]) W) :
    Calls Tryz.prog 246 #[.pointer (some ⟨b, o, none⟩), v] w fun q w' => q = .returned (.string ⟨(if x.c < 0 then [(255 : UInt8)] else []).toArray⟩) ∧ QAt w' b o F ⟨r, r.isEmpty⟩ ∧ Jf b o F F w w' := by
  have HE : Hid (∀ X, Calls Tryz.prog 250 #[.pointer (some ⟨b, o, none⟩)] (w.alloc X) fun q w' => q = .returned (.string ⟨(if x.c < 0 then [(255 : UInt8)] else []).toArray⟩) ∧ QAt w' b o F ⟨r, r.isEmpty⟩ ∧ Jf b o F F w w') := hid (fun X => by
    refine (endQ (h.alloc X) hs).mono ?_; rintro q w' ⟨h1, h2, h3⟩; exact ⟨h1, h2, (Jf.of (up_alloc (Below.refl _ _) X) h.lt).trans h3⟩)
  generalize (⟨(if x.c < 0 then [(255 : UInt8)] else []).toArray⟩ : ByteArray) = Z at *
  clear h; go_enter Tryz.func246, Tryz.ntmps246; (go_wp2_with fail); refine (HE.out _).mono ?_; rintro q w1 ⟨rfl, hj⟩; have HJ := hid hj; clear hj; go_wp2; go_ret; exact ⟨rfl, HJ.out⟩
theorem qwrite_open {w : World} {b o : Nat} {F : List Nat} {s : List Bx} (h : QAt w b o F ⟨s, false⟩) (hs : dpQ s ≤ 900) (hf : fulT s = false) (v : Value) (m : Bool) (c : Int) (hc : -1 ≤ c ∧ c ≤ 9223372036854775807)
    (hC : ∀ W, (Instr.typeAssert v 20 166 true).run Tryz.prog W = .ok (.tuple #[.agg #[], .bool false]) W)
    (hB : ∀ W, (Instr.typeAssert v 20 163 true).run Tryz.prog W = .ok (.tuple #[.agg #[.bool m, .int .i64 c], .bool true]) W) :
    Calls Tryz.prog 246 #[.pointer (some ⟨b, o, none⟩), v] w fun r w' => r = .returned (.string ⟨(begB m c).toArray⟩) ∧ ∃ F', QAt w' b o F' ⟨⟨m, c, 0⟩ :: incB s, false⟩ ∧ Jf b o F F' w w' := by
  obtain ⟨a, cp, hc0, hN⟩ := h.count (by omega) hf; have hb := h.lt; have HC0 := hid hc0; have HN := hid hN; have HB0 := hid hb; have hlen : (incB s).length ≤ 1000 := Nat.le_trans (dp_len _) (Nat.le_trans (dp_inc s) (by omega)); have hE : ∀ w2, QAt w2 b o F ⟨incB s, false⟩ → Jf b o F F w w2 → Calls Tryz.prog 252 #[.pointer (some ⟨b, o, none⟩), .agg #[.bool m, .int .i64 c]] (w2.alloc (.cells #[.bool m, .int .i64 c] 163)).drew fun e w' => e = .returned (.tuple #[]) ∧ (w'.cell? ⟨w2.heap.size, 0, none⟩ = some (.bool m) ∧ w'.cell? ⟨w2.heap.size, 1, none⟩ = some (.int .i64 c)) ∧
      Hid (∀ w3, Below w'.heap.size w' w3 → ∃ F', QAt w3 b o F' ⟨⟨m, c, 0⟩ :: incB s, false⟩ ∧ Jf b o F F' w w3) := by
    intro w2 q2 j2; have q3 := (q2.alloc (.cells #[.bool m, .int .i64 c] 163)).drewN 1; refine (enterQ q3 hlen m c hc).mono ?_; rintro e w' ⟨h1, F', h2, h3⟩; have hblk : w'.heap[w2.heap.size]? = (w2.alloc (.cells #[.bool m, .int .i64 c] 163)).heap[w2.heap.size]? := by
      refine h3.step.block w2.heap.size (by show w2.heap.size < (w2.alloc _).heap.size; simp) ?_; intro hm; rcases List.mem_cons.1 hm with e | hm
      · have := q2.lt
        omega
      · have := (q2.row _ hm).1
        omega
    have hB := blk_new w2 #[.bool m, .int .i64 c] 163; refine ⟨h1, ⟨(World.cell?_of_block (w := (w2.alloc (.cells #[.bool m, .int .i64 c] 163))) hblk).trans (hB.cell 0), (World.cell?_of_block (w := (w2.alloc (.cells #[.bool m, .int .i64 c] 163))) hblk).trans (hB.cell 1)⟩, hid fun w3 k => ⟨F', h2.go k, ?_⟩⟩; have j3 : Jf b o F F w (w2.alloc (.cells #[.bool m, .int .i64 c] 163)).drew := (j2.up HB0.out (up_alloc (Below.refl _ _) _)).drewN 1; exact (j3.trans h3).up HB0.out k
  have HE := hid hE; have HG := hid (fun W => qbegin_of m c hc W); generalize (⟨(begB m c).toArray⟩ : ByteArray) = Z at *
  clear h hs hf hc hc0 hN hb hlen hE; go_enter Tryz.func246, Tryz.ntmps246; have B0 := hid (up_alloc (Below.refl w.heap.size w) (.cells #[] 166)); have d0 := HC0.out _ B0.out; (go_wp2_with fail); refine (HN.out _ B0.out).mono ?_; rintro r w2 ⟨rfl, q2, j2⟩; have H2 := hid (HE.out w2 q2 j2); have EB : Hid (Blk (w2.alloc (.cells #[.bool m, .int .i64 c] 163)) w2.heap.size #[.bool m, .int .i64 c] 163) := hid (blk_new w2 #[.bool m, .int .i64 c] 163); have x0 : (w2.alloc (.cells #[.bool m, .int .i64 c] 163)).cell? ⟨w2.heap.size, 0, none⟩ = some (.bool m) := EB.out.cell 0; have x1 : (w2.alloc (.cells #[.bool m, .int .i64 c] 163)).cell? ⟨w2.heap.size, 1, none⟩ = some (.int .i64 c) := EB.out.cell 1; clear q2 j2 EB; (go_wp2_with fail)
  go_region_with (go_at_call 252; refine (H2.out).mono ?_; rintro r w3 ⟨rfl, ⟨y0, y1⟩, HF⟩)
  all_goals
    clear x0 x1; (go_wp2_with fail); refine (HG.out _).mono ?_; rintro r w4 ⟨rfl, b4⟩; have HF2 := hid (HF.out _ b4); clear b4; go_wp2; go_ret; exact ⟨rfl, HF2.out⟩
end
section
open Go.RowKit
open Go.Lib
theorem qwrite_val {w : World} {b o : Nat} {F : List Nat} {s : List Bx} (h : QAt w b o F ⟨s, false⟩) (hs : dpQ s ≤ 900) (hf : fulT s = false) (v : Value) (T : ByteArray)
    (hC : ∀ W, (Instr.typeAssert v 20 166 true).run Tryz.prog W = .ok (.tuple #[.agg #[], .bool false]) W)
    (hB : ∀ W, (Instr.typeAssert v 20 163 true).run Tryz.prog W = .ok (.tuple #[.agg #[.bool false, .int .i64 0], .bool false]) W)
    (hX : ∀ W, Calls Tryz.prog 254 #[v] W fun r w' => r = .returned (.string T) ∧ Below W.heap.size W w') :
    Calls Tryz.prog 246 #[.pointer (some ⟨b, o, none⟩), v] w fun r w' => r = .returned (.string T) ∧ QAt w' b o F ⟨incB s, s.isEmpty⟩ ∧ Jf b o F F w w' := by
  obtain ⟨a, cp, hc0, hN⟩ := h.count (by omega) hf; have hb := h.lt; have HC0 := hid hc0; have HN := hid hN; have HB0 := hid hb; have he := len_emp s; have hl : (incB s).length = s.length := by cases s <;> rfl
  have hE0 : s.isEmpty = true → incB s = [] := fun e => by
    have : s = [] := by simpa using e
    rw [this]; rfl
  have HE0 := hid hE0; have HX := hid hX; generalize s.isEmpty = E at *
  have HL := hid hl; clear h hs hf hc0 hN hb hE0 hX hl; go_enter Tryz.func246, Tryz.ntmps246; have B0 := hid (up_alloc (Below.refl w.heap.size w) (.cells #[] 166)); have d0 := HC0.out _ B0.out; (go_wp2_with fail); refine (HN.out _ B0.out).mono ?_; rintro r w2 ⟨rfl, q2, j2⟩; have q3 := q2.alloc (.cells #[.bool false, .int .i64 0] 163); have j3 := j2.up HB0.out (up_alloc (Below.refl _ _) (.cells #[.bool false, .int .i64 0] 163)); obtain ⟨a2, cp2, ⟨c0, f0⟩, ⟨u, c1⟩, f1⟩ := q3.pair; simp only [HL.out] at c0; have hw := q3.whole E HE0.out; have HW : Hid (∀ w', Below ((w2.alloc (.cells #[.bool false, .int .i64 0] 163)).setCell ⟨b, o + 1, none⟩ (.bool E)).heap.size ((w2.alloc (.cells #[.bool false, .int .i64 0] 163)).setCell ⟨b, o + 1, none⟩ (.bool E)) w' → QAt w' b o F ⟨incB s, E⟩ ∧ Jf b o F F w w') := hid (fun w' k => ⟨hw.1.go k, (j3.trans hw.2).up HB0.out k⟩); generalize s.length = n' at *
  clear hw q2 q3 j2 j3; (go_wp2_with fail); refine (HX.out _).mono ?_; rintro r w4 ⟨rfl, b4⟩; have H4 := hid (HW.out _ b4); clear b4; go_wp2; go_ret; exact ⟨rfl, H4.out⟩
theorem qo_err {w : World} {b o : Nat} {F : List Nat} {q : Kq} (h : QAt w b o F q) (v : Value) (n : Nat) (hn : n = 14 ∨ n = 8)
    (hR : Calls Tryz.prog 245 #[.pointer (some ⟨b, o, none⟩), v] w fun r w' => r = .returned (.int .i64 n) ∧ Below w.heap.size w w') :
    Calls Tryz.prog 244 #[.pointer (some ⟨b, o, none⟩), v] w fun r w' => r = .returned (.tuple #[.string ⟨#[]⟩, .int .i64 n]) ∧ QAt w' b o F q ∧ Jf b o F F w w' := by
  have HR := hid hR; have HF : Hid (∀ w', Below w.heap.size w w' → QAt w' b o F q ∧ Jf b o F F w w') := hid (fun w' k => ⟨h.go k, Jf.of k h.lt⟩); clear h hR; rcases hn with rfl | rfl
  all_goals
    go_enter Tryz.func244, Tryz.ntmps244; (go_wp2_with fail); refine HR.out.mono ?_; rintro r w1 ⟨rfl, b1⟩; have H1 := hid (HF.out _ b1); clear b1; go_wp2; go_ret2; exact ⟨rfl, H1.out⟩
theorem qo_ok {w : World} {b o : Nat} {F : List Nat} {q : Kq} (h : QAt w b o F q) (v : Value) (T : ByteArray) (q' : Kq)
    (hR : Calls Tryz.prog 245 #[.pointer (some ⟨b, o, none⟩), v] w fun r w' => r = .returned (.int .i64 0) ∧ Below w.heap.size w w')
    (hW : ∀ W, Below w.heap.size w W → Calls Tryz.prog 246 #[.pointer (some ⟨b, o, none⟩), v] W fun r w' => r = .returned (.string T) ∧ ∃ F', QAt w' b o F' q' ∧ Jf b o F F' W w') :
    Calls Tryz.prog 244 #[.pointer (some ⟨b, o, none⟩), v] w fun r w' => r = .returned (.tuple #[.string T, .int .i64 0]) ∧ ∃ F', QAt w' b o F' q' ∧ Jf b o F F' w w' := by
  have HR := hid hR; have HW := hid hW; have hb := h.lt; clear h hR hW; have HB := hid hb; clear hb; go_enter Tryz.func244, Tryz.ntmps244; (go_wp2_with fail); refine HR.out.mono ?_; rintro r w1 ⟨rfl, b1⟩; have H1 := hid b1; clear b1; (go_wp2_with fail); refine (HW.out _ H1.out).mono ?_; rintro r w2 ⟨rfl, F', hj, hf⟩; have H2 : Hid (∃ F', QAt w2 b o F' q' ∧ Jf b o F F' w w2) := hid ⟨F', hj, (Jf.of H1.out HB.out).trans hf⟩; clear hj hf; go_wp2; go_ret2; exact ⟨rfl, H2.out⟩
theorem writeK_beg {e : Ev} (h56 : e.k = 5 ∨ e.k = 6) (s : List Bx) : writeK s e = begB (decide (e.k = 6)) e.c := by
  unfold writeK begB; rw [if_neg (by omega), if_neg (by omega), if_neg (by omega), if_neg (by omega), if_neg (by omega)]; by_cases h6 : e.k = 6
  · simp [h6]
  · simp [h6]
theorem qo_step {w : World} {b o : Nat} {F : List Nat} {q : Kq} (h : QAt w b o F q) (hs : dpQ q.s ≤ 900) (e : Ev) (hm : mayE e) (hok : EvOk e) (ht : e.t.size ≤ 1000) :
    Calls Tryz.prog 244 #[.pointer (some ⟨b, o, none⟩), valE e] w fun r w' => r = .returned (.tuple #[.string ⟨(stepQ q e).1.1.toArray⟩, .int .i64 ((stepQ q e).1.2 : Nat)]) ∧ ∃ F', QAt w' b o F' (stepQ q e).2 ∧ Jf b o F F' w w' := by
  have hR := refusesQ h (by omega) e hm; have bad : ∀ n : Nat, (n = 14 ∨ n = 8) → stepQ q e = (([], n), q) → Calls Tryz.prog 244 #[.pointer (some ⟨b, o, none⟩), valE e] w fun r w' => r = .returned (.tuple #[.string ⟨(stepQ q e).1.1.toArray⟩, .int .i64 ((stepQ q e).1.2 : Nat)]) ∧ ∃ F', QAt w' b o F' (stepQ q e).2 ∧ Jf b o F F' w w' := by
    intro n hn hq; rw [hq] at hR ⊢; refine (qo_err h (valE e) n hn hR).mono ?_; rintro r w' ⟨h1, h2, h3⟩; exact ⟨h1, F, h2, h3⟩
  have hC := as_close e hm; have hB := as_begin e hm; obtain ⟨s, dn⟩ := q; simp only at hs; have hl := dp_len s; cases dn with
  | true => exact bad 14 (.inl rfl) (stepQ_bad ⟨s, true⟩ e (.inr rfl))
  | false =>
    by_cases h7 : e.k = 7
    · cases s with
      | nil => exact bad 14 (.inl rfl) (stepQ_none hm h7)
      | cons x r =>
        by_cases ho : shutB x
        · exact bad 14 (.inl rfl) (stepQ_shut hm h7 ho)
        · rw [stepQ_end hm h7 ho] at hR ⊢
          rw [decide_eq_true h7] at hC; refine qo_ok h (valE e) _ _ hR (fun W k => ?_); refine (qwrite_end (h.go k) (by simp only [List.length_cons] at hl; omega) (valE e) hC).mono ?_; rintro q w' ⟨h1, h2, h3⟩; refine ⟨?_, F, h2, h3⟩; rw [h1]; unfold writeK; rw [if_pos h7]
    · rw [decide_eq_false h7] at hC
      by_cases hf : fulT s = true
      · exact bad 14 (.inl rfl) (stepQ_full hm h7 hf)
      · have hf : fulT s = false := by simpa using hf
        by_cases hk : keyB s = true ∧ e.k ≠ 3
        · exact bad 8 (.inr rfl) (stepQ_key hm h7 hf hk.1 hk.2)
        · by_cases h56 : e.k = 5 ∨ e.k = 6
          · have hkf : keyB s = false := by
              cases hq : keyB s with
              | false => rfl
              | true => exact absurd ⟨hq, by omega⟩ hk
            rw [decide_eq_true h56, if_pos h56] at hB; rw [stepQ_open hm h56 hf hkf] at hR ⊢; refine qo_ok h (valE e) _ _ hR (fun W k => ?_); refine (qwrite_open (h.go k) hs hf (valE e) (decide (e.k = 6)) e.c ⟨hm.2.2 h56, hok.2.2.1.2⟩ hC hB).mono ?_; rintro q w' ⟨h1, F', h2, h3⟩; exact ⟨by rw [h1, writeK_beg h56], F', h2, h3⟩
          · rw [decide_eq_false h56, if_neg h56, decide_eq_false (by omega : ¬ e.k = 6)] at hB
            have hk5 : e.k = 0 ∨ e.k = 1 ∨ e.k = 2 ∨ e.k = 3 ∨ e.k = 4 := by
              have := kind8 hm; omega
            rw [stepQ_val hm h7 h56 hf hk] at hR ⊢; refine qo_ok h (valE e) _ _ hR (fun W k => ?_); refine (qwrite_val (h.go k) hs hf (valE e) _ hC hB (fun W' => qvalue_of e hk5 hok.2.1 ht W')).mono ?_; rintro q w' ⟨h1, h2, h3⟩; exact ⟨by rw [h1, writeK_any h7 s], F, h2, h3⟩
structure QW (w0 w : World) (b : Nat) (F : List Nat) (q : Kq) : Prop where
  at_ : QAt w b 0 F q
  lo : w0.heap.size ≤ b
  row : ∀ k ∈ F, w0.heap.size ≤ k
  bel : Below w0.heap.size w0 w
  typ : ∃ cs fr, w.heap[b]? = some (.cells cs 100 fr)
theorem QW.next {w0 w w' : World} {b : Nat} {F F' : List Nat} {q q' : Kq} (h : QW w0 w b F q) (hj : QAt w' b 0 F' q') (k : Jf b 0 F F' w w') : QW w0 w' b F' q' := by
  have h1 := k.step.low (B := w0.heap.size) (fun i hi => (List.mem_cons.1 hi).elim (fun e => e ▸ h.lo) (fun hi => h.row i hi)) h.bel.size; obtain ⟨cs, fr, hc⟩ := h.typ; obtain ⟨c', hc', _⟩ := k.shape _ _ _ hc; exact ⟨hj, h.lo, fun i hi => h1 i (List.mem_cons_of_mem _ hi), h.bel.trans (k.below h.lo h.row h.bel.size), c', fr, hc'⟩
theorem qw_step {w0 w : World} {b : Nat} {F : List Nat} {q : Kq} (h : QW w0 w b F q) (hs : dpQ q.s ≤ 900) (e : Ev) (hm : mayE e) (hok : EvOk e) (ht : e.t.size ≤ 1000) :
    Calls Tryz.prog 244 #[.pointer (some ⟨b, 0, none⟩), valE e] w fun r w' => r = .returned (.tuple #[.string ⟨(stepQ q e).1.1.toArray⟩, .int .i64 ((stepQ q e).1.2 : Nat)]) ∧ ∃ F', QW w0 w' b F' (stepQ q e).2 ∧ Jf b 0 F F' w w' := by
  refine (qo_step h.at_ hs e hm hok ht).mono ?_; rintro r w' ⟨h1, F', h2, h3⟩; exact ⟨h1, F', h.next h2 h3, h3⟩
theorem qw_new (w0 w : World) (hb : Below w0.heap.size w0 w) : QW w0 (w.alloc (.cells #[.slice none 0 0, .bool false] 100)) w.heap.size [] ⟨[], false⟩ :=
  ⟨⟨⟨none, 0, jat_block (heap_alloc_new w _), Win.nil_ _ _ _, rfl⟩, ⟨_, _, _, heap_alloc_new w _, by decide⟩, fun e => (by cases e), fun x hx => (by simp at hx)⟩, hb.size, fun k hk => (by simp at hk), up_alloc hb _, _, _, heap_alloc_new w _⟩
theorem QW.off {w0 w w' : World} {b : Nat} {F F' : List Nat} {q : Kq} (h : QW w0 w b F q) (k : Jf b 0 F F' w w') : Off [100, 281] w w' := by
  intro i c t fr hi ht; have hlt := (Array.getElem?_eq_some_iff.1 hi).1; rw [k.step.block i hlt ?_]
  · exact hi
  · intro hm
    rcases List.mem_cons.1 hm with e | hm
    · subst e
      obtain ⟨cs, fr', hc⟩ := h.typ; rw [hi] at hc; cases hc; exact ht (by simp)
    · obtain ⟨_, _, cur, hc⟩ := h.at_.row i hm
      rw [hi] at hc; cases hc; exact ht (by simp)
end
section
open Go.RowKit
open Go.Lib
theorem qwriteK_len (s : List Bx) (e : Ev) (ht : e.t.size ≤ 1000) : (writeK s e).length ≤ 2000 := by
  have h1 : e.t.data.toList.length = e.t.size := Array.length_toList; unfold writeK; split
  · split
    · simp
    · split <;> simp
  split
  · simp
  split
  · simp
  split
  · exact Nat.le_trans (headB_len _ _) (by decide)
  split
  · rw [List.length_append]
    have := headB_len (if e.k = 3 then 3 else 2) e.t.data.toList.length; omega
  split
  · simp
  · exact Nat.le_trans (headB_len _ _) (by decide)
theorem qstep_size (q : Kq) (e : Ev) (ht : e.t.size ≤ 1000) : (stepQ q e).1.1.length ≤ 2000 := by
  unfold stepQ; split
  · simp
  · split
    · split
      · simp
      · split
        · simp
        · dsimp only
          exact qwriteK_len _ _ ht
    · split
      · simp
      · split
        · simp
        · split <;> exact qwriteK_len _ _ ht
end
end Go.Proofs.YtkgconbdmnmbnaaGreat
