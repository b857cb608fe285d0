/-
  Parts: HeadPure, CinPure, CinBack, CinFactA, Subg, CinGen, CinFactB, CinWf, PinPure, PinNest, PinNestB.
-/
import Derived.Test.YtkgconbdmnmbnaaGreatG0a
import GoSem.Op.String
import Derived.Test.YtkgconbdmnmbnaaGreatG0b
import Derived.Test.YtkgconbdmnmbnaaGreatG0g
import Derived.Deep.QuietTactic
import Derived.Test.YtkgconbdmnmbnaaGreatG0c
set_option maxRecDepth 100000
set_option maxHeartbeats 16000000
open Go.Lib (hid)
namespace Go.Proofs.YtkgconbdmnmbnaaGreat
section
open Go.Lib
def bigB : Nat → Nat → List UInt8
  | 0, _ => []
  | n + 1, v => UInt8.ofNat (v / 256 ^ n % 256) :: bigB n v
theorem bigB_length (n v : Nat) : (bigB n v).length = n := by
  induction n with
  | zero => rfl
  | succ n ih => simp [bigB, ih]
theorem byte_of (x : Nat) : (UInt8.ofNat (x % 256)).toNat = x % 256 := by simp
def sizH (v : Nat) : Nat × Nat := if v < 24 then (0, v) else if v < 256 then (1, 24) else if v < 65536 then (2, 25) else if v < 4294967296 then (4, 26) else (8, 27)
def headB (m v : Nat) : List UInt8 := UInt8.ofNat (m * 32 + (sizH v).2) :: bigB (sizH v).1 v
theorem sizH_cases (v : Nat) (hv : v < 18446744073709551616) : v < 24 ∧ sizH v = (0, v) ∨ (24 ≤ v ∧ v < 256) ∧ sizH v = (1, 24) ∨ (256 ≤ v ∧ v < 65536) ∧ sizH v = (2, 25) ∨ (65536 ≤ v ∧ v < 4294967296) ∧ sizH v = (4, 26) ∨ (4294967296 ≤ v ∧ v < 18446744073709551616) ∧ sizH v = (8, 27) := by
  unfold sizH; by_cases h1 : v < 24
  · exact .inl ⟨h1, by rw [if_pos h1]⟩
  · by_cases h2 : v < 256
    · exact .inr (.inl ⟨by omega, by rw [if_neg h1, if_pos h2]⟩)
    · by_cases h3 : v < 65536
      · exact .inr (.inr (.inl ⟨by omega, by rw [if_neg h1, if_neg h2, if_pos h3]⟩))
      · by_cases h4 : v < 4294967296
        · exact .inr (.inr (.inr (.inl ⟨by omega, by rw [if_neg h1, if_neg h2, if_neg h3, if_pos h4]⟩)))
        · exact .inr (.inr (.inr (.inr ⟨by omega, by rw [if_neg h1, if_neg h2, if_neg h3, if_neg h4]⟩)))
theorem headB_length (m v : Nat) : (headB m v).length = 1 + (sizH v).1 := by
  unfold headB; rw [List.length_cons, bigB_length]; omega
inductive Hd
  | bad (e : Nat)
  | new
  | mid (m n v : Nat)
  | fin (m v : Nat) (o : Bool)
def stepH : Hd → Nat → Hd
  | .bad e, _ => .bad e
  | .fin _ _ _, _ => .bad 14
  | .new, b => if b % 32 < 24 then .fin (b / 32) (b % 32) false else if b % 32 < 28 then .mid (b / 32) (2 ^ (b % 32 - 24)) 0 else if b % 32 = 31 then .fin (b / 32) 0 true else .bad 2
  | .mid m n v, b => if n = 1 then .fin m (v * 256 + b) false else .mid m (n - 1) (v * 256 + b)
def endH : Hd → Bool
  | .fin _ _ _ => true
  | _ => false
def errH : Hd → Nat
  | .bad e => e
  | _ => 0
def majH : Hd → Nat
  | .mid m _ _ => m
  | .fin m _ _ => m
  | _ => 0
def valH : Hd → Nat
  | .fin _ v _ => v
  | _ => 0
def opnH : Hd → Bool
  | .fin _ _ o => o
  | _ => false
end
section
open Go.Lib
inductive Ci
  | bad (e : Nat)
  | item (s : List Bx) (dn : Bool)
  | head (s : List Bx) (h : Hd)
  | text (s : List Bx) (m : Bool) (n : Nat) (t : List UInt8) (u : Option (Nat × Nat × Nat))
  | open_ (s : List Bx) (m : Bool) (t : List UInt8)
  | chead (s : List Bx) (m : Bool) (t : List UInt8) (h : Hd)
  | ctext (s : List Bx) (m : Bool) (t : List UInt8) (n : Nat) (u : Option (Nat × Nat × Nat))
def fullB (b : Bx) : Bool := decide (0 ≤ b.c ∧ (b.have_ : Int) = if b.map = true then 2 * b.c else b.c)
def restC : List Bx → List Bx
  | [] => []
  | b :: r => if fullB b = true then restC r else b :: r
def numC : List Bx → Nat
  | [] => 0
  | b :: r => if fullB b = true then numC r + 1 else 0
def endsC (s : List Bx) : List Ev := List.replicate (numC s) evEnd
def atC (s : List Bx) : Ci := .item (restC s) (restC s).isEmpty
def putC (s : List Bx) (e : Ev) : Ci × List Ev := (atC (incB s), e :: endsC (incB s))
def evBegC (m : Bool) (c : Int) : Ev := ⟨if m = true then 6 else 5, false, 0, ⟨#[]⟩, c⟩
def beginC (s : List Bx) (m : Bool) (c : Int) : Ci × List Ev := (atC (⟨m, c, 0⟩ :: incB s), evBegC m c :: endsC (⟨m, c, 0⟩ :: incB s))
def evTxC (m : Bool) (t : List UInt8) : Ev := ⟨if m = true then 3 else 4, false, 0, ⟨t.toArray⟩, 0⟩
def evIntC (m : Bool) (v : Nat) : Ev := ⟨2, m, v, ⟨#[]⟩, 0⟩
def evBoolC (y : Bool) : Ev := ⟨1, y, 0, ⟨#[]⟩, 0⟩
def headC (s : List Bx) : Hd → Ci × List Ev
  | .bad e => (.bad e, [])
  | .fin m v o =>
    if m < 2 then putC s (evIntC (decide (m = 1)) v)
    else if m < 4 then (if o = true then (.open_ s (decide (m = 3)) [], []) else if 200 < v then (.bad 5, []) else if v = 0 then putC s (evTxC (decide (m = 3)) []) else (.text s (decide (m = 3)) v [] st0, []))
    else if o = true then beginC s (decide (m = 5)) (-1) else if 1000000 < v then (.bad 7, []) else beginC s (decide (m = 5)) v
  | h => (.head s h, [])
def firstC (D : Nat) (s : List Bx) (dn : Bool) (b : Nat) : Ci × List Ev :=
  if dn = true ∨ (28 ≤ b % 32 ∧ b % 32 ≤ 30) ∨ (b % 32 = 31 ∧ (b / 32 = 0 ∨ b / 32 = 1 ∨ b / 32 = 6)) then (.bad 2, [])
  else if b = 255 then
    match s with
    | [] => (.bad 2, [])
    | x :: r => if 0 ≤ x.c ∨ (x.map = true ∧ x.have_ % 2 = 1) then (.bad 2, []) else (atC r, evEnd :: endsC r)
  else if keyB s = true ∧ b / 32 ≠ 3 then (.bad 8, [])
  else if b / 32 = 6 then (.bad 8, [])
  else if b / 32 = 7 then (if b % 32 = 22 then putC s evNull else if b % 32 = 20 ∨ b % 32 = 21 then putC s (evBoolC (decide (b % 32 = 21))) else if 25 ≤ b % 32 ∧ b % 32 ≤ 27 then (.bad 6, []) else (.bad 8, []))
  else if (b / 32 = 4 ∨ b / 32 = 5) ∧ D ≤ s.length then (.bad 4, [])
  else headC s (stepH .new b)
def chunkC (s : List Bx) (m : Bool) (t : List UInt8) : Hd → Ci × List Ev
  | .bad e => (.bad e, [])
  | .fin _ v _ => if 200 < v + t.length then (.bad 5, []) else if v = 0 then (.open_ s m t, []) else (.ctext s m t v st0, [])
  | h => (.chead s m t h, [])
def nextU (m : Bool) (u : Option (Nat × Nat × Nat)) (b : UInt8) : Option (Nat × Nat × Nat) := if m = true then stepS u b else u
def stepCi (D : Nat) : Ci → UInt8 → Ci × List Ev
  | .bad e, _ => (.bad e, [])
  | .item s dn, b => firstC D s dn b.toNat
  | .head s h, b => headC s (stepH h b.toNat)
  | .text s m n t u, b =>
    if m = true ∧ nextU m u b = none then (.bad 9, [])
    else if n = 1 then (if m = true ∧ wholeS (nextU m u b) = false then (.bad 9, []) else putC s (evTxC m (t ++ [b]))) else (.text s m (n - 1) (t ++ [b]) (nextU m u b), [])
  | .open_ s m t, b => if b.toNat = 255 then putC s (evTxC m t) else if b.toNat / 32 ≠ (if m = true then 3 else 2) ∨ 28 ≤ b.toNat % 32 then (.bad 2, []) else chunkC s m t (stepH .new b.toNat)
  | .chead s m t h, b => chunkC s m t (stepH h b.toNat)
  | .ctext s m t n u, b =>
    if m = true ∧ nextU m u b = none then (.bad 9, [])
    else if n = 1 then (if m = true ∧ wholeS (nextU m u b) = false then (.bad 9, []) else (.open_ s m (t ++ [b]), [])) else (.ctext s m (t ++ [b]) (n - 1) (nextU m u b), [])
def endCi : Ci → Nat
  | .bad e => e
  | .item _ true => 0
  | _ => 3
def ci0 : Ci := .item [] false
def heldCi : Ci → Nat
  | .bad _ => 0
  | .item s _ => s.length
  | .head s _ => s.length
  | .text s _ _ t _ => t.length + s.length
  | .open_ s _ t => t.length + s.length
  | .chead s _ t _ => t.length + s.length
  | .ctext s _ t _ _ => t.length + s.length
theorem rest_len : ∀ s : List Bx, (restC s).length ≤ s.length
  | [] => Nat.le_refl _
  | b :: r => by
    simp only [restC]; split
    · have := rest_len r; simp only [List.length_cons]; omega
    · exact Nat.le_refl _
theorem stepH_err {h : Hd} {b e : Nat} (hh : ∀ f, h = .bad f → f ≠ 0) (he : stepH h b = .bad e) : e ≠ 0 := by
  cases h with
  | bad f => simp only [stepH, Hd.bad.injEq] at he; subst he; exact hh _ rfl
  | fin m v o => simp only [stepH, Hd.bad.injEq] at he; omega
  | new =>
    simp only [stepH] at he
    repeat' split at he
    all_goals first | (simp only [Hd.bad.injEq] at he; omega) | cases he
  | mid m n v =>
    simp only [stepH] at he; split at he <;> cases he
theorem stepH_new {h : Hd} {b : Nat} (hn : h = .new ∨ ∃ m n v, h = .mid m n v) : stepH h b ≠ .new := by
  rcases hn with rfl | ⟨m, n, v, rfl⟩
  · simp only [stepH]
    repeat' split
    all_goals simp
  · simp only [stepH]
    split <;> simp
theorem maj_new {b : Nat} (h : ¬ (28 ≤ b % 32 ∧ b % 32 ≤ 30)) : majH (stepH .new b) = b / 32 := by
  simp only [stepH]
  repeat' split
  all_goals first | rfl | omega
end
section
open Go.Lib
def writeK (s : List Bx) (e : Ev) : List UInt8 :=
  if e.k = 7 then (match s with
    | [] => []
    | b :: _ => if b.c < 0 then [255] else [])
  else if e.k = 0 then [246]
  else if e.k = 1 then [if e.y = true then 245 else 244]
  else if e.k = 2 then headB (if e.y = true then 1 else 0) e.m
  else if e.k = 3 ∨ e.k = 4 then headB (if e.k = 3 then 3 else 2) e.t.data.toList.length ++ e.t.data.toList
  else if e.c < 0 then [if e.k = 6 then 191 else 159]
  else headB (if e.k = 6 then 5 else 4) e.c.toNat
theorem headB_len (m v : Nat) : (headB m v).length ≤ 9 := by
  rw [headB_length]; unfold sizH; split
  · simp
  split
  · simp
  split
  · simp
  split <;> simp
end
section
open Go.Lib
def errCi : Ci → Nat
  | .bad e => e
  | _ => 0
theorem err_bad {s : Ci} (h : errCi s ≠ 0) : ∃ e, s = .bad e ∧ e ≠ 0 := by
  cases s with
  | bad e => exact ⟨e, rfl, h⟩
  | _ => exact absurd rfl h
def doneCi : Ci → Bool
  | .item [] true => true
  | _ => false
end
section
open Go.RowKit
open Go.Lib
structure Subg (g : List Nat) (b o n : Nat) (w w' : World) : Prop where
  os : w'.os = w.os
  tape : w'.tape = w.tape
  output : w'.output = w.output
  size : w.heap.size ≤ w'.heap.size
  block : ∀ k, k < w.heap.size → k ≠ b → k ∉ g → w'.heap[k]? = w.heap[k]?
  shape : ∀ (c : Array Value) (t : TypeId) (fr : Nat × Nat), w.heap[b]? = some (.cells c t fr) → ∃ c' : Array Value, w'.heap[b]? = some (.cells c' t fr) ∧ c'.size = c.size
  cell : ∀ k, (k < o ∨ o + n ≤ k) → w'.cell? ⟨b, k, none⟩ = w.cell? ⟨b, k, none⟩
theorem Sub.subg {b o n : Nat} {w w' : World} (h : Sub b o n w w') (g : List Nat) : Subg g b o n w w' :=
  ⟨h.step.os, h.step.tape, h.step.output, h.step.size, fun k hk hb _ => h.step.block k hk (by simpa using hb), h.shape, h.cell⟩
theorem Subg.refl (g : List Nat) (b o n : Nat) (w : World) : Subg g b o n w w := (Sub.refl b o n w).subg g
theorem Subg.trans {g g2 : List Nat} {b o n : Nat} {w w1 w2 : World} (h : Subg g b o n w w1) (k : Subg g2 b o n w1 w2) (hg : ∀ x ∈ g2, x ∈ g ∨ w.heap.size ≤ x) : Subg g b o n w w2 :=
  ⟨k.os.trans h.os, k.tape.trans h.tape, k.output.trans h.output, Nat.le_trans h.size k.size,
   fun i hi hb hn => (k.block i (Nat.lt_of_lt_of_le hi h.size) hb (fun e => (hg i e).elim hn (fun h => by omega))).trans (h.block i hi hb hn),
   fun c t fr hc => by
    obtain ⟨c1, h1, s1⟩ := h.shape c t fr hc; obtain ⟨c2, h2, s2⟩ := k.shape c1 t fr h1; exact ⟨c2, h2, s2.trans s1⟩, fun i hi => (k.cell i hi).trans (h.cell i hi)⟩
theorem Subg.tr {g : List Nat} {b o n : Nat} {w w1 w2 : World} (h : Subg g b o n w w1) (k : Subg g b o n w1 w2) : Subg g b o n w w2 := h.trans k (fun _ h => .inl h)
theorem Subg.widen {g g' : List Nat} {b o n o' n' : Nat} {w w' : World} (h : Subg g b o n w w') (hg : ∀ x ∈ g, x ∈ g') (h1 : o' ≤ o) (h2 : o + n ≤ o' + n') : Subg g' b o' n' w w' :=
  ⟨h.os, h.tape, h.output, h.size, fun k hk hb hn => h.block k hk hb (fun e => hn (hg k e)), h.shape, fun k hk => h.cell k (by omega)⟩
theorem Subg.drewN {g : List Nat} {b o n : Nat} {w w' : World} (h : Subg g b o n w w') (q : Nat) : Subg g b o n w (w'.drewN q) := ⟨h.os, h.tape, h.output, h.size, h.block, h.shape, h.cell⟩
theorem subg_below {w w' : World} {b : Nat} (h : Below w.heap.size w w') (hb : b < w.heap.size) (g : List Nat) (o n : Nat) : Subg g b o n w w' := (sub_of_below h hb o n).subg g
theorem subg_far {g : List Nat} {b o n k j : Nat} (w : World) (hk : k ∈ g) (hb : k ≠ b) (v : Value) : Subg g b o n w (w.setCell ⟨k, j, none⟩ v) :=
  ⟨rfl, rfl, rfl, by simp [World.setCell], fun i _ _ hn => Below.heap_setCell w ⟨k, j, none⟩ v i (fun e => hn (e ▸ hk)),
   fun c _ _ hc => ⟨c, (Below.heap_setCell w ⟨k, j, none⟩ v b (fun e => hb e.symm)).trans hc, rfl⟩, fun i _ => World.cell?_of_block (w := w) (Below.heap_setCell w ⟨k, j, none⟩ v b (fun e => hb e.symm))⟩
theorem subg_grown {g : List Nat} {b o n : Nat} {w w' : World} {row : Option Nat} (h : w.grownBy w' row) (hr : ∀ k, row = some k → k ∈ g) (hb : row ≠ some b) (hl : b < w.heap.size) : Subg g b o n w w' :=
  ⟨h.os, h.tape, h.output, h.size, fun k hk _ hn => h.block k hk (fun e => hn (hr k e.symm)),
   fun c _ _ hc => ⟨c, (h.block b hl (fun e => hb e.symm)).trans hc, rfl⟩, fun _ _ => World.cell?_of_block (w := w) (h.block b hl (fun e => hb e.symm))⟩
theorem Subg.frozen {g : List Nat} {b o n : Nat} {w w' : World} (h : Subg g b o n w w') (c : Array Value) (t : TypeId) (fr : Nat × Nat) (hc : w.heap[b]? = some (.cells c t fr)) (k : Nat) : w'.frozen? ⟨b, k, none⟩ = w.frozen? ⟨b, k, none⟩ := by
  obtain ⟨c', h', _⟩ := h.shape c t fr hc; unfold World.frozen?; simp only [hc, h']
theorem At.subg {g : List Nat} {w w' : World} {b o n o' : Nat} {vs : List Value} (h : At w b o' vs) (k : Subg g b o n w w') (hd : o' + vs.length ≤ o ∨ o + n ≤ o') : At w' b o' vs := fun j u hj => by
  have hlt : j < vs.length := (List.getElem?_eq_some_iff.1 hj).1; obtain ⟨h1, h2⟩ := h j u hj; obtain ⟨c, t, fr, hc, _⟩ := cell_block h1; exact ⟨(k.cell _ (by omega)).trans h1, (k.frozen c t fr hc _).trans h2⟩
theorem Win.subg {g : List Nat} {b o n : Nat} {w w' : World} {e : TypeId} {sz m : Nat} {v : Value} {xs : List Value} (h : Win w e sz v m xs) (k : Subg g b o n w w') (hb : b ∉ Value.owner v) (hg : ∀ x ∈ Value.owner v, x ∉ g) : Win w' e sz v m xs :=
  h.keep fun x hx => k.block x (h.lt x hx) (fun e => hb (e ▸ hx)) (hg x hx)
end
section
open Go.RowKit
open Go.Lib
def cntB (b : Bx) : Int := if b.c < 0 then -1 else if b.map = true then 2 * b.c else b.c
theorem full_cnt (b : Bx) : fullB b = ((b.have_ : Int) == cntB b) := by
  unfold fullB cntB; rw [Bool.eq_iff_iff, decide_eq_true_eq, beq_iff_eq]; by_cases h : b.c < 0
  · rw [if_pos h]
    constructor
    · intro h2; omega
    · intro h2; omega
  · rw [if_neg h]
    constructor
    · exact fun h2 => h2.2
    · exact fun h2 => ⟨by omega, h2⟩
theorem key_eq (x : Bx) (r : List Bx) : keyB (x :: r) = (x.map && !decide (x.have_ % 2 = 1)) := by
  simp only [keyB]; rw [Bool.eq_iff_iff]; simp
theorem conv_as {T : TypeId} (hT : Tryz.prog.underlying T = some .string) {w : World} {v : Value} {n : Nat} {bs : List UInt8} (h : Win w 5 1 v n (bCells bs)) : (convert 51 T v).run Tryz.prog w = .ok (.string ⟨bs.toArray⟩) w := by
  rcases h.2 with ⟨rfl, rfl⟩ | ⟨g, off, cap, cur, rfl, hg, hnc, hs, hm, hx⟩
  · have : bs = [] := by
      have := h.1; simp [bCells] at this; exact this
    subst this; have ht : (Tryz.prog.underlying 51, Tryz.prog.underlying 5) = (some (.slice 5), some (.int .u8)) := by kernel_rfl
    simp only [Prod.mk.injEq] at ht; simp [convert, run_underlying ht.1, run_underlying ht.2, run_underlying hT, Conv.bytesToString]; rfl
  · have hl : bs.length = n := by have := h.1; simpa [bCells] using this
    have hby : Lib.Bytes w g off ⟨bs.toArray⟩ := by
      intro i hi; have hi' : i < bs.length := by simpa [ByteArray.size] using hi
      have hu : (bCells bs)[i]? = some (.int .u8 bs[i].toNat) := by simp [bCells, hi']
      rw [← hx, List.getElem?_take_of_lt (by omega), List.getElem?_drop] at hu; simp only [World.cell?, hg]; have hb : (⟨bs.toArray⟩ : ByteArray)[i] = bs[i] := rfl; rw [hb]; simpa using hu
    have := run_convert_window (P := Tryz.prog) w 51 5 T Tryz.underlying51 Tryz.underlying5 hT g off ⟨bs.toArray⟩ hby 0 n cap (by simp [ByteArray.size]; omega); rw [Nat.add_zero] at this; rw [this]; congr 2; apply ByteArray.ext; apply Array.toList_inj.1; rw [extract_data]; show List.take _ bs = bs; exact List.take_of_length_le (by omega)
def mjT (m : Bool) : Nat := if m = true then 3 else 2
theorem vle_end : valE evEnd = .iface 166 (.agg #[]) := rfl
def plE (s : List Bx) : Nat := if s.isEmpty = true then 3 else 0
structure Low (w0 w : World) (b : Nat) (vs : Value) : Prop where
  size : w0.heap.size ≤ w.heap.size
  b : b < w0.heap.size
  vs : ∀ k ∈ Value.owner vs, k < w0.heap.size
theorem Low.of {w0 w w' : World} {b : Nat} {vs vs' : Value} (h : Low w0 w b vs) (hs : w.heap.size ≤ w'.heap.size) (hv : Value.owner vs' = Value.owner vs) : Low w0 w' b vs' := ⟨Nat.le_trans h.size hs, h.b, hv ▸ h.vs⟩
theorem inc_lenK (s : List Bx) : (incB s).length = s.length := by cases s <;> rfl
theorem Low.up {w0 w w' : World} {b : Nat} {vs : Value} (h : Low w0 w b vs) (hB : Below w.heap.size w w') : Low w0 w' b vs := h.of hB.size rfl
theorem err_put (s : List Bx) (e : Ev) : errCi (putC s e).1 = 0 := rfl
def mayH (m : Bool) (lk : Nat) (u : Option (Nat × Nat × Nat)) : Bool := !m || (u.isSome && (decide (0 < lk) || wholeS u))
theorem bCells_append (l k : List UInt8) : bCells (l ++ k) = bCells l ++ bCells k := by simp [bCells]
theorem win_two (w : World) (v u : Value) (e : TypeId) (g : Nat) (hg : g = w.heap.size) : Win (w.alloc (.cells #[v, u] e)) e 1 (.slice (some ⟨g, 0, none⟩) 2 2) 2 [v, u] := by
  subst hg; exact ⟨rfl, .inr ⟨w.heap.size, 0, 2, _, rfl, heap_alloc_new w _, Nat.le_refl _, by simp, by unfold maxLen; omega, by simp⟩⟩
theorem val_beg (m : Bool) (c : Int) : valE (evBegC m c) = .iface 163 (.agg #[.bool m, .int .i64 c]) := by cases m <;> rfl
theorem begin_ne (s : List Bx) (m : Bool) {c : Int} (hc : c ≠ 0) : beginC s m c = (.item (⟨m, c, 0⟩ :: incB s) false, [evBegC m c]) := by
  have hf : fullB ⟨m, c, 0⟩ = false := by
    unfold fullB; rw [decide_eq_false_iff_not]; rintro ⟨_, h⟩; simp only at h; split at h <;> simp at h <;> omega
  unfold beginC atC endsC; simp only [restC, numC, hf, Bool.false_eq_true, if_false]; rfl
theorem begin_zero (s : List Bx) (m : Bool) : beginC s m 0 = (atC (incB s), [evBegC m 0, evEnd] ++ endsC (incB s)) := by
  have hf : fullB ⟨m, 0, 0⟩ = true := by cases m <;> rfl
  unfold beginC atC endsC; simp only [restC, numC, hf, if_true, List.replicate_succ]; rfl
theorem begin_err (s : List Bx) (m : Bool) (c : Int) : errCi (beginC s m c).1 = 0 := rfl
end
section
open Go.Lib
end
section
open Go.Lib
def HdOk : Hd → Prop
  | .mid _ n v => 1 ≤ n ∧ n ≤ 8 ∧ v < 256 ^ (8 - n)
  | .fin _ v _ => v < 18446744073709551616
  | .bad e => e = 2 ∨ e = 14
  | .new => True
theorem hd_step {h : Hd} {b : Nat} (hb : b < 256) (ho : HdOk h) : HdOk (stepH h b) := by
  cases h with
  | bad e => exact ho
  | fin m v o => exact .inr rfl
  | new =>
    simp only [stepH]; split
    · show b % 32 < _
      omega
    · split
      · have hk : b % 32 - 24 = 0 ∨ b % 32 - 24 = 1 ∨ b % 32 - 24 = 2 ∨ b % 32 - 24 = 3 := by omega
        rcases hk with h | h | h | h <;> rw [h] <;> exact ⟨by decide, by decide, by decide⟩
      · split
        · show (0 : Nat) < _
          omega
        · exact .inl rfl
  | mid m n v =>
    obtain ⟨h1, h2, h3⟩ := ho; have hn : n = 1 ∨ n = 2 ∨ n = 3 ∨ n = 4 ∨ n = 5 ∨ n = 6 ∨ n = 7 ∨ n = 8 := by omega
    simp only [stepH]; rcases hn with rfl | rfl | rfl | rfl | rfl | rfl | rfl | rfl
    · rw [if_pos rfl]
      show v * 256 + b < 18446744073709551616; have h3 : v < 256 ^ 7 := h3; omega
    all_goals
      rw [if_neg (by decide)]; refine ⟨by decide, by decide, ?_⟩; simp at h3 ⊢; omega
def BxOk (s : List Bx) : Prop := ∀ b ∈ s, -1 ≤ b.c ∧ b.c ≤ 1000000
theorem BxOk.inc {s : List Bx} (h : BxOk s) : BxOk (incB s) := by
  cases s with
  | nil => exact h
  | cons x r =>
    intro b hb; rcases List.mem_cons.1 hb with rfl | hb
    · exact h x (by simp)
    · exact h b (by simp [hb])
theorem BxOk.rest : ∀ {s : List Bx}, BxOk s → BxOk (restC s)
  | [], h => h
  | x :: r, h => by
    unfold restC; split
    · exact BxOk.rest (fun b hb => h b (by simp [hb]))
    · exact h
theorem inc_len (s : List Bx) : (incB s).length = s.length := by cases s <;> rfl
def WfCi (D : Nat) : Ci → Prop
  | .bad e => e ≠ 0 ∧ e ≠ 3
  | .item s dn => (dn = true → s = []) ∧ BxOk s ∧ s.length ≤ D
  | .head s h => (∃ m n v, h = .mid m n v) ∧ HdOk h ∧ BxOk s ∧ s.length ≤ D ∧ (4 ≤ majH h → s.length < D)
  | .text s _ n t _ => 1 ≤ n ∧ t.length + n ≤ 200 ∧ BxOk s ∧ s.length ≤ D
  | .open_ s _ t => t.length ≤ 200 ∧ BxOk s ∧ s.length ≤ D
  | .chead s _ t h => (∃ m n v, h = .mid m n v) ∧ HdOk h ∧ t.length ≤ 200 ∧ BxOk s ∧ s.length ≤ D
  | .ctext s _ t n _ => 1 ≤ n ∧ t.length + n ≤ 200 ∧ BxOk s ∧ s.length ≤ D
def stkC : Ci → Nat
  | .bad _ => 0
  | .item s _ => s.length
  | .head s _ => s.length
  | .text s _ _ _ _ => s.length
  | .open_ s _ _ => s.length
  | .chead s _ _ _ => s.length
  | .ctext s _ _ _ _ => s.length
def ToldC (e : Ev) : Prop := mayE e ∧ tidyE e = e ∧ EvOk e ∧ e.t.size ≤ 200
structure FineC (D n : Nat) (r : Ci × List Ev) : Prop where
  wf : WfCi D r.1
  told : ∀ e ∈ r.2, ToldC e
  len : r.2.length + stkC r.1 ≤ n + 2
theorem tolc_end : ToldC evEnd := ⟨by decide, rfl, ⟨by decide, by decide, by decide, by decide⟩, by decide⟩
theorem rest_num : ∀ s : List Bx, (restC s).length + numC s = s.length
  | [] => rfl
  | b :: r => by
    unfold restC numC; split
    · have := rest_num r
      simp only [List.length_cons]; omega
    · simp
theorem fine_bad {D n : Nat} (e : Nat) (h0 : e ≠ 0) (h3 : e ≠ 3) : FineC D n (.bad e, []) := ⟨⟨h0, h3⟩, by simp, by simp [stkC]⟩
theorem fine_at {D n : Nat} {s : List Bx} {l : List Ev} (hs : BxOk s) (hd : s.length ≤ D) (hl : ∀ e ∈ l, ToldC e) (hn : l.length + s.length ≤ n + 2) : FineC D n (atC s, l ++ endsC s) := by
  have h1 := rest_num s; have h2 := rest_len s; refine ⟨⟨fun h => by simpa using h, hs.rest, by omega⟩, fun e he => ?_, ?_⟩
  · rcases List.mem_append.1 he with he | he
    · exact hl e he
    · unfold endsC at he
      rw [List.eq_of_mem_replicate he]; exact tolc_end
  · simp only [List.length_append, endsC, List.length_replicate, atC, stkC]
    omega
theorem fine_put {D : Nat} {s : List Bx} {e : Ev} (hs : BxOk s) (hd : s.length ≤ D) (he : ToldC e) : FineC D s.length (putC s e) :=
  fine_at (l := [e]) hs.inc (by rw [inc_len]; exact hd) (by simpa using he) (by rw [inc_len]; simp; omega)
theorem told_begin (m : Bool) {c : Int} (h : -1 ≤ c ∧ c ≤ 1000000) : ToldC (evBegC m c) := by
  refine ⟨⟨?_, ?_, fun _ => h.1⟩, ?_, ⟨?_, ?_, ?_, ?_⟩, Nat.zero_le _⟩
  · cases m <;> simp [evBegC]
  · cases m <;> simp [evBegC]
  · cases m <;> simp [evBegC, tidyE]
  · cases m <;> simp [evBegC]
  · simp [evBegC]
  · show -9223372036854775808 ≤ c ∧ c ≤ 9223372036854775807
    omega
  · exact Nat.zero_le _
theorem fine_begin {D : Nat} {s : List Bx} (m : Bool) {c : Int} (hs : BxOk s) (hd : s.length < D) (h : -1 ≤ c ∧ c ≤ 1000000) : FineC D s.length (beginC s m c) := by
  have hb : BxOk (⟨m, c, 0⟩ :: incB s) := by
    intro b hb; rcases List.mem_cons.1 hb with rfl | hb
    · exact h
    · exact hs.inc b hb
  exact fine_at (l := [evBegC m c]) hb (by rw [List.length_cons, inc_len]; omega) (by simpa using told_begin m h) (by simp only [List.length_cons, List.length_nil, inc_len]; omega)
theorem tolc_text (m : Bool) {t : List UInt8} (h : t.length ≤ 200) : ToldC (evTxC m t) := by
  have hz : (⟨t.toArray⟩ : ByteArray).size = t.length := by simp [ByteArray.size]
  refine ⟨⟨?_, ?_, fun h => ?_⟩, ?_, ⟨?_, ?_, ?_, ?_⟩, ?_⟩
  · cases m <;> simp [evTxC]
  · cases m <;> simp [evTxC]
  · cases m <;> simp [evTxC] at h
  · cases m <;> simp [evTxC, tidyE]
  · cases m <;> simp [evTxC]
  · simp [evTxC]
  · simp [evTxC]
  · show (⟨t.toArray⟩ : ByteArray).size ≤ _
    omega
  · show (⟨t.toArray⟩ : ByteArray).size ≤ _
    omega
theorem told_int (y : Bool) {v : Nat} (h : v < 18446744073709551616) : ToldC (evIntC y v) := ⟨⟨by simp [evIntC], by simp [evIntC], fun h => by simp [evIntC] at h⟩, by simp [evIntC, tidyE], ⟨by simp [evIntC], h, by simp [evIntC], Nat.zero_le _⟩, Nat.zero_le _⟩
theorem tolc_bool (y : Bool) : ToldC (evBoolC y) := ⟨⟨by simp [evBoolC], by simp [evBoolC], fun h => by simp [evBoolC] at h⟩, by simp [evBoolC, tidyE], ⟨by simp [evBoolC], by simp [evBoolC], by simp [evBoolC], Nat.zero_le _⟩, Nat.zero_le _⟩
theorem tolc_null : ToldC evNull := ⟨by decide, rfl, ⟨by decide, by decide, by decide, by decide⟩, by decide⟩
theorem fine_head {D : Nat} {s : List Bx} {h : Hd} (hs : BxOk s) (hd : s.length ≤ D) (ho : HdOk h) (hn : h ≠ .new) (h4 : 4 ≤ majH h → s.length < D) : FineC D s.length (headC s h) := by
  cases h with
  | new => exact absurd rfl hn
  | bad e =>
    refine fine_bad e ?_ ?_ <;> rcases ho with rfl | rfl <;> decide
  | mid m n v => exact ⟨⟨⟨m, n, v, rfl⟩, ho, hs, hd, h4⟩, by simp [headC], by simp [headC, stkC]⟩
  | fin m v o =>
    unfold headC; simp only; by_cases c1 : m < 2
    · rw [if_pos c1]
      exact fine_put hs hd (told_int _ ho)
    · rw [if_neg c1]
      by_cases c2 : m < 4
      · rw [if_pos c2]
        by_cases c3 : o = true
        · rw [if_pos c3]
          exact ⟨⟨by simp, hs, hd⟩, by simp, by simp [stkC]⟩
        · rw [if_neg c3]
          by_cases c4 : 200 < v
          · rw [if_pos c4]
            exact fine_bad 5 (by decide) (by decide)
          · rw [if_neg c4]
            by_cases c5 : v = 0
            · rw [if_pos c5]
              exact fine_put hs hd (tolc_text _ (by simp))
            · rw [if_neg c5]
              exact ⟨⟨by omega, by simp; omega, hs, hd⟩, by simp, by simp [stkC]⟩
      · rw [if_neg c2]
        have hdd : s.length < D := h4 (by show 4 ≤ m; omega); by_cases c3 : o = true
        · rw [if_pos c3]
          exact fine_begin _ hs hdd (by omega)
        · rw [if_neg c3]
          by_cases c4 : 1000000 < v
          · rw [if_pos c4]
            exact fine_bad 7 (by decide) (by decide)
          · rw [if_neg c4]
            exact fine_begin _ hs hdd (by omega)
theorem fine_first {D : Nat} {s : List Bx} {dn : Bool} (b : Nat) (hb : b < 256) (hs : BxOk s) (hd : s.length ≤ D) : FineC D s.length (firstC D s dn b) := by
  unfold firstC; by_cases c1 : dn = true ∨ (28 ≤ b % 32 ∧ b % 32 ≤ 30) ∨ (b % 32 = 31 ∧ (b / 32 = 0 ∨ b / 32 = 1 ∨ b / 32 = 6))
  · rw [if_pos c1]
    exact fine_bad 2 (by decide) (by decide)
  rw [if_neg c1]; by_cases c2 : b = 255
  · rw [if_pos c2]
    cases s with
    | nil => exact fine_bad 2 (by decide) (by decide)
    | cons x r =>
      simp only; split
      · exact fine_bad 2 (by decide) (by decide)
      · have hr : BxOk r := fun b hb => hs b (by simp [hb])
        simp only [List.length_cons] at hd; exact fine_at (l := [evEnd]) hr (by omega) (by simpa using tolc_end) (by simp only [List.length_cons, List.length_nil]; omega)
  rw [if_neg c2]; by_cases c3 : keyB s = true ∧ b / 32 ≠ 3
  · rw [if_pos c3]
    exact fine_bad 8 (by decide) (by decide)
  rw [if_neg c3]; by_cases c4 : b / 32 = 6
  · rw [if_pos c4]
    exact fine_bad 8 (by decide) (by decide)
  rw [if_neg c4]; by_cases c5 : b / 32 = 7
  · rw [if_pos c5]
    split
    · exact fine_put hs hd tolc_null
    · split
      · exact fine_put hs hd (tolc_bool _)
      · split
        · exact fine_bad 6 (by decide) (by decide)
        · exact fine_bad 8 (by decide) (by decide)
  rw [if_neg c5]; by_cases c6 : (b / 32 = 4 ∨ b / 32 = 5) ∧ D ≤ s.length
  · rw [if_pos c6]
    exact fine_bad 4 (by decide) (by decide)
  rw [if_neg c6]; have hn := stepH_new (h := .new) (b := b) (.inl rfl); refine fine_head hs hd (hd_step hb trivial) hn ?_; rw [maj_new (fun h => c1 (.inr (.inl h)))]; intro h4; by_cases h : s.length < D
  · exact h
  · exact absurd ⟨by omega, by omega⟩ c6
theorem fine_chunk {D : Nat} {s : List Bx} {m : Bool} {t : List UInt8} {h : Hd} (hs : BxOk s) (hd : s.length ≤ D) (ht : t.length ≤ 200) (ho : HdOk h) (hn : h ≠ .new) : FineC D s.length (chunkC s m t h) := by
  cases h with
  | new => exact absurd rfl hn
  | bad e =>
    refine fine_bad e ?_ ?_ <;> rcases ho with rfl | rfl <;> decide
  | mid a n v => exact ⟨⟨⟨a, n, v, rfl⟩, ho, ht, hs, hd⟩, by simp [chunkC], by simp [chunkC, stkC]⟩
  | fin a v o =>
    simp only [chunkC]; by_cases c1 : 200 < v + t.length
    · rw [if_pos c1]
      exact fine_bad 5 (by decide) (by decide)
    · rw [if_neg c1]
      by_cases c2 : v = 0
      · rw [if_pos c2]
        exact ⟨⟨ht, hs, hd⟩, by simp, by simp [stkC]⟩
      · rw [if_neg c2]
        exact ⟨⟨by omega, by omega, hs, hd⟩, by simp, by simp [stkC]⟩
theorem fine_step {D : Nat} {s : Ci} (b : UInt8) (h : WfCi D s) : FineC D (stkC s) (stepCi D s b) := by
  have hb : b.toNat < 256 := b.toNat_lt; cases s with
  | bad e => exact ⟨h, by simp [stepCi], by simp [stepCi, stkC]⟩
  | item s dn => exact fine_first b.toNat hb h.2.1 h.2.2
  | head s hd =>
    obtain ⟨⟨m, n, v, rfl⟩, h1, h2, h3, h4⟩ := h; refine fine_head h2 h3 (hd_step hb h1) (stepH_new (.inr ⟨m, n, v, rfl⟩)) ?_; have : majH (stepH (.mid m n v) b.toNat) = m := by simp only [stepH]; split <;> rfl
    rw [this]; exact h4
  | text s m n t u =>
    obtain ⟨h1, h2, h3, h4⟩ := h; simp only [stepCi]; by_cases c1 : m = true ∧ nextU m u b = none
    · rw [if_pos c1]
      exact fine_bad 9 (by decide) (by decide)
    rw [if_neg c1]; by_cases c2 : n = 1
    · rw [if_pos c2]
      split
      · exact fine_bad 9 (by decide) (by decide)
      · exact fine_put h3 h4 (tolc_text _ (by simp; omega))
    · rw [if_neg c2]
      exact ⟨⟨by omega, by simp; omega, h3, h4⟩, by simp, by simp [stkC]⟩
  | open_ s m t =>
    obtain ⟨h1, h2, h3⟩ := h; simp only [stepCi]; by_cases c1 : b.toNat = 255
    · rw [if_pos c1]
      exact fine_put h2 h3 (tolc_text _ h1)
    rw [if_neg c1]; by_cases c2 : b.toNat / 32 ≠ (if m = true then 3 else 2) ∨ 28 ≤ b.toNat % 32
    · rw [if_pos c2]
      exact fine_bad 2 (by decide) (by decide)
    · rw [if_neg c2]
      exact fine_chunk h2 h3 h1 (hd_step (h := .new) hb trivial) (stepH_new (.inl rfl))
  | chead s m t hd =>
    obtain ⟨⟨a, n, v, rfl⟩, h1, h2, h3, h4⟩ := h; exact fine_chunk h3 h4 h2 (hd_step hb h1) (stepH_new (.inr ⟨a, n, v, rfl⟩))
  | ctext s m t n u =>
    obtain ⟨h1, h2, h3, h4⟩ := h; simp only [stepCi]; by_cases c1 : m = true ∧ nextU m u b = none
    · rw [if_pos c1]
      exact fine_bad 9 (by decide) (by decide)
    rw [if_neg c1]; by_cases c2 : n = 1
    · rw [if_pos c2]
      split
      · exact fine_bad 9 (by decide) (by decide)
      · exact ⟨⟨by simp; omega, h3, h4⟩, by simp, by simp [stkC]⟩
    · rw [if_neg c2]
      exact ⟨⟨by omega, by simp; omega, h3, h4⟩, by simp, by simp [stkC]⟩
theorem wf_ci0 (D : Nat) : WfCi D ci0 := ⟨fun _ => rfl, by intro b hb; simp at hb, Nat.zero_le _⟩
end
section
open Go.Lib
inductive Pm
  | c (x : Ci)
  | num (s : List Bx) (k w n a : Nat)
def liftP (r : Ci × List Ev) : Pm × List Ev := (.c r.1, r.2)
def lenP (s : List Bx) (m : Bool) (v : Nat) : Ci × List Ev := if 200 < v then (.bad 5, []) else if v = 0 then putC s (evTxC m []) else (.text s m v [] st0, [])
def cntP (s : List Bx) (m : Bool) (v : Nat) : Ci × List Ev := if 1000000 < v then (.bad 7, []) else beginC s m v
def sgnP (w v : Nat) : Ev := if 256 ^ w ≤ 2 * v then evIntC true (256 ^ w - 1 - v) else evIntC false v
def hedP (s : List Bx) (k w v : Nat) : Ci × List Ev :=
  if k = 0 then putC s (evIntC false v) else if k = 1 then putC s (sgnP w v) else if k = 2 then lenP s false v else if k = 3 then lenP s true v else cntP s (decide (k = 5)) v
def textP (b : Nat) : Bool := decide ((160 ≤ b ∧ b ≤ 191) ∨ (217 ≤ b ∧ b ≤ 219))
def contP (b : Nat) : Bool := decide ((128 ≤ b ∧ b ≤ 159) ∨ (220 ≤ b ∧ b ≤ 223))
def extP (b : Nat) : Bool := decide ((199 ≤ b ∧ b ≤ 201) ∨ (212 ≤ b ∧ b ≤ 216))
def firstP (D : Nat) (s : List Bx) (dn : Bool) (b : Nat) : Pm × List Ev :=
  if dn = true ∨ b = 193 then (.c (.bad 2), [])
  else if keyB s = true ∧ textP b = false then (.c (.bad 8), [])
  else if extP b = true then (.c (.bad 8), [])
  else if b = 202 ∨ b = 203 then (.c (.bad 6), [])
  else if contP b = true ∧ D ≤ s.length then (.c (.bad 4), [])
  else if b < 128 then liftP (putC s (evIntC false b))
  else if b < 144 then liftP (cntP s true (b - 128))
  else if b < 160 then liftP (cntP s false (b - 144))
  else if b < 192 then liftP (lenP s true (b - 160))
  else if b = 192 then liftP (putC s evNull)
  else if b < 196 then liftP (putC s (evBoolC (decide (b = 195))))
  else if b < 199 then (.num s 2 (2 ^ (b - 196)) (2 ^ (b - 196)) 0, [])
  else if b < 208 then (.num s 0 (2 ^ (b - 204)) (2 ^ (b - 204)) 0, [])
  else if b < 212 then (.num s 1 (2 ^ (b - 208)) (2 ^ (b - 208)) 0, [])
  else if b < 220 then (.num s 3 (2 ^ (b - 217)) (2 ^ (b - 217)) 0, [])
  else if b < 222 then (.num s 4 (2 ^ (b - 219)) (2 ^ (b - 219)) 0, [])
  else if b < 224 then (.num s 5 (2 ^ (b - 221)) (2 ^ (b - 221)) 0, [])
  else liftP (putC s (evIntC true (255 - b)))
def stepPm (D : Nat) : Pm → UInt8 → Pm × List Ev
  | .c (.bad e), _ => (.c (.bad e), [])
  | .c (.item s dn), b => firstP D s dn b.toNat
  | .c (.text s m n t u), b => liftP (stepCi D (.text s m n t u) b)
  | .c x, _ => (.c x, [])
  | .num s k w n a, b => if n = 1 then liftP (hedP s k w (a * 256 + b.toNat)) else (.num s k w (n - 1) (a * 256 + b.toNat), [])
def endPm : Pm → Nat
  | .c x => endCi x
  | .num _ _ _ _ _ => 3
def pm0 : Pm := .c ci0
def errPm : Pm → Nat
  | .c x => errCi x
  | _ => 0
def heldPm : Pm → Nat
  | .c x => heldCi x
  | .num s _ _ _ _ => s.length
def donePm : Pm → Bool
  | .c x => doneCi x
  | _ => false
end
section
open Go.RowKit
open Go.Lib
def ccL (m : Bool) (L : Int) : List Value := [.bool m, .int .i64 L]
def ccP (b : Bx) (k : Nat) : List Value := ccL b.map (cntB b - (k : Int))
def outP : List Bx → List Value
  | [] => []
  | b :: r => outP r ++ ccP b (b.have_ - 1)
def inP : List Bx → List Value
  | [] => []
  | b :: r => outP r ++ ccP b b.have_
theorem outP_length : ∀ s : List Bx, (outP s).length = s.length * 2
  | [] => rfl
  | b :: r => by rw [outP, List.length_append, outP_length r]; simp [ccP, ccL]; omega
theorem inP_out : ∀ s : List Bx, outP (incB s) = inP s
  | [] => rfl
  | _ :: _ => rfl
def CntP (x : Bx) : Prop := 0 ≤ x.c ∧ x.c ≤ 1000000 ∧ (x.have_ : Int) ≤ cntB x
theorem CntP.le {x : Bx} (h : CntP x) : 0 ≤ cntB x ∧ cntB x ≤ 2000000 := by
  obtain ⟨h1, h2, _⟩ := h; unfold cntB; rw [if_neg (by omega)]; split <;> omega
structure OkP (s : List Bx) : Prop where
  deep : s.length ≤ 16
  all : ∀ x ∈ s, CntP x
  some_ : ∀ x ∈ s.tail, 1 ≤ x.have_
  head : ∀ x r, s = x :: r → fullB x = false
structure OutP (s : List Bx) : Prop where
  deep : s.length ≤ 16
  all : ∀ x ∈ s, CntP x ∧ 1 ≤ x.have_
theorem OkP.inc {s : List Bx} (h : OkP s) : OutP (incB s) := by
  cases s with
  | nil => exact ⟨by simp [incB], fun x hx => by simp [incB] at hx⟩
  | cons y r =>
    refine ⟨h.deep, fun x hx => ?_⟩; simp only [incB, List.mem_cons] at hx; rcases hx with rfl | hx
    · have h1 := h.all y (by simp)
      have h2 := h.head y r rfl; rw [full_cnt, beq_eq_false_iff_ne] at h2; obtain ⟨a, b, c⟩ := h1; refine ⟨⟨a, b, ?_⟩, by simp⟩; show ((y.have_ + 1 : Nat) : Int) ≤ cntB y; omega
    · exact ⟨h.all x (List.mem_cons_of_mem _ hx), h.some_ x hx⟩
theorem OutP.tail {x : Bx} {r : List Bx} (h : OutP (x :: r)) : OutP r := ⟨by have := h.deep; simp only [List.length_cons] at this; omega, fun y hy => h.all y (List.mem_cons_of_mem _ hy)⟩
theorem OutP.rest : ∀ {s : List Bx}, OutP s → OkP (restC s)
  | [], _ => ⟨by simp [restC], fun x hx => by simp [restC] at hx, fun x hx => by simp [restC] at hx, fun x r h => by cases h⟩
  | b :: r, h => by
    rw [restC]; by_cases hf : fullB b = true
    · rw [if_pos hf]
      exact h.tail.rest
    · rw [if_neg hf]
      refine ⟨h.deep, fun x hx => (h.all x hx).1, fun x hx => (h.all x (List.mem_cons_of_mem _ hx)).2, fun x r' he => ?_⟩; cases he; simpa using hf
theorem OkP.push {s : List Bx} (h : OkP s) (hd : s.length < 16) (m : Bool) {c : Int} (hc : 0 < c ∧ c ≤ 1000000) : OkP (⟨m, c, 0⟩ :: incB s) := by
  have h1 := h.inc; refine ⟨by rw [List.length_cons, inc_lenK]; omega, fun x hx => ?_, fun x hx => (h1.all x hx).2, fun x r he => ?_⟩
  · rcases List.mem_cons.1 hx with rfl | hx
    · refine ⟨by simp only; omega, hc.2, ?_⟩
      unfold cntB; rw [if_neg (by simp only; omega)]; simp only; split <;> omega
    · exact (h1.all x hx).1
  · cases he
    rw [full_cnt, beq_eq_false_iff_ne]; unfold cntB; rw [if_neg (by simp only; omega)]; simp only; split <;> omega
theorem info_conP : (Tryz.prog.info? 255).map (fun i => (i.zero, i.size, i.bytes)) = some (some (.agg #[.bool false, .int .i64 0]), 2, 16) := by kernel_rfl
theorem nsp_last {w : World} {v : Value} {P : List Value} {n : Nat} {m : Bool} {L : Int} (hP : P.length = n * 2) (h : Win w 255 2 v (n + 1) (P ++ ccL m L)) :
    ∃ g off cap, v = .slice (some ⟨g, off, none⟩) (n + 1) cap ∧
      (w.cell? ⟨g, off + n * 2, none⟩ = some (.bool m) ∧ w.cell? ⟨g, off + n * 2 + 1, none⟩ = some (.int .i64 L)) ∧
      (w.frozen? ⟨g, off + n * 2, none⟩ = false ∧ w.frozen? ⟨g, off + n * 2 + 1, none⟩ = false) := by
  obtain ⟨g, off, cap, rfl, h1, h2, _, _, h3⟩ := h.form (by simp); have hx : ∀ j u, (ccL m L)[j]? = some u → w.cell? ⟨g, off + (n * 2 + j), none⟩ = some u ∧ w.frozen? ⟨g, off + (n * 2 + j), none⟩ = false := fun j u hu => by
    refine h3 _ u ?_; rw [← hP, List.getElem?_append_right (by omega), Nat.add_sub_cancel_left]; exact hu
  have x0 := hx 0 _ rfl; have x1 := hx 1 _ rfl; simp only [← Nat.add_assoc, Nat.add_zero] at x0 x1; exact ⟨g, off, cap, rfl, ⟨x0.1, x1.1⟩, ⟨x0.2, x1.2⟩⟩
theorem nsp_store {w : World} {P : List Value} {m : Bool} {L L' : Int} {g off cap n k : Nat} (_ : k = n + 1) (hP : P.length = n * 2) (h : Win w 255 2 (.slice (some ⟨g, off, none⟩) k cap) k (P ++ ccL m L)) :
    Win (w.setCell ⟨g, off + n * 2 + 1, none⟩ (.int .i64 L')) 255 2 (.slice (some ⟨g, off, none⟩) k cap) k (P ++ ccL m L') := by
  have hw := h.store (n * 2 + 1) (by rw [List.length_append, hP]; simp [ccL]) (.int .i64 L'); have hx : (P ++ ccL m L).set (n * 2 + 1) (.int .i64 L') = P ++ ccL m L' := by
    rw [← hP, List.set_append, if_neg (by omega), Nat.add_sub_cancel_left]; rfl
  rw [hx, ← Nat.add_assoc] at hw; exact hw
theorem pcounts_nil (w : World) : ∀ v, Win w 255 2 v 0 [] → Calls Tryz.prog 204 #[v] w fun r w' => r = .returned (.bool false) ∧ w = w' := by
  intro v h; obtain ⟨a, cap, rfl, _, _⟩ := h.slice_form; clear h; go_enter Tryz.func204, Tryz.ntmps204; go_wp2; go_ret; exact ⟨rfl, rfl⟩
theorem pcounts_at {w : World} {P : List Value} {m : Bool} {L : Int} {n : Nat} {v : Value} (hP : P.length = n * 2) (hd : n < 16) (h : Win w 255 2 v (n + 1) (P ++ ccL m (L + 1))) (hL : 0 ≤ L ∧ L ≤ 2000000) :
    Calls Tryz.prog 204 #[v] w fun e w' => e = .returned (.bool (L == 0)) ∧ ∃ g off cap, v = .slice (some ⟨g, off, none⟩) (n + 1) cap ∧ w' = w.setCell ⟨g, off + n * 2 + 1, none⟩ (.int .i64 L) := by
  obtain ⟨g, off, cap, rfl, ⟨c0, c1⟩, ⟨f0, f1⟩⟩ := nsp_last hP h; clear h; have hw : IntKind.i64.wrap (L + 1 - 1) = L := by simp only [IntKind.wrap_i64]; omega
  have hw2 : IntKind.i64.wrap L = L := by simp only [IntKind.wrap_i64]; omega
  have hz : ((n : Int) + 1 == 0) = false := by rw [beq_eq_false_iff_ne]; omega
  have hwm : wrap64 (n : Int) = (n : Int) := by unfold wrap64; omega
  clear hP hL; go_enter Tryz.func204, Tryz.ntmps204; go_wp2; go_ret; exact ⟨rfl, g, off, cap, rfl, rfl⟩
end
section
open Go.RowKit
open Go.Lib
structure NsP (w : World) (b o : Nat) (v : Value) (n : Nat) (xs : List Value) : Prop where
  ptr : At w b o [v]
  win : Win w 255 2 v n xs
  far : b ∉ Value.owner v
theorem NsP.subg {g : List Nat} {w w' : World} {b o o' m n : Nat} {v : Value} {xs : List Value} (h : NsP w b o v n xs) (k : Subg g b o' m w w') (hd : o + 1 ≤ o' ∨ o' + m ≤ o) (hg : ∀ x ∈ Value.owner v, x ∉ g) : NsP w' b o v n xs :=
  ⟨h.ptr.subg k hd, h.win.subg k h.far hg, h.far⟩
theorem NsP.keep {w w' : World} {b o n : Nat} {v : Value} {xs : List Value} (h : NsP w b o v n xs) (hk : Below w.heap.size w w') : NsP w' b o v n xs :=
  ⟨h.ptr.keep (hk.block b (h.ptr.lt (by simp))), h.win.keep fun k hx => hk.block k (h.win.lt k hx), h.far⟩
theorem NsP.drewN {w : World} {b o n : Nat} {v : Value} {xs : List Value} (h : NsP w b o v n xs) (q : Nat) : NsP (w.drewN q) b o v n xs := ⟨h.ptr, h.win, h.far⟩
structure EndP (w wr : World) (b o N : Nat) (v v' : Value) (s q : List Bx) (j : Nat) : Prop where
  len : q.length + j = N
  rest : restC s = restC q
  num : numC s = numC q + j
  nst : NsP wr b o v' q.length (outP q)
  out : OutP q
  own : Value.owner v' = Value.owner v
  sub : Subg (Value.owner v) b o 1 w wr
theorem EndP.count {w wr w1 : World} {b o N : Nat} {v : Value} {s : List Bx} {x : Bx} {r : List Bx} {j g off cap : Nat} (h : EndP w wr b o N v (.slice (some ⟨g, off, none⟩) (r.length + 1) cap) s (x :: r) j)
    (hw : w1 = wr.setCell ⟨g, off + r.length * 2 + 1, none⟩ (.int .i64 (cntB x - (x.have_ : Int)))) :
    NsP w1 b o (.slice (some ⟨g, off, none⟩) (r.length + 1) cap) (r.length + 1) (outP r ++ ccP x x.have_) ∧ Subg (Value.owner v) b o 1 w w1 := by
  have hne : g ≠ b := fun e => h.nst.far (by simp [Value.owner, e])
  have hs := nsp_store (L' := cntB x - (x.have_ : Int)) rfl (outP_length r) h.nst.win; have hS : Subg (Value.owner (.slice (some ⟨g, off, none⟩) (r.length + 1) cap)) b o 1 wr (wr.setCell ⟨g, off + r.length * 2 + 1, none⟩ (.int .i64 (cntB x - (x.have_ : Int)))) := subg_far wr (by simp [Value.owner]) hne _; rw [hw]; refine ⟨⟨h.nst.ptr.keep (Below.heap_setCell wr _ _ b (fun e => hne e.symm)), hs, h.nst.far⟩, ?_⟩; have hS2 := h.sub; rw [← h.own] at hS2 ⊢; exact hS2.tr hS
theorem EndP.stop {w wr w1 : World} {b o N : Nat} {v : Value} {s : List Bx} {x : Bx} {r : List Bx} {j g off cap : Nat} (h : EndP w wr b o N v (.slice (some ⟨g, off, none⟩) (r.length + 1) cap) s (x :: r) j)
    (hw : w1 = wr.setCell ⟨g, off + r.length * 2 + 1, none⟩ (.int .i64 (cntB x - (x.have_ : Int)))) (hf : fullB x = false) :
    numC s = j ∧ ∃ v', NsP w1 b o v' (restC s).length (inP (restC s)) ∧ Value.owner v' = Value.owner v ∧ Subg (Value.owner v) b o 1 w w1 := by
  obtain ⟨h1, h2⟩ := h.count hw; have hq : restC (x :: r) = x :: r := by rw [restC, if_neg (by rw [hf]; decide)]
  have hq2 : numC (x :: r) = 0 := by rw [numC, if_neg (by rw [hf]; decide)]
  refine ⟨by rw [h.num, hq2]; omega, _, ?_, h.own, h2⟩; rw [h.rest, hq]; exact h1
theorem EndP.none {w wr : World} {b o N : Nat} {v v' : Value} {s : List Bx} {j : Nat} (h : EndP w wr b o N v v' s [] j) : numC s = j ∧ ∃ v', NsP wr b o v' (restC s).length (inP (restC s)) ∧ Value.owner v' = Value.owner v ∧ Subg (Value.owner v) b o 1 w wr := by
  refine ⟨by rw [h.num]; simp [numC], v', ?_, h.own, h.sub⟩; rw [h.rest]; exact h.nst
theorem EndP.next {w wr w1 w2 : World} {b o N : Nat} {v v1 v2 : Value} {s : List Bx} {x : Bx} {r : List Bx} {j : Nat} (h : EndP w wr b o N v v1 s (x :: r) j) (hf : fullB x = true)
    (hS : Subg (Value.owner v) b o 1 w w1) (hN : NsP w2 b o v2 r.length (outP r)) (ho : Value.owner v2 = Value.owner v1) (h2 : Sub b o 1 w1 w2) : EndP w w2 b o N v v2 s r (j + 1) := by
  have h1 := h.len; simp only [List.length_cons] at h1; refine ⟨by omega, ?_, ?_, hN, h.out.tail, ho.trans h.own, hS.tr (h2.subg _)⟩
  · rw [h.rest, restC, if_pos hf]
  · rw [h.num, numC, if_pos hf]; omega
theorem pendItem_at {w : World} {b o : Nat} {v : Value} {s : List Bx} (h : NsP w b o v s.length (outP s)) (hk : OutP s) :
    Calls Tryz.prog 202 #[.pointer (some ⟨b, o, none⟩)] w fun r w' => r = .returned (.int .i64 (numC s : Nat)) ∧ ∃ v', NsP w' b o v' (restC s).length (inP (restC s)) ∧ Value.owner v' = Value.owner v ∧ Subg (Value.owner v) b o 1 w w' := by
  obtain ⟨N, hN⟩ : ∃ N, s.length = N := ⟨_, rfl⟩
  have H0 : Hid (EndP w w b o N v v s s 0) := hid ⟨by omega, rfl, by omega, h, hk, rfl, Subg.refl _ _ _ _ _⟩; have hd := hk.deep; rw [hN] at hd; clear h hk hN; go_enter Tryz.func202, Tryz.ntmps202; go_wp2
  go_loopw [3] (fun i wr => ∃ (j : Nat), i = .int .i64 j ∧ j ≤ N ∧ Hid (∃ (q : List Bx) (v' : Value), EndP w wr b o N v v' s q j)) (fun i _ => N - (RowKit.intOf i).toNat)
  case atStart => exact ⟨0, rfl, by omega, hid ⟨s, v, H0.out⟩⟩
  case round =>
    obtain ⟨j, rfl, hj, HI⟩ := hrel; obtain ⟨q, v', hI⟩ := HI.out; have hwj : wrap64 ((j : Int) + 1) = (j : Int) + 1 := by unfold wrap64; omega
    have hwj2 : IntKind.i64.wrap ((j : Int) + 1) = (j : Int) + 1 := by simp only [IntKind.wrap_i64]; omega
    cases q with
    | nil =>
      have c1 := (hI.nst.ptr 0 _ rfl).1; have f1 := (hI.nst.ptr 0 _ rfl).2; simp only [Nat.add_zero] at c1 f1; have HC := hid (pcounts_nil wr v' hI.nst.win); have HR := hid hI.none; clear HI hI; (go_wp2_with fail); refine HC.out.mono ?_; rintro r w1 ⟨rfl, rfl⟩; go_wp2; go_ret; exact ⟨by rw [HR.out.1]; rfl, HR.out.2⟩
    | cons x r =>
      have hlen := hI.len; simp only [List.length_cons] at hlen; have hx := hI.out.all x (by simp); have hle := hx.1.le; have hhv := hx.1.2.2; have h1 := hx.2; have hL : cntB x - ((x.have_ - 1 : Nat) : Int) = (cntB x - (x.have_ : Int)) + 1 := by omega
      have hwin : Win wr 255 2 v' (r.length + 1) (outP r ++ ccL x.map (cntB x - (x.have_ : Int) + 1)) := by
        have := hI.nst.win; simp only [outP, ccP, List.length_cons] at this
        rwa [hL] at this
      have HC := hid (pcounts_at (outP_length r) (by omega) hwin (by omega)); have hz : (cntB x - (x.have_ : Int) == 0) = fullB x := by
        rw [full_cnt, Bool.eq_iff_iff, beq_iff_eq, beq_iff_eq]; omega
      rw [hz] at HC; obtain ⟨g, off, cap, hv', _, _⟩ := nsp_last (outP_length r) hwin; subst hv'; have c1 := (hI.nst.ptr 0 _ rfl).1; have f1 := (hI.nst.ptr 0 _ rfl).2; simp only [Nat.add_zero] at c1 f1; have hlt : j < N := by omega
      have HR := hid (And.intro hI hlt); clear HI hI hlen hx hle hhv h1 hL hwin hz; by_cases hf : fullB x = true
      · rw [hf] at HC
        have HF := hid hf; clear hf; (go_wp2_with fail); refine HC.out.mono ?_; rintro e w1 ⟨rfl, g', off', cap', hv, hw1⟩; cases hv; obtain ⟨hN1, hS1⟩ := HR.out.1.count hw1; obtain ⟨v2, hsl, hw2, ho2⟩ := hN1.win.hi (P := Tryz.prog) (t := 148) Tryz.underlying148 (fun w => by kernel_rfl) r.length (by omega); rw [← outP_length, List.take_left] at hw2; obtain ⟨a2, c2, rfl, _, _⟩ := hw2.slice_form; have hl : IntKind.i64.wrap (r.length : Int) = (r.length : Int) := by simp only [IntKind.wrap_i64]; have := HR.out.2; have := HR.out.1.len; simp only [List.length_cons] at this; omega
        have d1 := (hN1.ptr 0 _ rfl).1; have g1 := (hN1.ptr 0 _ rfl).2; simp only [Nat.add_zero] at d1 g1; have hfin : Hid (EndP w ((w1.setCell ⟨b, o, none⟩ (.slice a2 r.length c2)).drewN 1) b o N v (.slice a2 r.length c2) s r (j + 1)) := hid (HR.out.1.next HF.out hS1 (NsP.drewN ⟨hN1.ptr.set 0 (by simp) _, hw2.setCell_far (by rw [ho2]; exact hN1.far) _, by rw [ho2]; exact hN1.far⟩ 1) ho2 ((sub_setCell w1 o _ (by omega)).drewN 1)); have HLT := hid HR.out.2; clear HC HR HF hw1 hN1 hS1 hw2 ho2 c1 f1; (go_wp2_with fail); refine wp_region_tail 11 (by kernel_rfl) (by kernel_rfl) ?_; simp only [List.take_succ_cons, List.take_zero, List.drop_succ_cons, List.drop_zero]
        repeat still_step
        refine wpStill_nil ?_; go_wp2
        go_roundw
        case rel => exact ⟨j + 1, rfl, HLT.out, hid ⟨_, _, hfin.out⟩⟩
        case measure =>
          have := HLT.out; simp [RowKit.intOf]; omega
      · rw [show fullB x = false by simpa using hf] at HC
        have HF := hid hf; clear hf; (go_wp2_with fail); refine HC.out.mono ?_; rintro e w1 ⟨rfl, g', off', cap', hv, hw1⟩; cases hv; have HE := hid (HR.out.1.stop hw1 (by simpa using HF.out)); clear hw1 HC HR HF; go_wp2; go_ret; exact ⟨by rw [HE.out.1]; rfl, HE.out.2⟩
end
end Go.Proofs.YtkgconbdmnmbnaaGreat
