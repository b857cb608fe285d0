/-
  CONTRACTS of package packin, part D: a Parser's cells; a text as a value. CONTRACTS of package packin, part G: ends. CONTRACTS of package packin, part H: the states in memory; goOn, beginText. CONTRACTS of package packin, part I: mayHave, byteOfText. CONTRACTS of package packin, part J: beginContainer. LAWS of chapter 15, over PinAll: PackinNumbers. CONTRACT of the document's own plain, for MessagePack: whatever part. CONTRACT of the document's own Writer, for MessagePack: a part of a document. The document's own Writer for MessagePack in a loop over a document: what it has written behind j parts. LAWS of chapter 15, over PinAll: PackinBack. LAWS of chapter 15, over PinAll: PackinCuts. CONTRACT of the document's own Writer, for MessagePack: a text, or bytes, of up to a thousand bytes.
-/
import Derived.Test.YtebnhelejebobaaHPinNestC
import Derived.Test.YtebnhelejebobaaHHeadSt
import Derived.StillTailTactics
import Derived.Test.YtebnhelejebobaaHPinNumA
import Derived.Test.YtebnhelejebobaaHPinNumB
import Derived.Test.YtebnhelejebobaaHPinNumC
import Derived.Test.YtebnhelejebobaaHRefPout
import Derived.Test.YtebnhelejebobaaHRefPu
import Derived.Test.YtebnhelejebobaaHRefPv
import Derived.Test.YtebnhelejebobaaHRefPw
import Derived.Test.YtebnhelejebobaaHRefPh
import Derived.Test.YtebnhelejebobaaHRefPi
import Derived.Test.YtebnhelejebobaaHRefPj
import Derived.Test.YtebnhelejebobaaG0c
import Derived.Test.YtebnhelejebobaaG1a
import Derived.Test.YtebnhelejebobaaG0b
/-
  CONTRACTS of package packin, part D: a Parser's cells; a text as a value.
-/
namespace Go.Proofs.Ytebnhelejebobaa
open Go.RowKit
open Go.Lib
/-- A Parser that has no error, at any place of a block: its depth, its place, its item, its number's head, its text, its open containers. -/
structure PP (w : World) (b o D pl kd nm fm : Nat) (h : Hd) (tk lk : Nat) (vt : Value) (t : List UInt8) (u : Option (Nat × Nat × Nat)) (vs : Value) (n : Nat) (xs : List Value) : Prop where
  a : At w b o [.int .i64 0, .int .i64 D, .int .i64 pl]
  it : At w b (o + 3) [.int .i64 kd, .int .u64 nm, .int .u8 fm]
  hd : HAt w b (o + 6) h
  tx : At w b (o + 12) [.int .i64 tk, .int .i64 lk, vt]
  ck : CAt w b (o + 15) u
  op : NsP w b (o + 19) vs n xs
  wt : Win w 5 1 vt t.length (bCells t)
  ft : b ∉ Value.owner vt
theorem PP.lt {w : World} {b o D pl kd nm fm : Nat} {h : Hd} {tk lk : Nat} {vt : Value} {t : List UInt8} {u : Option (Nat × Nat × Nat)} {vs : Value} {n : Nat} {xs : List Value} (c : PP w b o D pl kd nm fm h tk lk vt t u vs n xs) : b < w.heap.size := c.hd.lt
theorem PP.go {w : World} {b o D pl kd nm fm : Nat} {h : Hd} {tk lk : Nat} {vt : Value} {t : List UInt8} {u : Option (Nat × Nat × Nat)} {vs : Value} {n : Nat} {xs : List Value} {w' : World} (c : PP w b o D pl kd nm fm h tk lk vt t u vs n xs) (k : Below w.heap.size w w') : PP w' b o D pl kd nm fm h tk lk vt t u vs n xs := by
  have hk := k.block b c.lt
  exact ⟨c.a.keep hk, c.it.keep hk, c.hd.keep hk, c.tx.keep hk, c.ck.keep hk, c.op.keep k, c.wt.keep fun i hi => k.block i (c.wt.lt i hi), c.ft⟩
theorem PP.apart {w : World} {b o D pl kd nm fm : Nat} {h : Hd} {tk lk : Nat} {vt : Value} {t : List UInt8} {u : Option (Nat × Nat × Nat)} {vs : Value} {n : Nat} {xs : List Value} (c : PP w b o D pl kd nm fm h tk lk vt t u vs n xs) : ∀ k ∈ Value.owner vs, k ∉ Value.owner vt := c.wt.apart2 c.op.win (by decide)
theorem PP.cells {w : World} {b o D pl kd nm fm : Nat} {h : Hd} {tk lk : Nat} {vt : Value} {t : List UInt8} {u : Option (Nat × Nat × Nat)} {vs : Value} {n : Nat} {xs : List Value} (c : PP w b o D pl kd nm fm h tk lk vt t u vs n xs) :
    ((w.cell? ⟨b, o, none⟩ = some (.int .i64 0) ∧ w.frozen? ⟨b, o, none⟩ = false) ∧ (w.cell? ⟨b, o + 1, none⟩ = some (.int .i64 D) ∧ w.frozen? ⟨b, o + 1, none⟩ = false) ∧ (w.cell? ⟨b, o + 2, none⟩ = some (.int .i64 pl) ∧ w.frozen? ⟨b, o + 2, none⟩ = false)) ∧
    ((w.cell? ⟨b, o + 3, none⟩ = some (.int .i64 kd) ∧ w.frozen? ⟨b, o + 3, none⟩ = false) ∧ (w.cell? ⟨b, o + 3 + 1, none⟩ = some (.int .u64 nm) ∧ w.frozen? ⟨b, o + 3 + 1, none⟩ = false) ∧ (w.cell? ⟨b, o + 3 + 2, none⟩ = some (.int .u8 fm) ∧ w.frozen? ⟨b, o + 3 + 2, none⟩ = false)) ∧
    ((w.cell? ⟨b, o + 12, none⟩ = some (.int .i64 tk) ∧ w.frozen? ⟨b, o + 12, none⟩ = false) ∧ (w.cell? ⟨b, o + 12 + 1, none⟩ = some (.int .i64 lk) ∧ w.frozen? ⟨b, o + 12 + 1, none⟩ = false) ∧ (w.cell? ⟨b, o + 12 + 2, none⟩ = some vt ∧ w.frozen? ⟨b, o + 12 + 2, none⟩ = false)) ∧
    (w.cell? ⟨b, o + 19, none⟩ = some vs ∧ w.frozen? ⟨b, o + 19, none⟩ = false) :=
  ⟨⟨c.a 0 _ rfl, c.a 1 _ rfl, c.a 2 _ rfl⟩, ⟨c.it 0 _ rfl, c.it 1 _ rfl, c.it 2 _ rfl⟩, ⟨c.tx 0 _ rfl, c.tx 1 _ rfl, c.tx 2 _ rfl⟩, c.op.ptr 0 _ rfl⟩
theorem PP.setA {w : World} {b o D pl kd nm fm : Nat} {h : Hd} {tk lk : Nat} {vt : Value} {t : List UInt8} {u : Option (Nat × Nat × Nat)} {vs : Value} {n : Nat} {xs : List Value} (c : PP w b o D pl kd nm fm h tk lk vt t u vs n xs) {w' : World} (k : Sub b o 3 w w') {pl' : Nat} (ha : At w' b o [.int .i64 0, .int .i64 D, .int .i64 pl']) : PP w' b o D pl' kd nm fm h tk lk vt t u vs n xs :=
  ⟨ha, c.it.sub k (by omega), c.hd.sub k (by omega), c.tx.sub k (by omega), c.ck.sub k (by omega), c.op.subg (k.subg []) (by omega) (by simp), c.wt.subg (k.subg []) c.ft (by simp), c.ft⟩
theorem PP.setPl {w : World} {b o D pl kd nm fm : Nat} {h : Hd} {tk lk : Nat} {vt : Value} {t : List UInt8} {u : Option (Nat × Nat × Nat)} {vs : Value} {n : Nat} {xs : List Value} (c : PP w b o D pl kd nm fm h tk lk vt t u vs n xs) (p : Nat) : PP (w.setCell ⟨b, o + 2, none⟩ (.int .i64 p)) b o D p kd nm fm h tk lk vt t u vs n xs :=
  c.setA (sub_setCell w (o + 2) _ (by omega)) (c.a.set 2 (by simp) _)
theorem PP.setIt {w : World} {b o D pl kd nm fm : Nat} {h : Hd} {tk lk : Nat} {vt : Value} {t : List UInt8} {u : Option (Nat × Nat × Nat)} {vs : Value} {n : Nat} {xs : List Value} (c : PP w b o D pl kd nm fm h tk lk vt t u vs n xs) {w' : World} (k : Sub b (o + 3) 3 w w') {kd' nm' fm' : Nat} (ha : At w' b (o + 3) [.int .i64 kd', .int .u64 nm', .int .u8 fm']) : PP w' b o D pl kd' nm' fm' h tk lk vt t u vs n xs :=
  ⟨c.a.sub k (by simp), ha, c.hd.sub k (by omega), c.tx.sub k (by omega), c.ck.sub k (by omega), c.op.subg (k.subg []) (by omega) (by simp), c.wt.subg (k.subg []) c.ft (by simp), c.ft⟩
theorem PP.setHd {w : World} {b o D pl kd nm fm : Nat} {h : Hd} {tk lk : Nat} {vt : Value} {t : List UInt8} {u : Option (Nat × Nat × Nat)} {vs : Value} {n : Nat} {xs : List Value} (c : PP w b o D pl kd nm fm h tk lk vt t u vs n xs) {w' : World} (k : Sub b (o + 6) 6 w w') {h' : Hd} (ha : HAt w' b (o + 6) h') : PP w' b o D pl kd nm fm h' tk lk vt t u vs n xs :=
  ⟨c.a.sub k (by simp), c.it.sub k (by simp), ha, c.tx.sub k (by omega), c.ck.sub k (by omega), c.op.subg (k.subg []) (by omega) (by simp), c.wt.subg (k.subg []) c.ft (by simp), c.ft⟩
theorem PP.setTx {w : World} {b o D pl kd nm fm : Nat} {h : Hd} {tk lk : Nat} {vt : Value} {t : List UInt8} {u : Option (Nat × Nat × Nat)} {vs : Value} {n : Nat} {xs : List Value} (c : PP w b o D pl kd nm fm h tk lk vt t u vs n xs) {w' : World} {g : List Nat} (k : Subg g b (o + 12) 7 w w') (hg : ∀ x ∈ Value.owner vs, x ∉ g) {tk' lk' : Nat} {vt' : Value} {t' : List UInt8} {u' : Option (Nat × Nat × Nat)}
    (ha : At w' b (o + 12) [.int .i64 tk', .int .i64 lk', vt']) (hk : CAt w' b (o + 15) u') (hw : Win w' 5 1 vt' t'.length (bCells t')) (hf : b ∉ Value.owner vt') : PP w' b o D pl kd nm fm h tk' lk' vt' t' u' vs n xs :=
  ⟨c.a.subg k (by simp), c.it.subg k (by simp), c.hd.map fun vs hv h => h.subg k (by omega), ha, hk, c.op.subg k (by omega) hg, hw, hf⟩
theorem PP.setOp {w : World} {b o D pl kd nm fm : Nat} {h : Hd} {tk lk : Nat} {vt : Value} {t : List UInt8} {u : Option (Nat × Nat × Nat)} {vs : Value} {n : Nat} {xs : List Value} (c : PP w b o D pl kd nm fm h tk lk vt t u vs n xs) {w' : World} {g : List Nat} (k : Subg g b (o + 19) 1 w w') (hg : ∀ x ∈ Value.owner vt, x ∉ g) {vs' : Value} {n' : Nat} {xs' : List Value} (ha : NsP w' b (o + 19) vs' n' xs') : PP w' b o D pl kd nm fm h tk lk vt t u vs' n' xs' :=
  ⟨c.a.subg k (by simp), c.it.subg k (by simp), c.hd.map fun vs hv h => h.subg k (by omega), c.tx.subg k (by simp), (by
    refine c.ck.map fun vs hv h => h.subg k (by omega)), ha, c.wt.subg k c.ft hg, c.ft⟩
theorem PP.drewN {w : World} {b o D pl kd nm fm : Nat} {h : Hd} {tk lk : Nat} {vt : Value} {t : List UInt8} {u : Option (Nat × Nat × Nat)} {vs : Value} {n : Nat} {xs : List Value} (c : PP w b o D pl kd nm fm h tk lk vt t u vs n xs) (q : Nat) : PP (w.drewN q) b o D pl kd nm fm h tk lk vt t u vs n xs := ⟨c.a, c.it, c.hd.drewN q, c.tx, (c.ck.map fun _ _ h => h), c.op.drewN q, c.wt, c.ft⟩
theorem PP.tx7 {w : World} {b o D pl kd nm fm : Nat} {h : Hd} {tk lk : Nat} {vt : Value} {t : List UInt8} {u : Option (Nat × Nat × Nat)} {vs : Value} {n : Nat} {xs : List Value} (c : PP w b o D pl kd nm fm h tk lk vt t u vs n xs) : Room w b (o + 12) 7 := by
  obtain ⟨n, lo, hi, hk⟩ := c.ck.cells
  have := (At.append c.tx (us := ckCells n lo hi u.isNone) hk).room (by simp)
  simpa [ckCells] using this
theorem PP.it3 {w : World} {b o D pl kd nm fm : Nat} {h : Hd} {tk lk : Nat} {vt : Value} {t : List UInt8} {u : Option (Nat × Nat × Nat)} {vs : Value} {n : Nat} {xs : List Value} (c : PP w b o D pl kd nm fm h tk lk vt t u vs n xs) : Room w b (o + 3) 3 := by
  have := c.it.room (by simp)
  simpa using this
theorem PP.room {w : World} {b o D pl kd nm fm : Nat} {h : Hd} {tk lk : Nat} {vt : Value} {t : List UInt8} {u : Option (Nat × Nat × Nat)} {vs : Value} {n : Nat} {xs : List Value} (c : PP w b o D pl kd nm fm h tk lk vt t u vs n xs) : Room w b o 20 := by
  obtain ⟨n, lo, hi, hk⟩ := c.ck.cells
  have h1 := At.append c.tx (us := ckCells n lo hi u.isNone) hk
  have h2 := At.append h1 (us := [vs]) (by simpa [ckCells] using c.op.ptr)
  have h3 := At.append c.hd.2 (us := _) (by rw [hdCells_len]; exact h2)
  have h4 := At.append c.it h3
  have h5 := At.append c.a h4
  have := h5.room (by simp)
  simpa [ckCells, hdCells_len] using this
/-! ### A text as a value -/
def tkT (m : Bool) : Nat := if m = true then 8 else 7
set_option maxRecDepth 100000 in
set_option maxHeartbeats 1000000 in
theorem ppart_at {w : World} {b o : Nat} {m : Bool} {lk : Nat} {vt : Value} {t : List UInt8} (hA : At w b o [.int .i64 (tkT m : Nat), .int .i64 lk, vt]) (hW : Win w 5 1 vt t.length (bCells t)) :
    Calls Try.prog 70 #[.pointer (some ⟨b, o, none⟩)] w fun r w' => r = .returned (valE (evTxC m t)) ∧ w = w' := by
  have c0 := (hA 0 _ rfl).1
  have c2 := (hA 2 _ rfl).1
  simp only [Nat.add_zero] at c0
  cases m with
  | true =>
    have hcv := conv_as (T := 103) Try.underlying103 hW
    rw [show valE (evTxC true t) = .iface 103 (.string ⟨t.toArray⟩) from rfl]
    obtain ⟨a, cp, rfl, _, _⟩ := hW.slice_form
    simp only [tkT] at c0
    generalize (⟨t.toArray⟩ : ByteArray) = X at *
    clear hA hW
    go_enter Try.func70, Try.ntmps70
    go_wp2
    go_ret
    exact ⟨rfl, rfl⟩
  | false =>
    have hcv := conv_as (T := 104) Try.underlying104 hW
    rw [show valE (evTxC false t) = .iface 104 (.string ⟨t.toArray⟩) from rfl]
    obtain ⟨a, cp, rfl, _, _⟩ := hW.slice_form
    simp only [tkT] at c0
    generalize (⟨t.toArray⟩ : ByteArray) = X at *
    clear hA hW
    go_enter Try.func70, Try.ntmps70
    go_wp2
    go_ret
    exact ⟨rfl, rfl⟩
end Go.Proofs.Ytebnhelejebobaa
/-
  CONTRACTS of package packin, part G: ends.
-/
namespace Go.Proofs.Ytebnhelejebobaa
open Go.RowKit
open Go.Lib
/-- In the midst of ends: j ends are told. -/
structure EndsJ (w0 w wr : World) (b o D pl : Nat) (kd nm fm : Nat) (h : Hd) (tk lk : Nat) (vt : Value) (t : List UInt8) (u : Option (Nat × Nat × Nat)) (v vs' : Value) (q : List Bx) (L : List Ev) (j : Nat) (v1 : Value) (g : List Nat) : Prop where
  cp : PP wr b o D pl kd nm fm h tk lk vt t u vs' q.length (inP q)
  vls : Vls w0 wr v1 (L ++ List.replicate j evEnd)
  sub : Subg g b o 20 w wr
  size : w0.heap.size ≤ wr.heap.size
theorem EndsJ.next {w0 w wr w3 : World} {b o D pl : Nat} {kd nm fm : Nat} {h : Hd} {tk lk : Nat} {vt : Value} {t : List UInt8} {u : Option (Nat × Nat × Nat)} {v vs' : Value} {q : List Bx} {L : List Ev} {j : Nat} {v1 v3 : Value} {vs : Value} {ob : Obj}
    (I : EndsJ w0 w wr b o D pl kd nm fm h tk lk vt t u v vs' q L j v1 (Value.owner v ++ Value.owner vs))
    (hv1 : ∀ k ∈ Value.owner v1, k ∈ Value.owner v ∨ w.heap.size ≤ k) (hb0 : b < w0.heap.size) (hvt : ∀ k ∈ Value.owner vt, k < w0.heap.size) (hvs : ∀ k ∈ Value.owner vs', k < w0.heap.size)
    (hW : Win w3 20 1 v3 (L.length + j + 1) ((L ++ List.replicate j evEnd).map valE ++ [valE evEnd])) (hG : (wr.alloc ob).grownBy w3 v1.ownBlock) (hO : v3.ownBlock = v1.ownBlock ∨ v3.ownBlock = some (wr.alloc ob).heap.size ∧ (wr.alloc ob).heap.size < w3.heap.size) :
    EndsJ w0 w w3 b o D pl kd nm fm h tk lk vt t u v vs' q L (j + 1) v3 (Value.owner v ++ Value.owner vs) ∧ (∀ k ∈ Value.owner v3, k ∈ Value.owner v ∨ w.heap.size ≤ k) := by
  have hz : (wr.alloc ob).heap.size = wr.heap.size + 1 := by simp
  have hkeep : ∀ k, k < w0.heap.size → w3.heap[k]? = wr.heap[k]? := fun k hk => by
    have hk2 : k < wr.heap.size := Nat.lt_of_lt_of_le hk I.size
    refine (hG.block k (by omega) (fun e => ?_)).trans (Below.heap_alloc wr ob k hk2)
    have := I.vls.new k ((ob_iff _ _).1 e.symm)
    omega
  have hB : Below w0.heap.size wr w3 := ⟨hG.os, hG.tape, hG.output, by have := hG.size; omega, hkeep⟩
  have hw := I.sub.size
  refine ⟨⟨?_, ?_, ?_, by have := hG.size; have := I.size; omega⟩, fun k hk => ?_⟩
  · have hk := hkeep b hb0
    exact ⟨I.cp.a.keep hk, I.cp.it.keep hk, I.cp.hd.keep hk, I.cp.tx.keep hk, I.cp.ck.keep hk, ⟨I.cp.op.ptr.keep hk, I.cp.op.win.keep fun k hx => hkeep k (hvs k hx), I.cp.op.far⟩, I.cp.wt.keep fun k hx => hkeep k (hvt k hx), I.cp.ft⟩
  · rw [List.replicate_succ', ← List.append_assoc]
    refine vls_more (K := [evEnd]) (w := wr.alloc ob) (n := L.length + j) (m := 1) ((I.vls.go ((Below.refl _ _).alloc (Nat.le_refl _) ob))) (by simp) rfl (by have := I.size; omega) ?_ hO
    simpa using hW
  · have h1 : Subg (Value.owner v1) b o 20 wr w3 :=
      (subg_below ((Below.refl _ _).alloc (Nat.le_refl _) ob) I.cp.lt _ _ _).tr (subg_grown hG (fun k hk => (ob_iff _ _).1 hk) (fun e => by have := I.vls.new b ((ob_iff _ _).1 e); omega) (by have := I.cp.lt; omega))
    refine I.sub.trans h1 (fun k hk => ?_)
    exact (hv1 k hk).imp (fun h => List.mem_append.2 (.inl h)) id
  · rcases hO with e | ⟨e, _⟩
    · exact hv1 k ((ob_iff _ _).1 (e ▸ (ob_iff _ _).2 hk))
    · have h2 := (ob_iff _ _).2 hk
      rw [e] at h2
      cases h2
      exact .inr (by omega)
/-- What ends leaves. -/
structure EndsQ (w0 w w' : World) (b o D : Nat) (kd nm fm : Nat) (h : Hd) (tk lk : Nat) (vt : Value) (t : List UInt8) (u : Option (Nat × Nat × Nat)) (v vs : Value) (s : List Bx) (L : List Ev) (x : Value) : Prop where
  cp : ∃ vs', PP w' b o D (plE (restC s)) kd nm fm h tk lk vt t u vs' (restC s).length (inP (restC s)) ∧ Value.owner vs' = Value.owner vs
  vls : Vls w0 w' x (L ++ endsC s)
  sub : Subg (Value.owner v ++ Value.owner vs) b o 20 w w'
set_option maxRecDepth 100000 in
set_option maxHeartbeats 4000000 in
/-- ENDS. -/
theorem pends_at {w0 w : World} {b o D pl : Nat} {kd nm fm : Nat} {h : Hd} {tk lk : Nat} {vt : Value} {t : List UInt8} {u : Option (Nat × Nat × Nat)} {vs : Value} {s : List Bx} {v : Value} {L : List Ev} (c : PP w b o D pl kd nm fm h tk lk vt t u vs s.length (outP s)) (hV : Vls w0 w v L) (hL : L.length ≤ 2) (hs : w0.heap.size ≤ w.heap.size) (hb0 : b < w0.heap.size) (hvt : ∀ k ∈ Value.owner vt, k < w0.heap.size) (hvs : ∀ k ∈ Value.owner vs, k < w0.heap.size)
    (hk : OutP s) :
    Calls Try.prog 66 #[.pointer (some ⟨b, o, none⟩), v] w fun r w' => ∃ x, r = .returned x ∧ EndsQ w0 w w' b o D kd nm fm h tk lk vt t u v vs s L x := by
  have hE := pendItem_at c.op hk
  have hnum : numC s ≤ 16 := by
    have : ∀ s : List Bx, numC s ≤ s.length := by
      intro s
      induction s with
      | nil => simp [numC]
      | cons b r ih => simp only [numC, List.length_cons]; split <;> omega
    have := this s
    have := hk.deep
    omega
  have HE := Lib.hid hE
  have H := Lib.hid (And.intro c (And.intro hV (And.intro hL (And.intro hs (And.intro hb0 (And.intro hvt hvs))))))
  obtain ⟨N, hN⟩ : ∃ N, numC s = N := ⟨_, rfl⟩
  have HNN := Lib.hid hN
  rw [hN] at HE hnum
  obtain ⟨n0, hn0⟩ : ∃ n0, L.length = n0 := ⟨_, rfl⟩
  have HN0 := Lib.hid hn0
  have hn2 : n0 ≤ 2 := by omega
  obtain ⟨a, cp, hv⟩ := hV.form
  rw [hn0] at hv
  subst hv
  clear hE hN c hV hL hs hb0 hvt hvs hk hn0
  go_enter Try.func66, Try.ntmps66
  go_wp2_with fail
  refine HE.out.mono ?_
  rintro r w1 ⟨rfl, vs', hN1, ho1, hS1⟩
  have hI : EndsJ w0 w w1 b o D pl kd nm fm h tk lk vt t u (.slice a n0 cp) vs' (restC s) L 0 (.slice a n0 cp) (Value.owner (.slice a n0 cp) ++ Value.owner vs) := by
    obtain ⟨c, hV, hL, hs, hb0, hvt, hvs⟩ := H.out
    have hne : ∀ x ∈ Value.owner (.slice a n0 cp), x ≠ b ∧ x ∉ Value.owner vs := fun x hx => by
      have h1 := hV.new x hx
      exact ⟨by omega, fun h2 => by have := hvs x h2; omega⟩
    refine ⟨c.setOp hS1 (fun x hx h2 => c.apart x h2 hx) hN1, ?_, hS1.widen (fun x hx => List.mem_append.2 (.inr hx)) (by omega) (by omega), Nat.le_trans hs hS1.size⟩
    rw [List.replicate_zero, List.append_nil]
    exact ⟨hV.win.keep fun k hk => hS1.block k (hV.win.lt k hk) (hne k hk).1 (hne k hk).2, hV.new⟩
  have HI := Lib.hid hI
  have HO := Lib.hid ho1
  clear hN1 ho1 hS1 hI HE
  go_wp2
  go_loopw [1, 9] (fun l i wr => ∃ (j : Nat) (a1 : Option Addr) (c1 : Nat), l = .slice a1 (n0 + j) c1 ∧ i = .int .i64 j ∧ j ≤ N ∧ Hid (EndsJ w0 w wr b o D pl kd nm fm h tk lk vt t u (.slice a n0 cp) vs' (restC s) L j (.slice a1 (n0 + j) c1) (Value.owner (.slice a n0 cp) ++ Value.owner vs) ∧ (∀ k ∈ Value.owner (.slice a1 (n0 + j) c1), k ∈ Value.owner (.slice a n0 cp) ∨ w.heap.size ≤ k))) (fun _ i _ => N - (RowKit.intOf i).toNat)
  case atStart => exact ⟨0, a, cp, rfl, rfl, by omega, Lib.hid ⟨HI.out, fun k hk => .inl hk⟩⟩
  case round =>
    obtain ⟨j, a1, c1, rfl, rfl, hj, HR⟩ := hrel
    clear HI
    by_cases hlt : j < N
    · have hwin : Hid (∀ ob, Win (wr.alloc ob) 20 1 (.slice a1 (n0 + j) c1) (n0 + j) ((L ++ List.replicate j evEnd).map valE)) := Lib.hid (fun ob => by
        have := HR.out.1.vls.win.alloc ob
        simpa [HN0.out] using this)
      go_wp2_with (at_builtin; refine wpList_append_win rfl _ _ _ rfl Try.underlying47 info_any rfl rfl (hwin.out _) _ rfl 1 _ (src_new _ Try.underlying47 1 1 [valE evEnd] 20 _ rfl (vals_one [evEnd]) (heap_alloc_new _ _)) ?e1 ?e2 ?_)
      case e1 => unfold maxLen; omega
      case e2 => omega
      intro v3 w3 hW3 hG3 hO3
      have hX := HR.out.1.next (vs := vs) HR.out.2 H.out.2.2.2.2.1 H.out.2.2.2.2.2.1 (by rw [HO.out]; exact H.out.2.2.2.2.2.2) (by rw [HN0.out]; simpa using hW3.out) hG3.out (by simpa using hO3.out)
      obtain ⟨a3, c3, rfl, _, _⟩ := Win.slice_form hW3.out
      have H3 := Lib.hid hX
      clear hW3 hG3 hO3 hX
      go_wp2
      go_roundw
      case rel => exact ⟨j + 1, a3, c3, by rw [Nat.add_assoc], rfl, hlt, Lib.hid (by have := H3.out; rwa [Nat.add_assoc] at this)⟩
      case measure => simp [RowKit.intOf]; omega
    · obtain rfl : j = N := by omega
      have hF := HR.out.1.cp
      obtain ⟨⟨_, _, ⟨c2, f2⟩⟩, _, _, c19, f19⟩ := hF.cells
      have hlen := HR.out.1.cp.op.win.slice_form
      obtain ⟨a5, c5, rfl, _, _⟩ := hlen
      have HF := Lib.hid hF
      have hfin : Hid (∀ x wq q, PP wq b o D (plE (restC s)) kd nm fm h tk lk vt t u (.slice a5 (restC s).length c5) (restC s).length (inP (restC s)) → Sub b o 20 wr wq → x = (Value.slice a1 (n0 + j) c1) → EndsQ w0 w (wq.drewN q) b o D kd nm fm h tk lk vt t u (.slice a n0 cp) vs s L x) := Lib.hid (by
        rintro x wq q hc hs rfl
        refine ⟨⟨_, hc.drewN q, HO.out⟩, ?_, (HR.out.1.sub.tr (hs.subg _)).drewN q⟩
        have := HR.out.1.vls.sub hs H.out.2.2.2.2.1
        unfold endsC
        rw [HNN.out]
        exact ⟨this.win, this.new⟩)
      by_cases he : (restC s).length = 0
      · have hp : plE (restC s) = 3 := by unfold plE; rw [if_pos (by simpa using he)]
        rw [hp] at hfin
        have HP := Lib.hid (And.intro ((hF.setPl 0).setPl 3) ((sub_setCell (b := b) (o := o) (n := 20) wr (o + 2) (.int .i64 0) (by omega)).setCell (o + 2) (.int .i64 3) (by omega)))
        have hz : ((restC s).length : Int) = 0 := by omega
        have hz2 : (((restC s).length : Int) == 0) = true := by rw [hz]; rfl
        generalize (restC s).length = K at *
        clear HR hF HF hz he hp
        go_wp2
        go_ret
        exact ⟨_, rfl, hfin.out _ _ 0 HP.out.1 HP.out.2 rfl⟩
      · have hp : plE (restC s) = 0 := by unfold plE; rw [if_neg (by simpa using he)]
        rw [hp] at hfin
        have HP := Lib.hid (And.intro (hF.setPl 0) (sub_setCell (b := b) (o := o) (n := 20) wr (o + 2) (.int .i64 0) (by omega)))
        have hz2 : (((restC s).length : Int) == 0) = false := by rw [beq_eq_false_iff_ne]; omega
        generalize (restC s).length = K at *
        clear HR hF HF he hp
        go_wp2
        go_ret
        exact ⟨_, rfl, hfin.out _ _ 0 HP.out.1 HP.out.2 rfl⟩
end Go.Proofs.Ytebnhelejebobaa
/-
  CONTRACTS of package packin, part H: the states in memory; goOn, beginText.
-/
namespace Go.Proofs.Ytebnhelejebobaa
open Go.RowKit
open Go.Lib
/-- An item's kind, and its number's form, by the machine's. -/
def kdK (k : Nat) : Nat := if k = 0 then 1 else if k = 1 then 3 else if k = 2 then 7 else if k = 3 then 8 else if k = 4 then 9 else 10
def fmW (w : Nat) : Nat := if w = 1 then 24 else if w = 2 then 25 else if w = 4 then 26 else 27
/-- A Parser by the machine's state: behind an error all that is left is the room for its cells, and the depth. -/
def StM (w : World) (b o D : Nat) (s : Pm) (vt vs : Value) : Prop :=
  match s with
  | .c (.bad e) => e ≠ 0 ∧ Room w b o 20 ∧ w.cell? ⟨b, o + 1, none⟩ = some (.int .i64 D)
  | .c (.item s dn) => ∃ kd nm fm h, PP w b o D (if dn = true then 3 else 0) kd nm fm h 0 0 vt [] st0 vs s.length (inP s)
  | .c (.text s m n t u) => ∃ kd nm fm h, PP w b o D 2 kd nm fm h (tkT m) n vt t u vs s.length (inP s)
  | .num s k q n a => ∃ nm, PP w b o D 1 (kdK k) nm (fmW q) (.mid 0 n a) 0 0 vt [] st0 vs s.length (inP s)
  | _ => False
/-- What a step's piece leaves. -/
structure GoM (w0 w w' : World) (b o D : Nat) (vt vs : Value) (q : Pm × List Ev) (x : Value) : Prop where
  vls : Vls w0 w' x q.2
  st : ∃ vt' vs', StM w' b o D q.1 vt' vs' ∧ ∀ k ∈ Value.owner vt' ++ Value.owner vs', k ∈ Value.owner vt ++ Value.owner vs ∨ w.heap.size ≤ k
  sub : Subg (Value.owner vt ++ Value.owner vs) b o 20 w w'
theorem GoM.from_ {w0 w w1 w' : World} {b o D : Nat} {vt vs vt1 : Value} {q : Pm × List Ev} {x : Value} (h : GoM w0 w1 w' b o D vt1 vs q x) (hS : Subg (Value.owner vt ++ Value.owner vs) b o 20 w w1) (ho : ∀ k ∈ Value.owner vt1, k ∈ Value.owner vt ∨ w.heap.size ≤ k) : GoM w0 w w' b o D vt vs q x := by
  have hg : ∀ k ∈ Value.owner vt1 ++ Value.owner vs, k ∈ Value.owner vt ++ Value.owner vs ∨ w.heap.size ≤ k := fun k hk => by
    rcases List.mem_append.1 hk with hk | hk
    · exact (ho k hk).imp (fun h => List.mem_append.2 (.inl h)) id
    · exact .inl (List.mem_append.2 (.inr hk))
  obtain ⟨vt', vs', hst, ho'⟩ := h.st
  exact ⟨h.vls, ⟨vt', vs', hst, fun k hk => (ho' k hk).elim (hg k) (fun h2 => .inr (Nat.le_trans hS.size h2))⟩, hS.trans h.sub hg⟩
theorem GoM.up {w0 w w1 w' : World} {b o D : Nat} {vt vs : Value} {q : Pm × List Ev} {x : Value} (h : GoM w0 w1 w' b o D vt vs q x) (hB : Below w.heap.size w w1) (hb : b < w.heap.size) : GoM w0 w w' b o D vt vs q x :=
  h.from_ (subg_below hB hb _ _ _) (fun _ hk => .inl hk)
/-- Behind ends, as a piece. -/
theorem pends_go {w0 w w1 w' : World} {b o D kd nm fm : Nat} {h : Hd} {vt vs v vs1 : Value} {s : List Bx} {L : List Ev} {x : Value} {vt1 : Value} (hE : EndsQ w0 w1 w' b o D kd nm fm h 0 0 vt1 [] st0 v vs1 s L x) (hvt : Value.owner vt1 = [] ∨ vt1 = vt) (ho : Value.owner vs1 = Value.owner vs)
    (hv : ∀ k ∈ Value.owner v, w.heap.size ≤ k) (hS : Subg (Value.owner vt ++ Value.owner vs) b o 20 w w1) : GoM w0 w w' b o D vt vs (.c (atC s), L ++ endsC s) x := by
  obtain ⟨vs', hc, hvs⟩ := hE.cp
  refine ⟨hE.vls, ⟨vt1, vs', ?_, fun k hk => ?_⟩, hS.trans hE.sub (fun k hk => ?_)⟩
  · refine ⟨kd, nm, fm, h, ?_⟩
    simpa [plE] using hc
  · rcases List.mem_append.1 hk with hk | hk
    · rcases hvt with e | e
      · rw [e] at hk; cases hk
      · rw [e] at hk; exact .inl (List.mem_append.2 (.inl hk))
    · rw [hvs, ho] at hk
      exact .inl (List.mem_append.2 (.inr hk))
  · rcases List.mem_append.1 hk with hk | hk
    · exact .inr (hv k hk)
    · rw [ho] at hk
      exact .inl (List.mem_append.2 (.inr hk))
/-- A text that is none. -/
def txZP : List Value := [.int .i64 0, .int .i64 0, .slice none 0 0, .int .i64 0, .int .u8 0, .int .u8 0, .bool false]
def goP (s : List Bx) (m : Bool) (t : List UInt8) (n : Nat) (u : Option (Nat × Nat × Nat)) : Pm × List Ev := if 0 < n then (.c (.text s m n t u), []) else liftP (putC s (evTxC m t))
theorem goP_err (s : List Bx) (m : Bool) (t : List UInt8) (n : Nat) (u : Option (Nat × Nat × Nat)) : errPm (goP s m t n u).1 = 0 := by
  unfold goP
  split <;> rfl
set_option maxRecDepth 100000 in
set_option maxHeartbeats 4000000 in
/-- GOON. -/
theorem pgoOn_at {w0 w : World} {b o D pl kd nm fm : Nat} {h : Hd} {vt : Value} {t : List UInt8} {u : Option (Nat × Nat × Nat)} {vs : Value} {s : List Bx} {m : Bool} {lk : Nat} (c : PP w b o D pl kd nm fm h (tkT m) lk vt t u vs s.length (inP s)) (hl : Low w0 w b vs) (hk : OkP s) :
    Calls Try.prog 58 #[.pointer (some ⟨b, o, none⟩)] w fun r w' => ∃ x, r = .returned x ∧ GoM w0 w w' b o D vt vs (goP s m t lk u) x := by
  obtain ⟨⟨_, _, ⟨c2, f2⟩⟩, _, ⟨_, ⟨c13, _⟩, _⟩, _⟩ := c.cells
  unfold goP
  by_cases hp : 0 < lk
  · rw [if_pos hp]
    have HG : Hid (GoM w0 w (w.setCell ⟨b, o + 2, none⟩ (.int .i64 2)) b o D vt vs (.c (.text s m lk t u), []) (.slice none 0 0)) := Lib.hid
      ⟨Vls.nil_ _ _, ⟨vt, vs, ⟨kd, nm, fm, h, c.setPl 2⟩, fun k hk => .inl hk⟩, ((sub_setCell w (o + 2) _ (by omega)).subg _)⟩
    have zp : (0 < lk) = True := by simp; omega
    clear c hl hk hp
    go_enter Try.func58, Try.ntmps58
    go_wp2
    go_ret
    exact ⟨_, rfl, HG.out⟩
  · obtain rfl : lk = 0 := by omega
    rw [if_neg hp]
    have HP := Lib.hid (ppart_at c.tx c.wt)
    have HR := Lib.hid c.tx7
    have H := Lib.hid (And.intro c (And.intro hl hk.inc))
    have hone : (valE (evTxC m t)).oneCell' = true := vals_one [evTxC m t] _ (by simp)
    have HV : Hid (∀ W : World, w.heap.size ≤ W.heap.size → Vls w0 (W.alloc (.cells #[valE (evTxC m t)] 20)) (.slice (some ⟨W.heap.size, 0, none⟩) 1 1) [evTxC m t]) := Lib.hid (fun W hW => ⟨win_one W _ _ _ rfl, fun k hk => by
      simp only [Value.owner, List.mem_singleton] at hk
      have := H.out.2.1.size
      omega⟩)
    clear c hl hk hp
    obtain ⟨T, V, hV⟩ : ∃ T V, valE (evTxC m t) = .iface T V := by cases m <;> exact ⟨_, _, rfl⟩
    rw [hV] at hone HV HP
    have HVV := Lib.hid hV
    clear hV
    go_enter Try.func58, Try.ntmps58
    go_wp2_with fail
    refine HP.out.mono ?_
    rintro r w1 ⟨rfl, rfl⟩
    clear HP
    go_wp2_with (refine wpList_store_room rfl 82 _ _ rfl b (o + 12) txZP rfl rfl HR.out (by kernel_rfl) (by kernel_rfl) ?_)
    intro w1 h1
    have hc1 : PP w1 b o D pl kd nm fm h 0 0 (.slice none 0 0) [] st0 vs s.length (inP s) :=
      H.out.1.setTx (h1.out.2.subg []) (by simp) (h1.out.1.left (us := [.int .i64 0, .int .u8 0, .int .u8 0, .bool false])) (cat_zero (h1.out.1.right (vs := [.int .i64 0, .int .i64 0, .slice none 0 0]))) (Win.nil_ _ _ _) (by simp [Value.owner])
    have HC1 := Lib.hid hc1
    have HS1 := Lib.hid h1.out.2
    clear h1 hc1 HR
    have HC2 : Hid (∀ ob, PP (w1.alloc ob) b o D pl kd nm fm h 0 0 (.slice none 0 0) [] st0 vs (incB s).length (outP (incB s))) := Lib.hid (fun ob => by
      rw [inc_lenK, inP_out]
      exact HC1.out.go ((Below.refl _ _).alloc (Nat.le_refl _) ob))
    have hs1 := HS1.out.step.size
    have hsz : ∀ ob, w0.heap.size ≤ (w1.alloc ob).heap.size := fun ob => by have := H.out.2.1.size; simp; omega
    have HSZ := Lib.hid hsz
    have HHV := Lib.hid (HV.out w1 hs1)
    clear hs1 hsz HV HC1
    go_wp2_with fail
    refine (pends_at (w0 := w0) (L := [evTxC m t]) (HC2.out _) HHV.out (by simp) (HSZ.out _) H.out.2.1.b (by simp [Value.owner]) H.out.2.1.vs H.out.2.2).mono ?_
    rintro r w' ⟨x, rfl, hR⟩
    have HR := Lib.hid hR
    clear hR
    go_wp2
    go_ret
    refine ⟨x, rfl, pends_go (vs1 := vs) HR.out (.inl rfl) rfl (fun k hk => ?_) ?_⟩
    · simp only [Value.owner, List.mem_singleton] at hk
      have := HS1.out.step.size
      omega
    · exact (((HS1.out.widen (o' := o) (n' := 20) (by omega) (by simp [txZP])).subg _)).tr (subg_below ((Below.refl _ _).alloc (Nat.le_refl _) _) (Nat.lt_of_lt_of_le H.out.1.lt HS1.out.step.size) _ _ _)
theorem lenP_go (s : List Bx) (m : Bool) (v : Nat) : liftP (lenP s m v) = if 200 < v then (.c (.bad 5), []) else goP s m [] v st0 := by
  unfold lenP goP
  by_cases h : 200 < v
  · rw [if_pos h, if_pos h]; rfl
  · rw [if_neg h, if_neg h]
    by_cases h0 : v = 0
    · rw [if_pos h0, if_neg (by omega)]
    · rw [if_neg h0, if_pos (by omega)]; rfl
def txBP (K v : Nat) : List Value := [.int .i64 (K : Int), .int .i64 (v : Int), .slice none 0 0, .int .i64 0, .int .u8 0, .int .u8 0, .bool false]
theorem txBP_one (K v : Nat) : (txBP K v).toArray.all (·.oneCell') = true := by simp [txBP, Value.oneCell']
set_option maxRecDepth 100000 in
set_option maxHeartbeats 4000000 in
/-- BEGINTEXT. -/
theorem pbeginText_at {w0 w : World} {b o D pl kd nm fm : Nat} {h : Hd} {tk lk : Nat} {vt : Value} {t : List UInt8} {u : Option (Nat × Nat × Nat)} {vs : Value} {s : List Bx} (c : PP w b o D pl kd nm fm h tk lk vt t u vs s.length (inP s)) (hl : Low w0 w b vs) (hk : OkP s)
    (m : Bool) (v fm' : Nat) :
    Calls Try.prog 64 #[.pointer (some ⟨b, o, none⟩), .agg #[.int .i64 (tkT m : Nat), .int .u64 (v : Nat), .int .u8 (fm' : Nat)]] w fun r w' =>
      ∃ x, r = .returned (.tuple #[x, .int .i64 (errPm (liftP (lenP s m v)).1 : Nat)]) ∧ GoM w0 w w' b o D vt vs (liftP (lenP s m v)) x := by
  have hB : Below w.heap.size w (w.alloc (.cells #[.int .i64 (tkT m : Nat), .int .u64 (v : Nat), .int .u8 (fm' : Nat)] 76)) := up_alloc (Below.refl _ _) _
  have H := Lib.hid (And.intro (c.go hB) (And.intro (hl.up hB) (And.intro hk (And.intro c.lt hB))))
  rw [lenP_go]
  by_cases hv : 200 < v
  · rw [if_pos hv]
    have HG : Hid (GoM w0 w (w.alloc (.cells #[.int .i64 (tkT m : Nat), .int .u64 (v : Nat), .int .u8 (fm' : Nat)] 76)) b o D vt vs (.c (.bad 5), []) (.slice none 0 0)) := Lib.hid
      ⟨Vls.nil_ _ _, ⟨vt, vs, ⟨by decide, H.out.1.room, H.out.1.cells.1.2.1.1⟩, fun k hk => .inl hk⟩, subg_below hB c.lt _ _ _⟩
    have zv : (200 < (v : Int)) = True := by simp; omega
    clear c hB hl hk hv H
    go_enter Try.func64, Try.ntmps64
    go_wp2
    go_ret2
    exact ⟨_, rfl, HG.out⟩
  · rw [if_neg hv, goP_err]
    have zv : (200 < (v : Int)) = False := by simp; omega
    have hwv : IntKind.i64.wrap (v : Int) = (v : Int) := by simp only [IntKind.wrap_i64]; omega
    have HR := Lib.hid H.out.1.tx7
    clear c hB hl hk hv
    go_enter Try.func64, Try.ntmps64
    go_wp2_with (refine wpList_store_room rfl 82 _ _ rfl b (o + 12) (txBP (tkT m) v) rfl rfl HR.out (by kernel_rfl) (txBP_one _ _) ?_)
    intro w1 h1
    have hc1 : PP w1 b o D pl kd nm fm h (tkT m) v (.slice none 0 0) [] st0 vs s.length (inP s) :=
      H.out.1.setTx (h1.out.2.subg []) (by simp) (h1.out.1.left (us := [.int .i64 0, .int .u8 0, .int .u8 0, .bool false])) (cat_zero (h1.out.1.right (vs := [.int .i64 (tkT m : Nat), .int .i64 (v : Nat), .slice none 0 0]))) (Win.nil_ _ _ _) (by simp [Value.owner])
    have hs1 : Sub b o 20 (w.alloc (.cells #[.int .i64 (tkT m : Nat), .int .u64 (v : Nat), .int .u8 (fm' : Nat)] 76)) w1 := h1.out.2.widen (by omega) (by simp [txBP])
    have HE := Lib.hid (pgoOn_at hc1 (H.out.2.1.of hs1.step.size rfl) H.out.2.2.1)
    have HS1 := Lib.hid hs1
    clear h1 hc1 HR hs1
    go_wp2_with fail
    refine HE.out.mono ?_
    rintro r w' ⟨x, rfl, hR⟩
    have HR := Lib.hid hR
    clear hR
    go_wp2
    go_ret2
    exact ⟨x, rfl, (HR.out.from_ (HS1.out.subg _) (fun k hk => by simp [Value.owner] at hk)).up H.out.2.2.2.2 H.out.2.2.2.1⟩
end Go.Proofs.Ytebnhelejebobaa
/-
  CONTRACTS of package packin, part I: mayHave, byteOfText.
-/
namespace Go.Proofs.Ytebnhelejebobaa
open Go.RowKit
open Go.Lib
set_option maxRecDepth 100000 in
set_option maxHeartbeats 2000000 in
theorem pmayHave_at {w : World} {b o : Nat} {m : Bool} {lk : Nat} {vt : Value} {u : Option (Nat × Nat × Nat)} (hA : At w b o [.int .i64 (tkT m : Nat), .int .i64 lk, vt]) (hC : CAt w b (o + 3) u) (y : UInt8) :
    Calls Try.prog 57 #[.pointer (some ⟨b, o, none⟩), .int .u8 (y.toNat : Int)] w fun r w' => r = .returned (.bool (mayH m lk (nextU m u y))) ∧ CAt w' b (o + 3) (nextU m u y) ∧ Sub b (o + 3) 4 w w' := by
  have c0 := (hA 0 _ rfl).1
  simp only [Nat.add_zero] at c0
  cases m with
  | false =>
    simp only [tkT] at c0
    have HC := Lib.hid hC
    have hE : mayH false lk (nextU false u y) = true := rfl
    rw [hE]
    clear hA hC hE
    go_enter Try.func57, Try.ntmps57
    go_wp2
    go_ret
    exact ⟨rfl, HC.out, Sub.refl _ _ _ _⟩
  | true =>
    simp only [tkT] at c0
    have hS := step_at hC y
    have hn : nextU true u y = stepS u y := rfl
    rw [hn]
    have HA := Lib.hid hA
    obtain ⟨X, hX⟩ : ∃ X, (y.toNat : Int) = X := ⟨_, rfl⟩
    rw [hX] at hS ⊢
    generalize stepS u y = u' at *
    have HS := Lib.hid hS
    clear hA hC hn hS
    cases hu : u'.isSome with
    | false =>
      rw [hu] at HS
      have hE : mayH true lk u' = false := by simp [mayH, hu]
      rw [hE]
      clear hE hu
      go_enter Try.func57, Try.ntmps57
      go_wp2_with fail
      refine HS.out.mono ?_
      rintro r w1 ⟨rfl, h1, h2⟩
      have H1 := Lib.hid (And.intro h1 h2)
      clear h1 h2
      go_wp2
      go_ret
      exact ⟨rfl, H1.out⟩
    | true =>
      rw [hu] at HS
      by_cases hp : 0 < lk
      · have hE : mayH true lk u' = true := by simp [mayH, hu, hp]
        rw [hE]
        have zp : (0 < lk) = True := by simp [hp]
        clear hE hu hp
        go_enter Try.func57, Try.ntmps57
        go_wp2_with fail
        refine HS.out.mono ?_
        rintro r w1 ⟨rfl, h1, h2⟩
        have c1 := ((HA.out.sub h2 (by simp)) 1 _ rfl).1
        have H1 := Lib.hid (And.intro h1 h2)
        clear h1 h2
        go_wp2
        go_ret
        exact ⟨rfl, H1.out⟩
      · obtain rfl : lk = 0 := by omega
        have hE : mayH true 0 u' = wholeS u' := by simp [mayH, hu]
        rw [hE]
        have HWW := Lib.hid (fun (w1 : World) (h : CAt w1 b (o + 3) u') => whole_at h)
        generalize wholeS u' = U at *
        clear hE hu hp
        go_enter Try.func57, Try.ntmps57
        go_wp2_with fail
        refine HS.out.mono ?_
        rintro r w1 ⟨rfl, h1, h2⟩
        have c1 := ((HA.out.sub h2 (by simp)) 1 _ rfl).1
        have HW := Lib.hid (HWW.out w1 h1)
        have H1 := Lib.hid (And.intro h1 h2)
        clear h1 h2
        go_wp2_with fail
        refine HW.out.mono ?_
        rintro r w2 ⟨rfl, rfl⟩
        go_wp2
        go_ret
        exact ⟨rfl, H1.out⟩
/-- Behind a byte of a text. -/
def bytP (s : List Bx) (m : Bool) (t : List UInt8) (n : Nat) (u : Option (Nat × Nat × Nat)) (y : UInt8) : Pm × List Ev :=
  if mayH m n (nextU m u y) = true then goP s m (t ++ [y]) n (nextU m u y) else (.c (.bad 9), [])
theorem ptext_push {W w3 : World} {b o D pl kd nm fm : Nat} {h : Hd} {tk lk : Nat} {vt v3 : Value} {t : List UInt8} {u : Option (Nat × Nat × Nat)} {vs : Value} {n : Nat} {xs : List Value} {y : UInt8} {ob : Obj} (c : PP W b o D pl kd nm fm h tk lk vt t u vs n xs)
    (hW : Win w3 5 1 v3 (t.length + 1) (bCells t ++ [.int .u8 (y.toNat : Int)])) (hG : (W.alloc ob).grownBy w3 vt.ownBlock) (hO : v3.ownBlock = vt.ownBlock ∨ v3.ownBlock = some (W.alloc ob).heap.size ∧ (W.alloc ob).heap.size < w3.heap.size) :
    (w3.cell? ⟨b, o + 12 + 2, none⟩ = some vt ∧ w3.frozen? ⟨b, o + 12 + 2, none⟩ = false) ∧ PP (w3.setCell ⟨b, o + 12 + 2, none⟩ v3) b o D pl kd nm fm h tk lk v3 (t ++ [y]) u vs n xs ∧ (∀ k ∈ Value.owner v3, k ∈ Value.owner vt ∨ W.heap.size ≤ k) ∧ Subg (Value.owner vt) b o 20 W (w3.setCell ⟨b, o + 12 + 2, none⟩ v3) := by
  have hz : (W.alloc ob).heap.size = W.heap.size + 1 := by simp
  have hnb : vt.ownBlock ≠ some b := fun e => c.ft ((ob_iff _ _).1 e)
  have hb := c.lt
  have hblk : w3.heap[b]? = W.heap[b]? := (hG.block b (by omega) (fun e => hnb e.symm)).trans (Below.heap_alloc W ob b hb)
  have hown : ∀ k ∈ Value.owner v3, k ∈ Value.owner vt ∨ W.heap.size ≤ k := by
    intro k hk
    rcases hO with e | ⟨e, _⟩
    · exact .inl ((ob_iff _ _).1 (e ▸ (ob_iff _ _).2 hk))
    · have h2 := (ob_iff _ _).2 hk
      rw [e] at h2
      cases h2
      exact .inr (by omega)
  have hfar : b ∉ Value.owner v3 := fun hk => (hown b hk).elim c.ft (fun h => by omega)
  have hvs : ∀ k ∈ Value.owner vs, w3.heap[k]? = W.heap[k]? := fun k hk => by
    have hlt := c.op.win.lt k hk
    exact (hG.block k (by omega) (fun e => c.apart k hk ((ob_iff _ _).1 e.symm))).trans (Below.heap_alloc W ob k hlt)
  have hA := c.tx.keep hblk
  have hS : Sub b (o + 12) 7 w3 (w3.setCell ⟨b, o + 12 + 2, none⟩ v3) := sub_setCell w3 _ _ (by omega)
  refine ⟨hA 2 _ rfl, ⟨(c.a.keep hblk).sub hS (by simp), (c.it.keep hblk).sub hS (by simp), (c.hd.keep hblk).sub hS (by omega), hA.set 2 (by simp) v3, (c.ck.keep hblk).sub (sub_setCell (b := b) (o := o + 12 + 2) (n := 1) w3 _ _ (by omega)) (by omega),
    ⟨(c.op.ptr.keep hblk).sub hS (by simp), (c.op.win.keep hvs).setCell_far c.op.far _, c.op.far⟩, ?_, hfar⟩, hown, ?_⟩
  · rw [List.length_append, bCells_append]
    exact hW.setCell_far hfar _
  · exact ((subg_below ((Below.refl _ _).alloc (Nat.le_refl _) ob) hb _ _ _).tr (subg_grown hG (fun k hk => (ob_iff _ _).1 hk) hnb (by omega))).tr ((hS.widen (by omega) (by omega)).subg _)
set_option maxRecDepth 100000 in
set_option maxHeartbeats 4000000 in
/-- BYTEOFTEXT. -/
theorem pbyteOfText_at {w0 w : World} {b o D pl kd nm fm : Nat} {h : Hd} {vt : Value} {t : List UInt8} {u : Option (Nat × Nat × Nat)} {vs : Value} {s : List Bx} {m : Bool} {n : Nat} (c : PP w b o D pl kd nm fm h (tkT m) (n + 1) vt t u vs s.length (inP s)) (ht : t.length + (n + 1) ≤ 200) (hl : Low w0 w b vs) (hk : OkP s) (y : UInt8) :
    Calls Try.prog 47 #[.pointer (some ⟨b, o, none⟩), .int .u8 (y.toNat : Int)] w fun r w' =>
      ∃ x, r = .returned (.tuple #[x, .int .i64 (errPm (bytP s m t n u y).1 : Nat)]) ∧ GoM w0 w w' b o D vt vs (bytP s m t n u y) x := by
  obtain ⟨_, _, ⟨_, ⟨c11, f11⟩, ⟨c12, f12⟩⟩, _⟩ := c.cells
  obtain ⟨a, cp, hvt, _, _⟩ := c.wt.slice_form
  subst hvt
  have hw1 : IntKind.i64.wrap (n : Int) = (n : Int) := by simp only [IntKind.wrap_i64]; omega
  have hwn : wrap64 (n : Int) = (n : Int) := by unfold wrap64; omega
  -- the count
  have hS : Sub b (o + 12) 7 w (w.setCell ⟨b, o + 12 + 1, none⟩ (.int .i64 (n : Int))) := sub_setCell w _ _ (by omega)
  have hc1 : PP (w.setCell ⟨b, o + 12 + 1, none⟩ (.int .i64 (n : Int))) b o D pl kd nm fm h (tkT m) n (.slice a t.length cp) t u vs s.length (inP s) :=
    c.setTx (hS.subg []) (by simp) (c.tx.set 1 (by simp) _) (c.ck.sub (sub_setCell (b := b) (o := o + 12 + 1) (n := 1) w _ _ (by omega)) (by omega)) (c.wt.subg (hS.subg []) c.ft (by simp)) c.ft
  have d12 := hc1.cells.2.2.1.2.2
  have HC1 := Lib.hid (And.intro hc1 (And.intro hS c.lt))
  have H := Lib.hid (And.intro hl (And.intro hk (And.intro c ht)))
  have HW1 := Lib.hid (fun ob => hc1.wt.alloc ob)
  have hn1 : t.length ≤ 200 := by omega
  clear c hc1 hS hl hk d12
  have HNW : Hid (∀ ob, ((w.setCell ⟨b, o + 12 + 1, none⟩ (.int .i64 (n : Int))).alloc ob).heap[w.heap.size]? = some ob) := Lib.hid (fun ob => by
    have := heap_alloc_new (w.setCell ⟨b, o + 12 + 1, none⟩ (.int .i64 (n : Int))) ob
    simpa using this)
  go_enter Try.func47, Try.ntmps47
  go_wp2_with (at_builtin; refine wpList_append_win rfl _ _ _ rfl Try.underlying42 info5 rfl rfl (HW1.out _) _ rfl 1 _ (src_new _ Try.underlying42 1 1 [.int .u8 (y.toNat : Int)] 5 _ rfl (by simp [Value.oneCell']) (HNW.out _)) ?e1 ?e2 ?_)
  case e1 => unfold maxLen; omega
  case e2 => omega
  intro v3 w3 hW3 hG3 hO3
  obtain ⟨g, hc4, hown, hS4⟩ := ptext_push (vt := .slice a t.length cp) HC1.out.1 hW3.out hG3.out (by simpa using hO3.out)
  obtain ⟨g1, g2⟩ := g
  obtain ⟨a3, c3, rfl, _, _⟩ := Win.slice_form hW3.out
  have H4 := Lib.hid (And.intro hc4 (And.intro hown hS4))
  have HMY := Lib.hid (pmayHave_at hc4.tx hc4.ck y)
  clear hW3 hG3 hO3 hc4 hown hS4
  go_wp2_with fail
  refine HMY.out.mono ?_
  rintro r w5 ⟨rfl, hk5, hS5⟩
  have hc5 : PP w5 b o D pl kd nm fm h (tkT m) n (.slice a3 (t.length + 1) c3) (t ++ [y]) (nextU m u y) vs s.length (inP s) :=
    H4.out.1.setTx ((hS5.widen (by omega) (by omega)).subg []) (by simp) (H4.out.1.tx.sub hS5 (by simp)) hk5 (H4.out.1.wt.subg (hS5.subg []) H4.out.1.ft (by simp)) H4.out.1.ft
  have hgo : GoM w0 w5 w5 b o D (.slice a3 (t.length + 1) c3) vs (.c (.bad 9), []) (.slice none 0 0) := ⟨Vls.nil_ _ _, ⟨_, vs, ⟨by decide, hc5.room, hc5.cells.1.2.1.1⟩, fun k hk => .inl hk⟩, Subg.refl _ _ _ _ _⟩
  have hS1 : Subg (Value.owner (.slice a t.length cp) ++ Value.owner vs) b o 20 w w5 := by
    have e1 : Subg (Value.owner (.slice a t.length cp) ++ Value.owner vs) b o 20 w (w.setCell ⟨b, o + 12 + 1, none⟩ (.int .i64 (n : Int))) := (HC1.out.2.1.widen (by omega) (by omega)).subg _
    have e2 := H4.out.2.2.widen (g' := Value.owner (.slice a t.length cp) ++ Value.owner vs) (fun x hx => List.mem_append.2 (.inl hx)) (Nat.le_refl _) (Nat.le_refl _)
    exact (e1.tr e2).tr ((hS5.widen (by omega) (by omega)).subg _)
  have hown : ∀ k ∈ Value.owner (.slice a3 (t.length + 1) c3), k ∈ Value.owner (.slice a t.length cp) ∨ w.heap.size ≤ k := fun k hk => (H4.out.2.1 k hk).imp id (fun h => Nat.le_trans (by simp) h)
  have HLow : Low w0 w5 b vs := H.out.1.of hS1.size rfl
  have HF := Lib.hid (fun x w' (h : GoM w0 w5 w' b o D (.slice a3 (t.length + 1) c3) vs (bytP s m t n u y) x) => (h.from_ hS1 hown : GoM w0 w w' b o D (.slice a t.length cp) vs (bytP s m t n u y) x))
  have HG := Lib.hid hgo
  have HC5 := Lib.hid (And.intro hc5 HLow)
  have hb : bytP s m t n u y = if mayH m n (nextU m u y) = true then goP s m (t ++ [y]) n (nextU m u y) else (.c (.bad 9), []) := rfl
  clear hk5 hS5 hc5 hgo hS1 hown HLow HMY
  have HBE := Lib.hid hb
  clear hb
  cases hmh : mayH m n (nextU m u y) with
  | false =>
    have hb : bytP s m t n u y = (.c (.bad 9), []) := by rw [HBE.out, hmh, if_neg (by decide)]
    have HB9 := Lib.hid hb
    clear hb hmh
    go_wp2
    go_ret2
    have hF := HF.out (.slice none 0 0) w5
    rw [HB9.out] at hF ⊢
    exact ⟨_, rfl, hF HG.out⟩
  | true =>
    have hb : bytP s m t n u y = goP s m (t ++ [y]) n (nextU m u y) := by rw [HBE.out, hmh, if_pos rfl]
    have HB9 := Lib.hid hb
    have HGO := Lib.hid (pgoOn_at (w0 := w0) HC5.out.1 HC5.out.2 H.out.2.1)
    clear hb hmh
    go_wp2_with fail
    refine HGO.out.mono ?_
    rintro r w' ⟨x, rfl, hR⟩
    have HR := Lib.hid hR
    clear hR
    go_wp2
    go_ret2
    have hF := HF.out x w'
    rw [HB9.out] at hF ⊢
    rw [goP_err]
    exact ⟨x, rfl, hF HR.out⟩
end Go.Proofs.Ytebnhelejebobaa
/-
  CONTRACTS of package packin, part J: beginContainer.
-/
namespace Go.Proofs.Ytebnhelejebobaa
open Go.RowKit
open Go.Lib
def ctP (m : Bool) : Nat := if m = true then 10 else 9
/-- Behind enter, and the place. -/
theorem penter_go {w0 w w1 w3 : World} {b o D pl kd nm fm : Nat} {h : Hd} {vt vs v' : Value} {s : List Bx} {m : Bool} {c : Int} (hC : PP w1 b o D pl kd nm fm h 0 0 vt [] st0 vs s.length (inP s)) (hl : Low w0 w1 b vs) (hB : Below w.heap.size w w1) (hb : b < w.heap.size) (hc : c ≠ 0)
    (hN : NsP w3 b (o + 19) v' (s.length + 1) (inP (⟨m, c, 0⟩ :: incB s))) (ho : ∀ k ∈ Value.owner v', k ∈ Value.owner vs ∨ w1.heap.size ≤ k) (hS : Subg (Value.owner vs) b (o + 19) 1 w1 w3) (g : Nat) (hg : g = w3.heap.size) :
    (w3.cell? ⟨b, o + 2, none⟩ = some (.int .i64 pl) ∧ w3.frozen? ⟨b, o + 2, none⟩ = false) ∧
    GoM w0 w ((w3.setCell ⟨b, o + 2, none⟩ (.int .i64 (0 : Nat))).alloc (.cells #[valE (evBegC m c)] 20)) b o D vt vs (liftP (beginC s m c)) (.slice (some ⟨g, 0, none⟩) 1 1) := by
  subst hg
  rw [begin_ne s m hc]
  have h3 : PP w3 b o D pl kd nm fm h 0 0 vt [] st0 v' (s.length + 1) (inP (⟨m, c, 0⟩ :: incB s)) := hC.setOp hS (fun x hx h => hC.apart x h hx) hN
  have h4 := h3.setPl 0
  have hz : (w3.setCell ⟨b, o + 2, none⟩ (.int .i64 (0 : Nat))).heap.size = w3.heap.size := by simp [World.setCell]
  have hup : Below (w3.setCell ⟨b, o + 2, none⟩ (.int .i64 (0 : Nat))).heap.size (w3.setCell ⟨b, o + 2, none⟩ (.int .i64 (0 : Nat))) ((w3.setCell ⟨b, o + 2, none⟩ (.int .i64 (0 : Nat))).alloc (.cells #[valE (evBegC m c)] 20)) := (Below.refl _ _).alloc (Nat.le_refl _) _
  have hz3 : w0.heap.size ≤ w3.heap.size := Nat.le_trans hl.size hS.size
  refine ⟨h3.cells.1.2.2, ⟨⟨?_, fun k hk => ?_⟩, ⟨vt, v', ?_, fun k hk => ?_⟩, ?_⟩⟩
  · have := win_one (w3.setCell ⟨b, o + 2, none⟩ (.int .i64 (0 : Nat))) (valE (evBegC m c)) 20 w3.heap.size hz.symm
    exact this
  · simp only [Value.owner, List.mem_singleton] at hk
    omega
  · refine ⟨kd, nm, fm, h, ?_⟩
    have := h4.go hup
    simpa [inc_lenK] using this
  · rcases List.mem_append.1 hk with hk | hk
    · exact .inl (List.mem_append.2 (.inl hk))
    · exact (ho k hk).imp (fun h => List.mem_append.2 (.inr h)) (fun h => Nat.le_trans hB.size h)
  · have e1 := subg_below hB hb (Value.owner vt ++ Value.owner vs) o 20
    have e2 := hS.widen (g' := Value.owner vt ++ Value.owner vs) (o' := o) (n' := 20) (fun x hx => List.mem_append.2 (.inr hx)) (by omega) (by omega)
    have e3 : Subg (Value.owner vt ++ Value.owner vs) b o 20 w3 (w3.setCell ⟨b, o + 2, none⟩ (.int .i64 (0 : Nat))) := (sub_setCell w3 (o + 2) _ (by omega)).subg _
    exact ((e1.tr e2).tr e3).tr (subg_below hup h4.lt _ _ _)
set_option maxRecDepth 100000 in
set_option maxHeartbeats 4000000 in
/-- BEGINCONTAINER: too great. -/
theorem pcon_big {w0 w : World} {b o D pl kd nm fm : Nat} {h : Hd} {vt : Value} {vs : Value} {s : List Bx} (c : PP w b o D pl kd nm fm h 0 0 vt [] st0 vs s.length (inP s)) (m : Bool) {v fm' : Nat} (hv : 1000000 < v) :
    Calls Try.prog 65 #[.pointer (some ⟨b, o, none⟩), .agg #[.int .i64 (ctP m : Nat), .int .u64 (v : Nat), .int .u8 (fm' : Nat)]] w fun r w' =>
      ∃ x, r = .returned (.tuple #[x, .int .i64 (7 : Nat)]) ∧ GoM w0 w w' b o D vt vs (.c (.bad 7), []) x := by
  have hB : Below w.heap.size w (w.alloc (.cells #[.int .i64 (ctP m : Nat), .int .u64 (v : Nat), .int .u8 (fm' : Nat)] 76)) := up_alloc (Below.refl _ _) _
  have hc := c.go hB
  have HG : Hid (GoM w0 w (w.alloc (.cells #[.int .i64 (ctP m : Nat), .int .u64 (v : Nat), .int .u8 (fm' : Nat)] 76)) b o D vt vs (.c (.bad 7), []) (.slice none 0 0)) := Lib.hid ⟨Vls.nil_ _ _, ⟨vt, vs, ⟨by decide, hc.room, hc.cells.1.2.1.1⟩, fun k hk => .inl hk⟩, subg_below hB c.lt _ _ _⟩
  have zv : (1000000 < (v : Int)) = True := by simp; omega
  clear c hB hc hv
  go_enter Try.func65, Try.ntmps65
  go_wp2
  go_ret2
  exact ⟨_, rfl, HG.out⟩
set_option maxRecDepth 100000 in
set_option maxHeartbeats 4000000 in
/-- BEGINCONTAINER: of a count. -/
theorem pcon_count {w0 w : World} {b o D pl kd nm fm : Nat} {h : Hd} {vt : Value} {vs : Value} {s : List Bx} (c : PP w b o D pl kd nm fm h 0 0 vt [] st0 vs s.length (inP s)) (hl : Low w0 w b vs) (hd : s.length < 16) (m : Bool) {v fm' : Nat} (hv : v ≤ 1000000) (hv0 : 0 < v) :
    Calls Try.prog 65 #[.pointer (some ⟨b, o, none⟩), .agg #[.int .i64 (ctP m : Nat), .int .u64 (v : Nat), .int .u8 (fm' : Nat)]] w fun r w' =>
      ∃ x, r = .returned (.tuple #[x, .int .i64 (0 : Nat)]) ∧ GoM w0 w w' b o D vt vs (liftP (beginC s m (v : Int))) x := by
  have hM : ((ctP m : Int) == 10) = m := by cases m <;> decide
  have hW1 : Below w.heap.size w ((w.alloc (.cells #[.int .i64 (ctP m : Nat), .int .u64 (v : Nat), .int .u8 (fm' : Nat)] 76)).alloc (.cells #[.bool m, .int .i64 (v : Int)] 107)) := up_alloc (up_alloc (Below.refl _ _) _) _
  have zv : (1000000 < (v : Int)) = False := by simp; omega
  have zc : ((v : Int) == 0) = false := by rw [beq_eq_false_iff_ne]; omega
  have HV0 : Hid (¬ v = 0) := Lib.hid (by omega)
  have hwv : IntKind.i64.wrap (v : Int) = (v : Int) := by simp only [IntKind.wrap_i64]; omega
  have H := Lib.hid (And.intro (c.go hW1) (And.intro (hl.up hW1) (And.intro c.lt hW1)))
  have HL0 := Lib.hid hl.size
  have HE := Lib.hid (penter_at (w := (((w.alloc (.cells #[.int .i64 (ctP m : Nat), .int .u64 (v : Nat), .int .u8 (fm' : Nat)] 76)).alloc (.cells #[.bool m, .int .i64 (v : Int)] 107)).drew)) (H.out.1.op.drewN 1) hd m (v : Int) (by omega))
  have HBK := Lib.hid (blk_new (w.alloc (.cells #[.int .i64 (ctP m : Nat), .int .u64 (v : Nat), .int .u8 (fm' : Nat)] 76)) #[.bool m, .int .i64 (v : Int)] 107)
  clear c hl hd hv hv0 hW1
  go_enter Try.func65, Try.ntmps65
  go_wp2_with fail
  generalize hWg : ((w.alloc (.cells #[.int .i64 (ctP m : Nat), .int .u64 (v : Nat), .int .u8 (fm' : Nat)] 76)).alloc (.cells #[.bool m, .int .i64 (v : Int)] 107)) = W at *
  have hsz : W.heap.size = w.heap.size + 2 := by rw [← hWg]; simp
  have hbk : Blk W (w.heap.size + 1) #[.bool m, .int .i64 (v : Int)] 107 := by have := HBK.out; simpa using this
  have HC := Lib.hid H.out.1
  have HLW := Lib.hid H.out.2
  have HZ := Lib.hid hsz
  have HBW := Lib.hid hbk
  have d0 : W.drew.cell? ⟨w.heap.size + 1, 0, none⟩ = some (.bool m) := hbk.cell 0
  have d1 : W.drew.cell? ⟨w.heap.size + 1, 1, none⟩ = some (.int .i64 (v : Int)) := hbk.cell 1
  clear H HBK hWg hsz hbk
  refine wp_region_tail 4 (by kernel_rfl) (by kernel_rfl) ?_
  simp only [List.take_succ_cons, List.take_zero, List.drop_succ_cons, List.drop_zero]
  repeat still_step
  refine wpStill_nil ?_
  go_wp2_with fail
  refine HE.out.mono ?_
  rintro r w3 ⟨rfl, v', hN, ho, hS⟩
  have hblk3 : Blk w3 (w.heap.size + 1) #[.bool m, .int .i64 (v : Int)] 107 := (hS.block _ (by show w.heap.size + 1 < W.heap.size; have := HZ.out; omega) (by have := HLW.out.2.1; omega) (fun h => by
    have h1 := HLW.out.1.vs _ h
    have h2 := HL0.out
    omega)).trans HBW.out
  have e0 := hblk3.cell 0
  have e1 := hblk3.cell 1
  obtain ⟨⟨p2, q2⟩, hG⟩ := penter_go (w0 := w0) (w := w) (HC.out.drewN 1) (HLW.out.1.of (Nat.le_refl _) rfl) (below_drw HLW.out.2.2) HLW.out.2.1 (by simpa using HV0.out) hN ho hS _ rfl
  have HG := Lib.hid hG
  rw [val_beg] at HG
  have HB2 : b < w.heap.size + 1 := by have := HLW.out.2.1; omega
  have k0 : (w3.setCell ⟨b, o + 2, none⟩ (.int .i64 0)).cell? ⟨w.heap.size + 1, 0, none⟩ = some (.bool m) := (World.cell?_of_block (w := w3) (Below.heap_setCell w3 _ _ _ (by simp; omega))).trans e0
  have k1 : (w3.setCell ⟨b, o + 2, none⟩ (.int .i64 0)).cell? ⟨w.heap.size + 1, 1, none⟩ = some (.int .i64 (v : Int)) := (World.cell?_of_block (w := w3) (Below.heap_setCell w3 _ _ _ (by simp; omega))).trans e1
  clear hN ho hS hblk3 hG HB2
  go_wp2
  go_ret2
  exact ⟨_, rfl, HG.out⟩
set_option maxRecDepth 100000 in
set_option maxHeartbeats 4000000 in
/-- BEGINCONTAINER: of nothing. -/
theorem pcon_zero {w0 w : World} {b o D pl kd nm fm : Nat} {h : Hd} {vt : Value} {vs : Value} {s : List Bx} (c : PP w b o D pl kd nm fm h 0 0 vt [] st0 vs s.length (inP s)) (hl : Low w0 w b vs) (hk : OkP s) (hvt : ∀ k ∈ Value.owner vt, k < w0.heap.size) (m : Bool) {fm' : Nat} :
    Calls Try.prog 65 #[.pointer (some ⟨b, o, none⟩), .agg #[.int .i64 (ctP m : Nat), .int .u64 (0 : Nat), .int .u8 (fm' : Nat)]] w fun r w' =>
      ∃ x, r = .returned (.tuple #[x, .int .i64 (0 : Nat)]) ∧ GoM w0 w w' b o D vt vs (liftP (beginC s m 0)) x := by
  have hM : ((ctP m : Int) == 10) = m := by cases m <;> decide
  have hW1 : Below w.heap.size w ((w.alloc (.cells #[.int .i64 (ctP m : Nat), .int .u64 (0 : Nat), .int .u8 (fm' : Nat)] 76)).alloc (.cells #[.bool m, .int .i64 0] 107)) := up_alloc (up_alloc (Below.refl _ _) _) _
  have hW2 : Below w.heap.size w (((w.alloc (.cells #[.int .i64 (ctP m : Nat), .int .u64 (0 : Nat), .int .u8 (fm' : Nat)] 76)).alloc (.cells #[.bool m, .int .i64 0] 107)).alloc (.cells #[.iface 107 (.agg #[.bool m, .int .i64 0]), .iface 109 (.agg #[])] 20)) := up_alloc hW1 _
  have hc2 : PP (((w.alloc (.cells #[.int .i64 (ctP m : Nat), .int .u64 (0 : Nat), .int .u8 (fm' : Nat)] 76)).alloc (.cells #[.bool m, .int .i64 0] 107)).alloc (.cells #[.iface 107 (.agg #[.bool m, .int .i64 0]), .iface 109 (.agg #[])] 20)) b o D pl kd nm fm h 0 0 vt [] st0 vs (incB s).length (outP (incB s)) := by
    rw [inc_lenK, inP_out]
    exact c.go hW2
  have hg : w.heap.size + 2 = ((w.alloc (.cells #[.int .i64 (ctP m : Nat), .int .u64 (0 : Nat), .int .u8 (fm' : Nat)] 76)).alloc (.cells #[.bool m, .int .i64 0] 107)).heap.size := by simp
  have hV : Vls w0 (((w.alloc (.cells #[.int .i64 (ctP m : Nat), .int .u64 (0 : Nat), .int .u8 (fm' : Nat)] 76)).alloc (.cells #[.bool m, .int .i64 0] 107)).alloc (.cells #[.iface 107 (.agg #[.bool m, .int .i64 0]), .iface 109 (.agg #[])] 20)) (.slice (some ⟨w.heap.size + 2, 0, none⟩) 2 2) [evBegC m 0, evEnd] :=
    ⟨by
      have := win_two ((w.alloc (.cells #[.int .i64 (ctP m : Nat), .int .u64 (0 : Nat), .int .u8 (fm' : Nat)] 76)).alloc (.cells #[.bool m, .int .i64 0] 107)) (valE (evBegC m 0)) (valE evEnd) 20 _ hg
      rw [val_beg, vle_end] at this
      simpa [val_beg, vle_end] using this, fun k hk => by
      simp only [Value.owner, List.mem_singleton] at hk
      have := hl.size
      omega⟩
  have HE := Lib.hid (pends_at (w0 := w0) hc2 hV (by simp) (Nat.le_trans hl.size hW2.size) hl.b hvt hl.vs hk.inc)
  have HF := Lib.hid (And.intro hW2 c.lt)
  clear c hl hk hvt hW1 hW2 hc2 hV hg
  go_enter Try.func65, Try.ntmps65
  go_wp2_with fail
  refine HE.out.mono ?_
  rintro r w' ⟨x, rfl, hR⟩
  have HR := Lib.hid hR
  clear hR HE
  go_wp2
  go_ret2
  refine ⟨x, rfl, ?_⟩
  rw [begin_zero]
  exact pends_go HR.out (.inr rfl) rfl (fun k hk => by
    simp only [Value.owner, List.mem_singleton] at hk
    omega) (subg_below HF.out.1 HF.out.2 _ _ _)
/-- BEGINCONTAINER. -/
theorem pcon_any {w0 w : World} {b o D pl kd nm fm : Nat} {h : Hd} {vt : Value} {vs : Value} {s : List Bx} (c : PP w b o D pl kd nm fm h 0 0 vt [] st0 vs s.length (inP s)) (hl : Low w0 w b vs) (hk : OkP s) (hvt : ∀ k ∈ Value.owner vt, k < w0.heap.size) (hd : s.length < 16) (m : Bool) (v fm' : Nat) :
    Calls Try.prog 65 #[.pointer (some ⟨b, o, none⟩), .agg #[.int .i64 (ctP m : Nat), .int .u64 (v : Nat), .int .u8 (fm' : Nat)]] w fun r w' =>
      ∃ x, r = .returned (.tuple #[x, .int .i64 (errPm (liftP (cntP s m v)).1 : Nat)]) ∧ GoM w0 w w' b o D vt vs (liftP (cntP s m v)) x := by
  unfold cntP
  by_cases hbig : 1000000 < v
  · rw [if_pos hbig]
    exact pcon_big c m hbig
  · rw [if_neg hbig, show errPm (liftP (beginC s m v)).1 = 0 from begin_err s m v]
    by_cases h0 : v = 0
    · subst h0
      exact pcon_zero c hl hk hvt m
    · exact pcon_count c hl hd m (by omega) (by omega)
end Go.Proofs.Ytebnhelejebobaa
/-
  LAWS of chapter 15, over PinAll: PackinNumbers.
-/
namespace Go.Proofs.Ytebnhelejebobaa
open Go.RowKit
open Go.Lib
set_option maxRecDepth 100000 in
set_option maxHeartbeats 4000000 in
theorem pnumo_0 (H : PinAll) (v F : Int) (w : World) (h : v < 0 ∨ 256 ≤ v) (hF : (wrap64 (F.tmod 8 + 8)).tmod 8 = 0) :
    Calls Try.prog 9 #[.int .i64 v, .int .i64 F] w fun r w' => r = .returned (.bool true) ∧ Below w.heap.size w w' := by
  have HA := Lib.hid (palive_any H w)
  have hc : (v < 0) = True ∨ (v < 0) = False ∧ (256 ≤ v) = True := by
    by_cases h1 : v < 0
    · exact .inl (eq_true h1)
    · exact .inr ⟨eq_false h1, eq_true (by omega)⟩
  clear h
  rcases hc with h1 | ⟨h1, h2⟩
  all_goals
    go_enter Try.func9, Try.ntmps9
    go_wp2_with fail
    refine HA.out.mono ?_
    rintro r w1 ⟨rfl, b1⟩
    have B1 := Lib.hid b1
    clear b1
    go_wp2
    go_ret
    exact ⟨rfl, B1.out⟩
set_option maxRecDepth 100000 in
set_option maxHeartbeats 4000000 in
theorem pnumo_1 (H : PinAll) (v F : Int) (w : World) (h : v < 0 ∨ 65536 ≤ v) (hF : (wrap64 (F.tmod 8 + 8)).tmod 8 = 1) :
    Calls Try.prog 9 #[.int .i64 v, .int .i64 F] w fun r w' => r = .returned (.bool true) ∧ Below w.heap.size w w' := by
  have HA := Lib.hid (palive_any H w)
  have hc : (v < 0) = True ∨ (v < 0) = False ∧ (65536 ≤ v) = True := by
    by_cases h1 : v < 0
    · exact .inl (eq_true h1)
    · exact .inr ⟨eq_false h1, eq_true (by omega)⟩
  clear h
  rcases hc with h1 | ⟨h1, h2⟩
  all_goals
    go_enter Try.func9, Try.ntmps9
    go_wp2_with fail
    refine HA.out.mono ?_
    rintro r w1 ⟨rfl, b1⟩
    have B1 := Lib.hid b1
    clear b1
    go_wp2
    go_ret
    exact ⟨rfl, B1.out⟩
set_option maxRecDepth 100000 in
set_option maxHeartbeats 4000000 in
theorem pnumo_2 (H : PinAll) (v F : Int) (w : World) (h : v < 0 ∨ 4294967296 ≤ v) (hF : (wrap64 (F.tmod 8 + 8)).tmod 8 = 2) :
    Calls Try.prog 9 #[.int .i64 v, .int .i64 F] w fun r w' => r = .returned (.bool true) ∧ Below w.heap.size w w' := by
  have HA := Lib.hid (palive_any H w)
  have hc : (v < 0) = True ∨ (v < 0) = False ∧ (4294967296 ≤ v) = True := by
    by_cases h1 : v < 0
    · exact .inl (eq_true h1)
    · exact .inr ⟨eq_false h1, eq_true (by omega)⟩
  clear h
  rcases hc with h1 | ⟨h1, h2⟩
  all_goals
    go_enter Try.func9, Try.ntmps9
    go_wp2_with fail
    refine HA.out.mono ?_
    rintro r w1 ⟨rfl, b1⟩
    have B1 := Lib.hid b1
    clear b1
    go_wp2
    go_ret
    exact ⟨rfl, B1.out⟩
set_option maxRecDepth 100000 in
set_option maxHeartbeats 4000000 in
theorem pnumo_3 (H : PinAll) (v F : Int) (w : World) (h : v < 0) (hF : (wrap64 (F.tmod 8 + 8)).tmod 8 = 3) :
    Calls Try.prog 9 #[.int .i64 v, .int .i64 F] w fun r w' => r = .returned (.bool true) ∧ Below w.heap.size w w' := by
  have HA := Lib.hid (palive_any H w)
  have hc : (v < 0) = True := eq_true h
  clear h
  go_enter Try.func9, Try.ntmps9
  go_wp2_with fail
  refine HA.out.mono ?_
  rintro r w1 ⟨rfl, b1⟩
  have B1 := Lib.hid b1
  clear b1
  go_wp2
  go_ret
  exact ⟨rfl, B1.out⟩
set_option maxRecDepth 100000 in
set_option maxHeartbeats 4000000 in
theorem pnumo_4 (H : PinAll) (v F : Int) (w : World) (h : 128 ≤ v ∨ v < -128) (hF : (wrap64 (F.tmod 8 + 8)).tmod 8 = 4) :
    Calls Try.prog 9 #[.int .i64 v, .int .i64 F] w fun r w' => r = .returned (.bool true) ∧ Below w.heap.size w w' := by
  have HA := Lib.hid (palive_any H w)
  have hc : (128 ≤ v) = True ∨ (128 ≤ v) = False ∧ (v < -128) = True := by
    by_cases h1 : 128 ≤ v
    · exact .inl (eq_true h1)
    · exact .inr ⟨eq_false h1, eq_true (by omega)⟩
  clear h
  rcases hc with h1 | ⟨h1, h2⟩
  all_goals
    go_enter Try.func9, Try.ntmps9
    go_wp2_with fail
    refine HA.out.mono ?_
    rintro r w1 ⟨rfl, b1⟩
    have B1 := Lib.hid b1
    clear b1
    go_wp2
    go_ret
    exact ⟨rfl, B1.out⟩
set_option maxRecDepth 100000 in
set_option maxHeartbeats 4000000 in
theorem pnumo_5 (H : PinAll) (v F : Int) (w : World) (h : 32768 ≤ v ∨ v < -32768) (hF : (wrap64 (F.tmod 8 + 8)).tmod 8 = 5) :
    Calls Try.prog 9 #[.int .i64 v, .int .i64 F] w fun r w' => r = .returned (.bool true) ∧ Below w.heap.size w w' := by
  have HA := Lib.hid (palive_any H w)
  have hc : (32768 ≤ v) = True ∨ (32768 ≤ v) = False ∧ (v < -32768) = True := by
    by_cases h1 : 32768 ≤ v
    · exact .inl (eq_true h1)
    · exact .inr ⟨eq_false h1, eq_true (by omega)⟩
  clear h
  rcases hc with h1 | ⟨h1, h2⟩
  all_goals
    go_enter Try.func9, Try.ntmps9
    go_wp2_with fail
    refine HA.out.mono ?_
    rintro r w1 ⟨rfl, b1⟩
    have B1 := Lib.hid b1
    clear b1
    go_wp2
    go_ret
    exact ⟨rfl, B1.out⟩
set_option maxRecDepth 100000 in
set_option maxHeartbeats 4000000 in
theorem pnumo_6 (H : PinAll) (v F : Int) (w : World) (h : 2147483648 ≤ v ∨ v < -2147483648) (hF : (wrap64 (F.tmod 8 + 8)).tmod 8 = 6) :
    Calls Try.prog 9 #[.int .i64 v, .int .i64 F] w fun r w' => r = .returned (.bool true) ∧ Below w.heap.size w w' := by
  have HA := Lib.hid (palive_any H w)
  have hc : (2147483648 ≤ v) = True ∨ (2147483648 ≤ v) = False ∧ (v < -2147483648) = True := by
    by_cases h1 : 2147483648 ≤ v
    · exact .inl (eq_true h1)
    · exact .inr ⟨eq_false h1, eq_true (by omega)⟩
  clear h
  rcases hc with h1 | ⟨h1, h2⟩
  all_goals
    go_enter Try.func9, Try.ntmps9
    go_wp2_with fail
    refine HA.out.mono ?_
    rintro r w1 ⟨rfl, b1⟩
    have B1 := Lib.hid b1
    clear b1
    go_wp2
    go_ret
    exact ⟨rfl, B1.out⟩
theorem pnumbers_row (H : PinAll) (v F : Int) (w : World) (hv : -9223372036854775808 ≤ v ∧ v < 9223372036854775808) :
    Calls Try.prog 9 #[.int .i64 v, .int .i64 F] w fun r w' => r = .returned (.bool true) ∧ Below w.heap.size w w' := by
  have hF := mod8_ref F
  obtain ⟨f, hf⟩ : ∃ f, (F % 8).toNat = f := ⟨_, rfl⟩
  have hf8 : f < 8 := by omega
  rw [hf] at hF
  clear hf
  have hc : f = 0 ∨ f = 1 ∨ f = 2 ∨ f = 3 ∨ f = 4 ∨ f = 5 ∨ f = 6 ∨ f = 7 := by omega
  have hpos : 0 ≤ v → ∃ n : Nat, v = n := fun h => ⟨v.toNat, by omega⟩
  have hneg : v < 0 → ∃ n : Nat, v = -1 - (n : Int) := fun h => ⟨(-1 - v).toNat, by omega⟩
  rcases hc with rfl | rfl | rfl | rfl | rfl | rfl | rfl | rfl
  · by_cases h : v < 0 ∨ 256 ≤ v
    · exact pnumo_0 H v F w h hF
    · obtain ⟨m, rfl⟩ := hpos (by omega)
      exact pnum_0 H m F w (by omega) hF
  · by_cases h : v < 0 ∨ 65536 ≤ v
    · exact pnumo_1 H v F w h hF
    · obtain ⟨m, rfl⟩ := hpos (by omega)
      exact pnum_1 H m F w (by omega) hF
  · by_cases h : v < 0 ∨ 4294967296 ≤ v
    · exact pnumo_2 H v F w h hF
    · obtain ⟨m, rfl⟩ := hpos (by omega)
      exact pnum_2 H m F w (by omega) hF
  · by_cases h : v < 0
    · exact pnumo_3 H v F w h hF
    · obtain ⟨m, rfl⟩ := hpos (by omega)
      exact pnum_3 H m F w (by omega) hF
  · by_cases h : 128 ≤ v ∨ v < -128
    · exact pnumo_4 H v F w h hF
    · by_cases h0 : v < 0
      · obtain ⟨m, rfl⟩ := hneg h0
        exact pnum_4n H m F w (by omega) hF
      · obtain ⟨m, rfl⟩ := hpos (by omega)
        exact pnum_4 H m F w (by omega) hF
  · by_cases h : 32768 ≤ v ∨ v < -32768
    · exact pnumo_5 H v F w h hF
    · by_cases h0 : v < 0
      · obtain ⟨m, rfl⟩ := hneg h0
        exact pnum_5n H m F w (by omega) hF
      · obtain ⟨m, rfl⟩ := hpos (by omega)
        exact pnum_5 H m F w (by omega) hF
  · by_cases h : 2147483648 ≤ v ∨ v < -2147483648
    · exact pnumo_6 H v F w h hF
    · by_cases h0 : v < 0
      · obtain ⟨m, rfl⟩ := hneg h0
        exact pnum_6n H m F w (by omega) hF
      · obtain ⟨m, rfl⟩ := hpos (by omega)
        exact pnum_6 H m F w (by omega) hF
  · by_cases h0 : v < 0
    · obtain ⟨m, rfl⟩ := hneg h0
      exact pnum_7n H m F w (by omega) hF
    · obtain ⟨m, rfl⟩ := hpos (by omega)
      exact pnum_7 H m F w (by omega) hF
end Go.Proofs.Ytebnhelejebobaa
/-
  CONTRACT of the document's own plain, for MessagePack: whatever part.
-/
namespace Go.Proofs.Ytebnhelejebobaa
open Go.RowKit
open Go.Lib
set_option maxRecDepth 100000 in
set_option maxHeartbeats 2000000 in
theorem rplp_3s (y : Bool) (m : Nat) (t : ByteArray) (c : Int) (h0 : t.size < 32) (w : World) :
    Calls Try.prog 34 #[.int .i64 3, evV ⟨3, y, m, t, c⟩] w fun e w' => e = .returned (.tuple #[.string ⟨(txPk true t.size ++ t.data.toList).toArray⟩, .int .i64 0]) ∧ Below w.heap.size w w' := by
  simp only [evV]
  have HW := Lib.hid (fun x y => ((Below.refl w.heap.size w).alloc (Nat.le_refl _) x).alloc (by show w.heap.size ≤ (w.heap.push _).size; simp) y)
  have HWd := Lib.hid (fun x y => (below_drewN ((Below.refl w.heap.size w).alloc (Nat.le_refl _) x) 1).alloc (by show w.heap.size ≤ (w.heap.push _).size; simp) y)
  have e : txPk true t.size = [UInt8.ofNat (160 + t.size)] := by
    unfold txPk
    rw [if_pos rfl, if_pos h0]
  have hX : (⟨([UInt8.ofNat (160 + t.size)] ++ t.data.toList).toArray⟩ : ByteArray) = ⟨#[UInt8.ofNat (160 + t.size)]⟩ ++ t := by
    apply ByteArray.ext
    simp
  rw [e, hX]
  have hc : ((160 : Int) + (t.size : Int)) = (((UInt8.ofNat (160 + t.size)).toNat : Nat) : Int) := by simp; omega
  have hsz : (w.alloc (.cells #[.int .i64 3, .bool y, .int .u64 m, .string t, .int .i64 c] 39)).heap.size = w.heap.size + 1 := by
    show (w.heap.push _).size = _
    simp
  have hcv := ho_new (w.alloc (.cells #[.int .i64 3, .bool y, .int .u64 m, .string t, .int .i64 c] 39)) (UInt8.ofNat (160 + t.size)) ((160 : Int) + (t.size : Int)) hc
  rw [hsz] at hcv
  have hw : IntKind.u8.wrap (wrap64 (160 + (t.size : Int))) = ((160 + t.size : Nat) : Int) := by unfold wrap64; simp [IntKind.wrap, IntKind.bits, IntKind.signed]; omega
  have hw1 : wrap64 (160 + (t.size : Int)) = ((160 + t.size : Nat) : Int) := by unfold wrap64; omega
  have hw2 : IntKind.u8.wrap ((160 + t.size : Nat) : Int) = ((160 + t.size : Nat) : Int) := by simp [IntKind.wrap, IntKind.bits, IntKind.signed]; omega
  have z0 : ((t.size : Int) < 32) = True := by simp only [eq_iff_iff, iff_true]; omega
  have s1 : (⟨#[UInt8.ofNat (160 + t.size)]⟩ : ByteArray).size = 1 := rfl
  generalize (⟨#[UInt8.ofNat (160 + t.size)]⟩ : ByteArray) = X at *
  have z1 : (9223372036854775807 < X.size + t.size) = False := by simp only [eq_iff_iff, iff_false]; omega
  have hb0 := blk_new w #[.int .i64 3, .bool y, .int .u64 m, .string t, .int .i64 c] 39
  have k3 := hb0.cell 3
  clear e hc hX hsz hb0 s1
  go_enter Try.func34, Try.ntmps34
  go_wp2
  go_ret2
  exact ⟨rfl, HW.out _ _⟩
/-- A part that MessagePack can hold. -/
theorem rplain_p (e : Ev) (hk : 0 ≤ e.k) (h5 : e.k < 5) (hm : e.m < 18446744073709551616) (htx : e.t.size ≤ 1000) (hr : ¬ (e.k = 2 ∧ e.y = true ∧ 9223372036854775808 ≤ e.m)) (w : World) :
    Calls Try.prog 34 #[.int .i64 3, evV e] w fun r w' => r = .returned (.tuple #[.string ⟨(writeP e).toArray⟩, .int .i64 0]) ∧ Below w.heap.size w w' := by
  obtain ⟨k, y, m, t, c⟩ := e
  simp only at hk h5 hm htx hr
  have hcs : k = 0 ∨ k = 1 ∨ k = 2 ∨ k = 3 ∨ k = 4 := by omega
  have hs : t.data.toList.length = t.size := by rw [size_list]
  rcases hcs with rfl | rfl | rfl | rfl | rfl
  · exact rplp_0 y m t c w
  · cases y
    · exact rplp_1f false m t c w
    · exact rplp_1t true m t c w
  · have := rplp_2 y m t c hm w
    rw [if_neg (fun h => hr ⟨rfl, h⟩)] at this
    exact this
  · have hw : writeP ⟨3, y, m, t, c⟩ = txPk true t.size ++ t.data.toList := by rw [← hs]; rfl
    rw [hw]
    by_cases h0 : t.size < 32
    · exact rplp_3s y m t c h0 w
    · exact rplp_3 y m t c htx (by omega) w
  · have hw : writeP ⟨4, y, m, t, c⟩ = txPk false t.size ++ t.data.toList := by rw [← hs]; rfl
    rw [hw]
    exact rplp_4 y m t c htx w
/-- One that it cannot. -/
theorem rplain_pbad (e : Ev) (hm : e.m < 18446744073709551616) (hr : e.k = 2 ∧ e.y = true ∧ 9223372036854775808 ≤ e.m) (w : World) :
    Calls Try.prog 34 #[.int .i64 3, evV e] w fun r w' => r = .returned (.tuple #[.string ⟨#[]⟩, .int .i64 7]) ∧ Below w.heap.size w w' := by
  obtain ⟨k, y, m, t, c⟩ := e
  obtain ⟨rfl, h⟩ := hr
  have := rplp_2 y m t c hm w
  rw [if_pos h] at this
  exact this
end Go.Proofs.Ytebnhelejebobaa
/-
  CONTRACT of the document's own Writer, for MessagePack: a part of a document.
-/
namespace Go.Proofs.Ytebnhelejebobaa
open Go.RowKit
open Go.Lib
theorem WmAt.up {M M' B : Nat} {w : World} {b : Nat} {s : List Bx} {dn : Bool} (h : WmAt M B w b s dn) (h1 : M ≤ M') (h2 : M' ≤ 1000) : WmAt M' B w b s dn := by
  obtain ⟨a, cp, h3, h4⟩ := h.cells
  exact ⟨⟨a, cp, h3, ⟨h4.win, h4.vB, fun x hx => ⟨(h4.ok x hx).1, Nat.le_trans (h4.ok x hx).2 h1⟩, h4.deep, h2⟩⟩, h.blk, h.low⟩
/-- A count that MessagePack can hold, as bytes. -/
theorem writeP_cnt {k : Int} (hk : k = 5 ∨ k = 6) (y : Bool) (m : Nat) (t : ByteArray) (c : Int) : writeP ⟨k, y, m, t, c⟩ = cntPk (decide (k = 6)) c.toNat := by
  unfold writeP
  simp only
  rw [if_neg (by omega), if_neg (by omega), if_neg (by omega), if_neg (by omega), if_neg (by omega)]
theorem writeP_size {e : Ev} (ht : e.t.size ≤ 1000) : (⟨(writeP e).toArray⟩ : ByteArray).size ≤ 100000 := by
  have h1 : e.t.data.toList.length = e.t.size := Array.length_toList
  have hl : ∀ a b c v, (lenBs a b c v).length ≤ 5 := by
    intro a b c v
    unfold lenBs
    repeat' split
    all_goals simp [bigB_length]
  rw [size_of]
  unfold writeP
  split
  · simp
  split
  · simp
  split
  · simp
  split
  · unfold intPk
    repeat' split
    all_goals simp [bigB_length]
  split
  · rw [List.length_append]
    have h2 : (txPk (decide (e.k = 3)) e.t.data.toList.length).length ≤ 5 := by
      unfold txPk
      repeat' split
      all_goals first | exact hl _ _ _ _ | simp
    omega
  · unfold cntPk
    repeat' split
    all_goals first | exact Nat.le_trans (hl _ _ _ _) (by decide) | simp
theorem cnt_s6 {c : Int} (h : 0 ≤ c ∧ c < 16) : (⟨(cntPk true c.toNat).toArray⟩ : ByteArray) = ⟨#[UInt8.ofNat (128 + c.toNat)]⟩ := by
  unfold cntPk
  rw [if_pos rfl, if_pos (by omega)]
theorem cnt_s5 {c : Int} (h : 0 ≤ c ∧ c < 16) : (⟨(cntPk false c.toNat).toArray⟩ : ByteArray) = ⟨#[UInt8.ofNat (144 + c.toNat)]⟩ := by
  unfold cntPk
  rw [if_neg (by simp), if_pos (by omega)]
theorem cnt_l6 {c : Int} (h : 16 ≤ c) : cntPk true c.toNat = lenBs 0 222 223 c.toNat := by
  unfold cntPk
  rw [if_pos rfl, if_neg (by omega)]
theorem cnt_l5 {c : Int} (h : 16 ≤ c) : cntPk false c.toNat = lenBs 0 220 221 c.toNat := by
  unfold cntPk
  rw [if_neg (by simp), if_neg (by omega)]
theorem rlen_c (two four : Nat) (h2 : two < 256) (h4 : four < 256) (c : Int) (hc : 0 ≤ c ∧ c ≤ 4294967295) : ∀ W, Calls Try.prog 33 #[.int .u64 c, .int .u8 0, .int .u8 two, .int .u8 four] W fun r w' => r = .returned (.string ⟨(lenBs 0 two four c.toNat).toArray⟩) ∧ Below W.heap.size W w' := by
  intro W
  have := rlen_any 0 two four c.toNat (by omega) h2 h4 (by omega) W
  rwa [Int.toNat_of_nonneg hc.1] at this
/-- A container begins. -/
theorem wm_begin {M B b : Nat} {w : World} {s : List Bx} (h : WmAt M B w b s false) (hM : M + 1 ≤ 1000) (k : Int) (hk : k = 5 ∨ k = 6) (y : Bool) (m : Nat) (t : ByteArray) (c : Int) (hc : 0 ≤ c ∧ c ≤ 4294967295) (hcs : ∀ x ∈ s, 0 ≤ x.c ∧ x.c ≤ 4294967295) (hf : ∀ x r, s = x :: r → (x.have_ : Int) < if x.map = true then 2 * x.c else x.c) (hkey : keyB s = false) (hd : s.length < 800) :
    Calls Try.prog 17 #[.pointer (some ⟨b, 0, none⟩), evV ⟨k, y, m, t, c⟩] w fun q w' => q = .returned (.tuple #[.string ⟨(writeP ⟨k, y, m, t, c⟩).toArray⟩, .int .i64 0]) ∧ WmAt (M + 1) B w' b (⟨decide (k = 6), c, 0⟩ :: incB s) false ∧ Bew B b w w' := by
  have hc2 : -1 ≤ c ∧ c ≤ 9223372036854775807 := by omega
  have hodd : ∀ bc bh r, s = (⟨true, bc, bh⟩ : Bx) :: r → bh % 2 = 1 := by
    rintro bc bh r rfl
    simp [keyB] at hkey
    omega
  have hX := writeP_size (e := ⟨k, y, m, t, c⟩) 
  rw [writeP_cnt hk]
  by_cases h16 : c < 16
  · match s, h, hf, hd, hcs, hodd with
    | [], h, _, _, _, _ =>
      rcases hk with rfl | rfl
      · rw [show decide ((5 : Int) = 6) = false from rfl, cnt_s5 ⟨hc.1, h16⟩]
        refine (wm_open0_5s h y m t c hc2 ⟨hc.1, h16⟩).mono ?_
        rintro q w' ⟨rfl, h1, h2⟩
        exact ⟨rfl, h1.up (by omega) hM, h2⟩
      · rw [show decide ((6 : Int) = 6) = true from rfl, cnt_s6 ⟨hc.1, h16⟩]
        refine (wm_open0_6s h y m t c hc2 ⟨hc.1, h16⟩).mono ?_
        rintro q w' ⟨rfl, h1, h2⟩
        exact ⟨rfl, h1.up (by omega) hM, h2⟩
    | ⟨false, bc, bh⟩ :: r, h, hf, hd, hcs, _ =>
      have hbc := hcs _ List.mem_cons_self
      have hr := hf _ r rfl
      simp only [Bool.false_eq_true, if_false] at hbc hr
      simp only [List.length_cons] at hd
      rcases hk with rfl | rfl
      · rw [show decide ((5 : Int) = 6) = false from rfl, cnt_s5 ⟨hc.1, h16⟩]
        exact (wm_oac_5s h hM hd y m t c hc2 ⟨hc.1, h16⟩ hbc.1 (by omega) hr).mono (fun q w' h => h)
      · rw [show decide ((6 : Int) = 6) = true from rfl, cnt_s6 ⟨hc.1, h16⟩]
        exact (wm_oac_6s h hM hd y m t c hc2 ⟨hc.1, h16⟩ hbc.1 (by omega) hr).mono (fun q w' h => h)
    | ⟨true, bc, bh⟩ :: r, h, hf, hd, hcs, hodd =>
      have hbc := hcs _ List.mem_cons_self
      have hr := hf _ r rfl
      have ho := hodd bc bh r rfl
      simp only [if_true] at hbc hr
      simp only [List.length_cons] at hd
      rcases hk with rfl | rfl
      · rw [show decide ((5 : Int) = 6) = false from rfl, cnt_s5 ⟨hc.1, h16⟩]
        exact (wm_omc_5s h hM hd y m t c hc2 ⟨hc.1, h16⟩ hbc.1 (by omega) hr ho).mono (fun q w' h => h)
      · rw [show decide ((6 : Int) = 6) = true from rfl, cnt_s6 ⟨hc.1, h16⟩]
        exact (wm_omc_6s h hM hd y m t c hc2 ⟨hc.1, h16⟩ hbc.1 (by omega) hr ho).mono (fun q w' h => h)
  · have hXl : ∀ a d v, (⟨(lenBs 0 a d v).toArray⟩ : ByteArray).size ≤ 100000 := by
      intro a d v
      rw [size_of]
      have hl : (lenBs 0 a d v).length ≤ 5 := by
        unfold lenBs
        repeat' split
        all_goals simp [bigB_length]
      omega
    have h5 := rlen_c 220 221 (by omega) (by omega) c hc
    have h6 := rlen_c 222 223 (by omega) (by omega) c hc
    match s, h, hf, hd, hcs, hodd with
    | [], h, _, _, _, _ =>
      rcases hk with rfl | rfl
      · rw [show decide ((5 : Int) = 6) = false from rfl, cnt_l5 (by omega)]
        refine (wm_open0_5l h y m t c hc2 (by omega) hc.2 _ (hXl _ _ _) h5).mono ?_
        rintro q w' ⟨rfl, h1, h2⟩
        exact ⟨rfl, h1.up (by omega) hM, h2⟩
      · rw [show decide ((6 : Int) = 6) = true from rfl, cnt_l6 (by omega)]
        refine (wm_open0_6l h y m t c hc2 (by omega) hc.2 _ (hXl _ _ _) h6).mono ?_
        rintro q w' ⟨rfl, h1, h2⟩
        exact ⟨rfl, h1.up (by omega) hM, h2⟩
    | ⟨false, bc, bh⟩ :: r, h, hf, hd, hcs, _ =>
      have hbc := hcs _ List.mem_cons_self
      have hr := hf _ r rfl
      simp only [Bool.false_eq_true, if_false] at hbc hr
      simp only [List.length_cons] at hd
      rcases hk with rfl | rfl
      · rw [show decide ((5 : Int) = 6) = false from rfl, cnt_l5 (by omega)]
        exact (wm_oac_5l h hM hd y m t c hc2 (by omega) hc.2 _ (hXl _ _ _) h5 hbc.1 (by omega) hr).mono (fun q w' h => h)
      · rw [show decide ((6 : Int) = 6) = true from rfl, cnt_l6 (by omega)]
        exact (wm_oac_6l h hM hd y m t c hc2 (by omega) hc.2 _ (hXl _ _ _) h6 hbc.1 (by omega) hr).mono (fun q w' h => h)
    | ⟨true, bc, bh⟩ :: r, h, hf, hd, hcs, hodd =>
      have hbc := hcs _ List.mem_cons_self
      have hr := hf _ r rfl
      have ho := hodd bc bh r rfl
      simp only [if_true] at hbc hr
      simp only [List.length_cons] at hd
      rcases hk with rfl | rfl
      · rw [show decide ((5 : Int) = 6) = false from rfl, cnt_l5 (by omega)]
        exact (wm_omc_5l h hM hd y m t c hc2 (by omega) hc.2 _ (hXl _ _ _) h5 hbc.1 (by omega) hr ho).mono (fun q w' h => h)
      · rw [show decide ((6 : Int) = 6) = true from rfl, cnt_l6 (by omega)]
        exact (wm_omc_6l h hM hd y m t c hc2 (by omega) hc.2 _ (hXl _ _ _) h6 hbc.1 (by omega) hr ho).mono (fun q w' h => h)
/-- A value that is no container. -/
theorem wm_plain {M B b : Nat} {w : World} {s : List Bx} (h : WmAt M B w b s false) (hM : M + 1 ≤ 1000) (e : Ev) (hk : e.k = 0 ∨ e.k = 1 ∨ e.k = 2 ∨ e.k = 3 ∨ e.k = 4) (hm : e.m < 18446744073709551616) (ht : e.t.size ≤ 1000) (hfit : ¬ (e.k = 2 ∧ e.y = true ∧ 9223372036854775808 ≤ e.m)) (hcs : ∀ x ∈ s, 0 ≤ x.c ∧ x.c ≤ 4294967295) (hf : ∀ x r, s = x :: r → (x.have_ : Int) < if x.map = true then 2 * x.c else x.c) (hkey : ¬ (keyB s = true ∧ e.k ≠ 3)) :
    Calls Try.prog 17 #[.pointer (some ⟨b, 0, none⟩), evV e] w fun q w' => q = .returned (.tuple #[.string ⟨(writeP e).toArray⟩, .int .i64 0]) ∧ WmAt (M + 1) B w' b (incB s) s.isEmpty ∧ Bew B b w w' := by
  have hP := fun W => rplain_p e (by omega) (by omega) hm ht hfit W
  have hX := writeP_size ht
  generalize (⟨(writeP e).toArray⟩ : ByteArray) = X at hP hX ⊢
  match s, h, hf, hcs, hkey with
  | [], h, _, _, _ =>
    refine (wm_val0 h e hk X hX hP).mono ?_
    rintro q w' ⟨rfl, h1, h2⟩
    exact ⟨rfl, h1.up (by omega) hM, h2⟩
  | ⟨false, bc, bh⟩ :: r, h, hf, hcs, hkey =>
    have hbc := hcs _ List.mem_cons_self
    have hr := hf _ r rfl
    simp only [Bool.false_eq_true, if_false] at hbc hr
    exact (wm_v2 h hM e hk hkey X hX hbc.1 (by omega) hr hP).mono (fun q w' h => h)
  | ⟨true, bc, bh⟩ :: r, h, hf, hcs, hkey =>
    have hbc := hcs _ List.mem_cons_self
    have hr := hf _ r rfl
    simp only [if_true] at hbc hr
    by_cases ho : bh % 2 = 1
    · exact (wm_v4 h hM e hk hkey X hX hbc.1 (by omega) hr ho hP).mono (fun q w' h => h)
    · have he0 : bh % 2 = 0 := by omega
      have hk3 : e.k = 3 := by
        by_cases h3 : e.k = 3
        · exact h3
        · exact absurd ⟨by simp [keyB, he0], h3⟩ hkey
      exact (wm_v6 h hM e hk hkey X hX hbc.1 (by omega) hr he0 hk3 hP).mono (fun q w' h => h)
/-- A PART OF A DOCUMENT. -/
theorem wm_step {M B b : Nat} {w : World} {s s' : List Bx} (h : WmAt M B w b s false) (hM : M + 1 ≤ 1000) (hd : s.length < 800) (hcs : ∀ x ∈ s, 0 ≤ x.c ∧ x.c ≤ 1000000) (e : Ev) (hg : GoodP e) (hst : stepC (.live s) e = ckS s')
    (hroom : e.k ≠ 7 → ∀ x r, s = x :: r → 0 ≤ x.c → (x.have_ : Int) < if x.map = true then 2 * x.c else x.c) :
    Calls Try.prog 17 #[.pointer (some ⟨b, 0, none⟩), evV e] w fun q w' => q = .returned (.tuple #[.string ⟨(writeP e).toArray⟩, .int .i64 0]) ∧ WmAt (M + 1) B w' b s' (decide (s' = [])) ∧ Bew B b w w' := by
  have hnb : ∀ f, stepC (.live s) e ≠ .bad f := fun f hf => by
    rw [hst] at hf
    unfold ckS at hf
    split at hf <;> cases hf
  have hm : mayE e := by
    by_cases hm : mayE e
    · exact hm
    · exact absurd (by simp only [stepC]; rw [if_pos hm]) (hnb 2)
  have hinj : ∀ x y : List Bx, ckS x = ckS y → x = y := by
    intro x y hxy
    unfold ckS at hxy
    by_cases hx : x = [] <;> by_cases hy : y = []
    · rw [hx, hy]
    · rw [if_pos hx, if_neg hy] at hxy; cases hxy
    · rw [if_neg hx, if_pos hy] at hxy; cases hxy
    · rw [if_neg hx, if_neg hy] at hxy; cases hxy; rfl
  by_cases h7 : e.k = 7
  · cases s with
    | nil => exact absurd (by simp only [stepC]; rw [if_neg (by simpa using hm), if_pos h7]) (hnb 2)
    | cons bx r =>
      have hns : ¬ shutB bx := fun hsb => hnb 2 (by simp only [stepC]; rw [if_neg (by simpa using hm), if_pos h7, if_pos hsb])
      have he := good_end hg.good h7
      obtain rfl : r = s' := hinj _ _ (by rw [← hst, he]; exact (end_step hns).symm)
      have hw : writeP e = [] := by
        unfold writeP
        rw [if_pos h7]
      rw [hw]
      obtain ⟨k, y, m, t, c⟩ := e
      obtain rfl : k = 7 := h7
      refine (wm_end h y m t c hns (hcs bx (by simp)).2).mono ?_
      rintro q w' ⟨rfl, h1, h2⟩
      exact ⟨rfl, h1.up (by omega) hM, h2⟩
  · have hkey : keyB s = true → e.k = 3 := by
      intro hk
      by_cases h3 : e.k = 3
      · exact h3
      · exact absurd (by simp only [stepC]; rw [if_neg (by simpa using hm), if_neg h7, if_pos ⟨hk, h3⟩]) (hnb 8)
    have hkey' : ¬ (keyB s = true ∧ e.k ≠ 3) := fun h => h.2 (hkey h.1)
    have hrm := fun x r hx => hroom h7 x r hx (hcs x (by rw [hx]; exact List.mem_cons_self)).1
    have hcs2 : ∀ x ∈ s, 0 ≤ x.c ∧ x.c ≤ 4294967295 := fun x hx => ⟨(hcs x hx).1, by have := (hcs x hx).2; omega⟩
    have hts : e.t.size ≤ 1000 := by
      have := hg.good.text.1
      rw [size_list] at this
      omega
    by_cases h56 : e.k = 5 ∨ e.k = 6
    · have hs' : s' = ⟨decide (e.k = 6), e.c, 0⟩ :: incB s := by
        refine hinj _ _ ?_
        rw [← hst]
        have h4 := hnb 4
        simp only [stepC] at h4 ⊢
        rw [if_neg (by simpa using hm), if_neg h7, if_neg hkey', if_pos h56] at h4 ⊢
        by_cases hl : 16 ≤ s.length
        · rw [if_pos hl] at h4
          exact absurd rfl h4
        · rw [if_neg hl]
          unfold ckS
          rw [if_neg (by simp)]
      subst hs'
      have hkf : keyB s = false := by
        cases hq : keyB s with
        | false => rfl
        | true => have := hkey hq; omega
      have hfit := hg.fits
      obtain ⟨k, y, m, t, c⟩ := e
      have hcc : 0 ≤ c ∧ c ≤ 4294967295 := by
        have h1 : ¬ ((k = 5 ∨ k = 6) ∧ (c < 0 ∨ 4294967295 < c)) := fun h => hfit (.inr h)
        simp only at h56
        omega
      exact wm_begin h hM k h56 y m t c hcc hcs2 hrm hkf hd
    · have hk5 : e.k = 0 ∨ e.k = 1 ∨ e.k = 2 ∨ e.k = 3 ∨ e.k = 4 := by
        have := hm.1
        have := hm.2.1
        omega
      have hs' : s' = incB s := by
        refine hinj _ _ ?_
        rw [← hst]
        simp only [stepC]
        rw [if_neg (by simpa using hm), if_neg h7, if_neg hkey', if_neg h56]
        unfold ckS
        cases s <;> rfl
      subst hs'
      have he : s.isEmpty = decide (incB s = []) := by cases s <;> rfl
      rw [← he]
      exact wm_plain h hM e hk5 hg.good.mag hts (fun hh => hg.fits (.inl hh)) hcs2 hrm hkey'
end Go.Proofs.Ytebnhelejebobaa
/-
  The document's own Writer for MessagePack in a loop over a document: what it has written behind j parts.
-/
namespace Go.Proofs.Ytebnhelejebobaa
open Go.RowKit
open Go.Lib
theorem writeP_len {e : Ev} (hg : GoodP e) : (writeP e).length ≤ 209 := by
  have ht := hg.good.text.1
  have hl : ∀ a b c v, (lenBs a b c v).length ≤ 5 := by
    intro a b c v
    unfold lenBs
    repeat' split
    all_goals simp [bigB_length]
  unfold writeP
  split
  · simp
  split
  · simp
  split
  · simp
  split
  · unfold intPk
    repeat' split
    all_goals simp [bigB_length]
  split
  · rw [List.length_append]
    have h2 : (txPk (decide (e.k = 3)) e.t.data.toList.length).length ≤ 5 := by
      unfold txPk
      repeat' split
      all_goals first | exact hl _ _ _ _ | simp
    omega
  · unfold cntPk
    repeat' split
    all_goals first | exact Nat.le_trans (hl _ _ _ _) (by decide) | simp
/-- The book's documents are what MessagePack can hold. -/
theorem docP_good (n : Nat) (L : Nat → Int) (D : Nat) : ∀ e ∈ (itemD n L D 0).1, GoodP e := fun e he => by
  have h1 := doc_e n L D e he
  have h2 := doc_pos n L D 0 e he
  refine ⟨h1.goodK, ?_⟩
  rintro (⟨_, _, h⟩ | ⟨_, h⟩)
  · have := h1.mag; omega
  · have := h1.cnt.2; omega
/-- Of the open containers behind a part: no count is less or greater than it may be. -/
theorem cntm_step {s s' : List Bx} {e : Ev} (h : stepC (.live s) e = .live s') (hs : ∀ b ∈ s, 0 ≤ b.c ∧ b.c ≤ 1000000) (hg : GoodP e) : ∀ b ∈ s', 0 ≤ b.c ∧ b.c ≤ 1000000 := by
  have hinc : ∀ b ∈ incB s, 0 ≤ b.c ∧ b.c ≤ 1000000 := by
    cases s with
    | nil => intro b hb; cases hb
    | cons x r =>
      intro b hb
      rcases List.mem_cons.1 hb with rfl | hb
      · exact hs x (by simp)
      · exact hs b (by simp [hb])
  simp only [stepC] at h
  split at h
  · cases h
  split at h
  · cases s with
    | nil => cases h
    | cons x r =>
      simp only at h
      split at h
      · cases h
      · split at h
        · cases h
        · cases h
          exact fun b hb => hs b (by simp [hb])
  split at h
  · cases h
  split at h
  · rename_i h56
    split at h
    · cases h
    · cases h
      intro b hb
      rcases List.mem_cons.1 hb with rfl | hb
      · exact ⟨good_cnt hg h56, hg.good.cnt.2⟩
      · exact hinc b hb
  · split at h
    · cases h
    · cases h
      exact hinc
theorem cntm_run : ∀ (l : List Ev) (s s' : List Bx), runC (.live s) l = .live s' → (∀ b ∈ s, 0 ≤ b.c ∧ b.c ≤ 1000000) → (∀ e ∈ l, GoodP e) → ∀ b ∈ s', 0 ≤ b.c ∧ b.c ≤ 1000000
  | [], s, s', h, hs, _ => by
    have : Ck.live s = Ck.live s' := h
    cases this
    exact hs
  | e :: l, s, s', h, hs, hg => by
    rw [runC_cons] at h
    cases hx : stepC (.live s) e with
    | bad f => rw [hx, runC_bad] at h; cases h
    | done =>
      rw [hx] at h
      cases l with
      | nil => cases h
      | cons y l => rw [runC_cons] at h; simp only [stepC] at h; rw [runC_bad] at h; cases h
    | live s1 =>
      rw [hx] at h
      exact cntm_run l s1 s' h (cntm_step hx hs (hg e (by simp))) (fun x hx => hg x (by simp [hx]))
theorem wm_new (w : World) : WmAt 0 w.heap.size (w.alloc (.cells #[.int .i64 3, .slice none 0 0, .bool false] 34)) w.heap.size [] false :=
  ⟨⟨none, 0, at_block (heap_alloc_new w _), ⟨Win.nil_ _ _ _, fun k hk => by simp [Value.owner] at hk, fun b hb => by simp at hb, by simp, by omega⟩⟩, ⟨_, heap_alloc_new w _⟩, by show w.heap.size ≤ (w.heap.push _).size; simp⟩
/-- In the midst of writing. -/
structure KIm (w3 wr : World) (L : List Ev) (j : Nat) (S : ByteArray) : Prop where
  wk : ∀ s, runC (.live []) (L.take j) = .live s → WmAt j w3.heap.size wr w3.heap.size s false
  st : S = ⟨(writeAllP (L.take j)).toArray⟩
  below : Below w3.heap.size w3 wr
  sz : S.size ≤ 209 * j
theorem kim_new (w3 : World) (L : List Ev) : KIm w3 (w3.alloc (.cells #[.int .i64 3, .slice none 0 0, .bool false] 34)) L 0 ⟨#[]⟩ := by
  refine ⟨fun s hs => ?_, rfl, up_alloc (Below.refl _ _) _, Nat.le_refl _⟩
  have : Ck.live [] = Ck.live s := hs
  cases this
  exact wm_new w3
/-- A part more. -/
theorem kim_step {w3 wr : World} {L : List Ev} {j : Nat} {S : ByteArray} (h : KIm w3 wr L j S) (hj : j < L.length) (hM : L.length ≤ 900) (hd : runC (.live []) L = .done) (hg : ∀ e ∈ L, GoodP e) :
    Calls Try.prog 17 #[.pointer (some ⟨w3.heap.size, 0, none⟩), evV L[j]] wr fun q w' => ∃ X : ByteArray, q = .returned (.tuple #[.string X, .int .i64 0]) ∧ X.size ≤ 209 ∧ KIm w3 w' L (j + 1) (S ++ X) := by
  obtain ⟨s, hs, hnb⟩ := live_at hd hj
  obtain ⟨s', hst⟩ := ck_step hnb
  have hge := hg _ (List.getElem_mem hj)
  have hc := cntm_run _ _ _ hs (by simp) (fun e he => hg e (List.mem_of_mem_take he))
  have hl := len_run _ _ _ hs (by simp)
  have hrm : L[j].k ≠ 7 → ∀ x r, s = x :: r → 0 ≤ x.c → (x.have_ : Int) < if x.map = true then 2 * x.c else x.c := by
    intro h7 x r hx h0
    have h1 : runC (runC (.live []) (L.take j)) (L.drop j) = .done := by rw [← runC_append, List.take_append_drop]; exact hd
    rw [List.drop_eq_getElem_cons hj, hs, hx] at h1
    exact room_of h1 h7 h0
  refine (wm_step (h.wk s hs) (by omega) (by omega) hc L[j] hge hst hrm).mono ?_
  rintro q w' ⟨rfl, hW, hB⟩
  have hxl : (⟨(writeP L[j]).toArray⟩ : ByteArray).size ≤ 209 := by rw [size_of]; exact writeP_len hge
  refine ⟨_, rfl, hxl, fun s1 h1 => ?_, ?_, h.below.trans (hB.below (Nat.le_refl _) (Nat.le_refl _)), ?_⟩
  · rw [runC_take hj, hs, hst] at h1
    unfold ckS at h1
    split at h1
    · cases h1
    · next hne =>
      cases h1
      rw [decide_eq_false hne] at hW
      exact hW
  · rw [writeP_take hj, h.st, cat_of]
  · have := h.sz
    rw [ByteArray.size_append]
    omega
/-- What one byte is not told to be: what all of it is. -/
theorem kim_all {w3 wr : World} {L : List Ev} {S : ByteArray} (h : KIm w3 wr L L.length S) : S = ⟨(writeAllP L).toArray⟩ := by
  have := h.st
  rwa [List.take_length] at this
end Go.Proofs.Ytebnhelejebobaa
/-
  LAWS of chapter 15, over PinAll: PackinBack.
-/
namespace Go.Proofs.Ytebnhelejebobaa
open Go.RowKit
open Go.Lib
set_option maxRecDepth 100000 in
set_option maxHeartbeats 8000000 in
theorem pback_shut (H : PinAll) (A : Option Addr) (n cp : Nat) (Li : Nat → Int) (D : Nat) (w : World) (hL : DLAt w w.heap.size A n Li) (hn : n ≤ 60) (hD : 1 ≤ D ∧ D ≤ 16) :
    Calls Try.prog 4 #[.slice A n cp, .int .i64 D] w fun r w' => r = .returned (.bool true) ∧ Below w.heap.size w w' := by
  have t1 : ((60 : Int) < (n : Int)) = False := by simp; omega
  have t2 : ((D : Int) < 1) = False := by simp; omega
  have t3 : ((16 : Int) < (D : Int)) = False := by simp; omega
  have HAL := Lib.hid (palive_any H w)
  have hgood := docP_good n Li D
  have hone := doc_one false D n Li hD.2
  rw [gE_false] at hone
  rw [List.map_id] at hone
  have hlen := item_length n Li D
  have HDOC := Lib.hid (fun W (h : DLAt W W.heap.size A n Li) => doc_any A n cp Li D W h (by omega) (by omega) (cap16 D hD.2))
  have HLI := Lib.hid hL
  generalize hI : (itemD n Li D 0).1 = L at *
  clear hI
  obtain ⟨N, hlm⟩ : ∃ N, L.length = N := ⟨_, rfl⟩
  rw [hlm] at HDOC hlen
  have hN482 : N ≤ 482 := by omega
  have hdone := check_zero hone.1
  have HG : Hid (∀ e ∈ L, GoodP e) := Lib.hid (fun e he => hgood e he)
  have HDN := Lib.hid hdone
  have HLN := Lib.hid hlm
  have HA1 : Hid (allPm D (writeAllP L) = (L, 0)) := Lib.hid (back_allP D L hone.1 HG.out hone.2)
  have HJ : Hid (∀ bs : List UInt8, bs.length ≤ 100000000 → ∀ W, Calls Try.prog 14 #[.string ⟨bs.toArray⟩, .int .i64 D] W fun r w' => ∃ u, r = .returned (.tuple #[u, .int .i64 (allPm D bs).2]) ∧ Made W w' u (allPm D bs).1.length (allPm D bs).1) := Lib.hid (fun bs hz W => H bs D hD hz W)
  clear hgood hone hlen hdone hlm hL hn hD
  go_enter Try.func4, Try.ntmps4
  go_wp2_with fail
  refine HAL.out.mono ?_
  rintro e w1 ⟨rfl, b1⟩
  have B1 := Lib.hid b1
  have HL1 := Lib.hid (show DLAt w1 w1.heap.size A n Li from fun h0 => by
    obtain ⟨b, off, h1, h2, h3⟩ := HLI.out.below b1 h0
    exact ⟨b, off, h1, Nat.lt_of_lt_of_le h2 b1.size, h3⟩)
  clear b1
  go_wp2_with fail
  refine (HDOC.out _ HL1.out).mono ?_
  rintro r w2 ⟨v2, rfl, hM2⟩
  obtain ⟨a2, c2, rfl, _, _⟩ := hM2.2.1.slice_form
  have B2 := Lib.hid (up_trans B1.out hM2.1)
  have HE3 := Lib.hid (evs_win hM2.2.1 (n := N) (by rw [HLN.out]; exact Nat.le_refl _))
  clear hM2
  have B3 := B2
  generalize w2 = w3 at *
  have H0 : Hid (KIm w3 (w3.alloc (.cells #[.int .i64 3, .slice none 0 0, .bool false] 34)) L 0 ⟨#[]⟩) := Lib.hid (kim_new w3 L)
  go_wp2
  go_loopw [7, 8, 9, 10, 36] (fun s _ _ _ i wr => ∃ (j : Nat) (S : ByteArray), s = .string S ∧ i = .int .i64 j ∧ j ≤ N ∧ Hid (KIm w3 wr L j S)) (fun _ _ _ _ i _ => N - (RowKit.intOf i).toNat)
  case atStart => exact ⟨0, ⟨#[]⟩, rfl, rfl, by omega, H0⟩
  case round =>
    obtain ⟨j, S, rfl, rfl, hj, HI⟩ := hrel
    clear H0
    by_cases hlt : j < N
    · have hjL : j < L.length := by rw [HLN.out]; exact hlt
      have HS := Lib.hid (kim_step HI.out hjL (by rw [HLN.out]; omega) HDN.out HG.out)
      obtain ⟨g, off, hgo, hgb, x0, x1, x2, x3, x4⟩ := (HE3.out.below HI.out.below).cells hlt
      subst hgo
      have hge : getE L j = L[j] := by simp [getE, hjL]
      rw [hge] at x0 x1 x2 x3 x4
      have hsz := HI.out.sz
      generalize L[j] = e at *
      obtain ⟨k, y, m, t, c⟩ := e
      simp only [evV] at x0 x1 x2 x3 x4 HS
      clear hge hjL hgb
      go_wp2_with fail
      refine HS.out.mono ?_
      rintro r w4 ⟨X, rfl, hxz, hKI⟩
      have HN4 := Lib.hid hKI
      have s1 : ¬ 9223372036854775807 < S.size + X.size := by omega
      clear hKI hsz hxz
      go_wp2
      go_roundw
      case rel => exact ⟨j + 1, _, rfl, rfl, hlt, HN4⟩
      case measure => simp [RowKit.intOf]; omega
    · obtain rfl : j = N := by omega
      have hI := HI.out
      have hsz := hI.sz
      have hS : S = ⟨(writeAllP L).toArray⟩ := by
        have := hI.st
        rwa [List.take_of_length_le (by rw [HLN.out]; exact Nat.le_refl _)] at this
      have HJ1 := HJ.out (writeAllP L) (by
        have : S.size = (writeAllP L).length := by rw [hS]; exact size_of _
        omega)
      rw [← hS, HA1.out] at HJ1
      simp only at HJ1
      rw [HLN.out] at HJ1
      have K1 := Lib.hid HJ1
      have HEr := Lib.hid (HE3.out.grow hI.below)
      have HBr := Lib.hid (up_trans B3.out hI.below)
      have hj9 : j ≤ 900 := by omega
      clear hI hS hsz HJ1
      go_wp2_with fail
      refine (K1.out _).mono ?_
      rintro r w5 ⟨u5, rfl, hM5⟩
      obtain ⟨a5, c5, rfl, _, _⟩ := hM5.2.1.slice_form
      have E5 := Lib.hid (And.intro (evs_win hM5.2.1 (n := j) (by rw [HLN.out]; exact Nat.le_refl _)) (HEr.out.grow hM5.1))
      have B5 := Lib.hid (up_trans HBr.out hM5.1)
      clear hM5
      go_wp2_with fail
      refine (same_evs _ _ j _ _ (getE L) w5 hj9 E5.out.1 E5.out.2).mono ?_
      rintro r w6 ⟨rfl, b6⟩
      have B6 := Lib.hid (up_trans B5.out b6)
      clear b6
      go_wp2
      go_ret
      exact ⟨rfl, B6.out⟩
set_option maxRecDepth 100000 in
set_option maxHeartbeats 2000000 in
theorem pback_out (H : PinAll) (A : Option Addr) (n cp : Nat) (d : Int) (w : World) (h : ¬ (n ≤ 60 ∧ 1 ≤ d ∧ d ≤ 16)) :
    Calls Try.prog 4 #[.slice A n cp, .int .i64 d] w fun r w' => r = .returned (.bool true) ∧ Below w.heap.size w w' := by
  have key : ∀ c1 c2 c3 : Prop, ((60 : Int) < (n : Int)) = c1 → (d < 1) = c2 → ((16 : Int) < d) = c3 →
      (c1 = True ∨ c1 = False ∧ c2 = True ∨ c1 = False ∧ c2 = False ∧ c3 = True) →
      Calls Try.prog 4 #[.slice A n cp, .int .i64 d] w fun r w' => r = .returned (.bool true) ∧ Below w.heap.size w w' := by
    intro c1 c2 c3 e1 e2 e3 hc
    have HA := Lib.hid (palive_any H w)
    clear h
    rcases hc with rfl | ⟨rfl, rfl⟩ | ⟨rfl, rfl, rfl⟩
    all_goals
      go_enter Try.func4, Try.ntmps4
      go_wp2_with fail
      refine HA.out.mono ?_
      rintro r w1 ⟨rfl, b1⟩
      have B1 := Lib.hid b1
      clear b1
      go_wp2
      go_ret
      exact ⟨rfl, B1.out⟩
  refine key _ _ _ rfl rfl rfl ?_
  by_cases h1 : (60 : Int) < (n : Int)
  · exact .inl (eq_true h1)
  by_cases h3 : d < 1
  · exact .inr (.inl ⟨eq_false h1, eq_true h3⟩)
  · exact .inr (.inr ⟨eq_false h1, eq_false h3, eq_true (by omega)⟩)
theorem pback_row (H : PinAll) (A : Option Addr) (n cp : Nat) (Li : Nat → Int) (d : Int) (w : World) (hL : DLAt w w.heap.size A n Li) :
    Calls Try.prog 4 #[.slice A n cp, .int .i64 d] w fun r w' => r = .returned (.bool true) ∧ Below w.heap.size w w' := by
  by_cases h : n ≤ 60 ∧ 1 ≤ d ∧ d ≤ 16
  · obtain ⟨D, rfl⟩ : ∃ D : Nat, d = D := ⟨d.toNat, by omega⟩
    exact pback_shut H A n cp Li D w hL h.1 (by omega)
  · exact pback_out H A n cp d w h
end Go.Proofs.Ytebnhelejebobaa
/-
  LAWS of chapter 15, over PinAll: PackinCuts.
-/
namespace Go.Proofs.Ytebnhelejebobaa
open Go.RowKit
open Go.Lib
set_option maxRecDepth 100000 in
set_option maxHeartbeats 2000000 in
theorem pcuts_out (H : PinAll) (A : Option Addr) (n cp : Nat) (k y : Int) (w : World) (t1 : ((40 : Int) < (n : Int)) = True) :
    Calls Try.prog 5 #[.slice A n cp, .int .i64 k, .int .u8 y] w fun r w' => r = .returned (.bool true) ∧ Below w.heap.size w w' := by
  have HA := Lib.hid (palive_any H w)
  go_enter Try.func5, Try.ntmps5
  go_wp2_with fail
  refine HA.out.mono ?_
  rintro r w1 ⟨rfl, b1⟩
  have B1 := Lib.hid b1
  clear b1
  go_wp2
  go_ret
  exact ⟨rfl, B1.out⟩
set_option maxRecDepth 100000 in
set_option maxHeartbeats 8000000 in
theorem pcuts_in (H : PinAll) (A : Option Addr) (n cp : Nat) (Li : Nat → Int) (k : Int) (b : UInt8) (w : World) (hL : DLAt w w.heap.size A n Li) (hn : n ≤ 40) :
    Calls Try.prog 5 #[.slice A n cp, .int .i64 k, .int .u8 b.toNat] w fun r w' => r = .returned (.bool true) ∧ Below w.heap.size w w' := by
  have t1 : ((40 : Int) < (n : Int)) = False := by simp; omega
  have HAL := Lib.hid (palive_any H w)
  have hgood := docP_good n Li 8
  have hone := doc_one false 8 n Li (by omega)
  rw [gE_false] at hone
  rw [List.map_id] at hone
  have hlen := item_length n Li 8
  have HDOC := Lib.hid (fun W (h : DLAt W W.heap.size A n Li) => doc_any A n cp Li 8 W h (by omega) (by omega) (cap16 8 (by omega)))
  have HLI := Lib.hid hL
  generalize hI : (itemD n Li 8 0).1 = L at *
  clear hI
  obtain ⟨N, hlm⟩ : ∃ N, L.length = N := ⟨_, rfl⟩
  rw [hlm] at HDOC hlen
  have hN322 : N ≤ 322 := by omega
  have hdone := check_zero hone.1
  have HG : Hid (∀ e ∈ L, GoodP e) := Lib.hid (fun e he => hgood e he)
  have HDN := Lib.hid hdone
  have HLN := Lib.hid hlm
  have HCUT : Hid (∀ kk, kk < (writeAllP L).length → (allPm 8 ((writeAllP L).take kk)).2 = 3) := Lib.hid (fun kk hk => cut_allP 8 L hone.1 HG.out hone.2 kk hk)
  have HMOR : Hid (allPm 8 (writeAllP L ++ [b]) = (L, 2)) := Lib.hid (more_allP 8 L hone.1 HG.out hone.2 b [])
  have HB0 : Hid (0 < (writeAllP L).length) := Lib.hid (List.length_pos_iff.2 (write_someP 8 L hone.1 HG.out hone.2))
  have HJ : Hid (∀ bs : List UInt8, bs.length ≤ 100000000 → ∀ W, Calls Try.prog 14 #[.string ⟨bs.toArray⟩, .int .i64 (8 : Nat)] W fun r w' => ∃ u, r = .returned (.tuple #[u, .int .i64 (allPm 8 bs).2]) ∧ Made W w' u (allPm 8 bs).1.length (allPm 8 bs).1) := Lib.hid (fun bs hz W => H bs 8 (by omega) hz W)
  clear hgood hone hlen hdone hlm hL hn
  go_enter Try.func5, Try.ntmps5
  go_wp2_with fail
  refine HAL.out.mono ?_
  rintro e w1 ⟨rfl, b1⟩
  have B1 := Lib.hid b1
  have HL1 := Lib.hid (show DLAt w1 w1.heap.size A n Li from fun h0 => by
    obtain ⟨b, off, h1, h2, h3⟩ := HLI.out.below b1 h0
    exact ⟨b, off, h1, Nat.lt_of_lt_of_le h2 b1.size, h3⟩)
  clear b1
  go_wp2_with fail
  refine (HDOC.out _ HL1.out).mono ?_
  rintro r w3 ⟨v3, rfl, hM3⟩
  obtain ⟨a3, c3, rfl, _, _⟩ := hM3.2.1.slice_form
  have B3 := Lib.hid (up_trans B1.out hM3.1)
  have HE3 := Lib.hid (evs_win hM3.2.1 (n := N) (by rw [HLN.out]; exact Nat.le_refl _))
  clear hM3
  have H0 : Hid (KIm w3 (w3.alloc (.cells #[.int .i64 3, .slice none 0 0, .bool false] 34)) L 0 ⟨#[]⟩) := Lib.hid (kim_new w3 L)
  go_wp2
  go_loopw [9, 10, 11, 12, 31] (fun s _ _ _ i wr => ∃ (j : Nat) (S : ByteArray), s = .string S ∧ i = .int .i64 j ∧ j ≤ N ∧ Hid (KIm w3 wr L j S)) (fun _ _ _ _ i _ => N - (RowKit.intOf i).toNat)
  case atStart => exact ⟨0, ⟨#[]⟩, rfl, rfl, by omega, H0⟩
  case round =>
    obtain ⟨j, S, rfl, rfl, hj, HI⟩ := hrel
    clear H0
    by_cases hlt : j < N
    · have hjL : j < L.length := by rw [HLN.out]; exact hlt
      have HS := Lib.hid (kim_step HI.out hjL (by rw [HLN.out]; omega) HDN.out HG.out)
      obtain ⟨g, off, hgo, hgb, x0, x1, x2, x3, x4⟩ := (HE3.out.below HI.out.below).cells hlt
      subst hgo
      have hge : getE L j = L[j] := by simp [getE, hjL]
      rw [hge] at x0 x1 x2 x3 x4
      have hsz := HI.out.sz
      generalize L[j] = e at *
      obtain ⟨ek, y, m, t, c⟩ := e
      simp only [evV] at x0 x1 x2 x3 x4 HS
      clear hge hjL hgb
      go_wp2_with fail
      refine HS.out.mono ?_
      rintro r w4 ⟨X, rfl, hxz, hKI⟩
      have HN4 := Lib.hid hKI
      have s1 : ¬ 9223372036854775807 < S.size + X.size := by omega
      clear hKI hsz hxz
      go_wp2
      go_roundw
      case rel => exact ⟨j + 1, _, rfl, rfl, hlt, HN4⟩
      case measure => simp [RowKit.intOf]; omega
    · obtain rfl : j = N := by omega
      have hI := HI.out
      have hsz := hI.sz
      have hS : S = ⟨(writeAllP L).toArray⟩ := by
        have := hI.st
        rwa [List.take_of_length_le (by rw [HLN.out]; exact Nat.le_refl _)] at this
      have hB0 := HB0.out
      have hCUT := HCUT.out
      have hMOR := HMOR.out
      generalize writeAllP L = B at *
      have hSB : S.size = B.length := by rw [hS]; exact size_of _
      obtain ⟨kk, hkk, hk⟩ := rem_place k S.size (by omega) (by omega)
      have hk' : (wrap64 (k.tmod (S.size : Int) + (S.size : Int))).tmod (S.size : Int) = (kk : Int) := hk
      have hC0 := hCUT kk (by omega)
      have hz0 : ((S.size : Int) == 0) = false := by rw [beq_eq_false_iff_ne]; omega
      have hsl := fun W : World => slice_str_hi S kk (Nat.le_of_lt hkk) W
      obtain ⟨C, hC⟩ : ∃ C : ByteArray, S.extract 0 kk = C := ⟨_, rfl⟩
      have hCl : C.data.toList = B.take kk := by subst hS; rw [← hC, ext_list]; rfl
      have hCB : (⟨(B.take kk).toArray⟩ : ByteArray) = C := by rw [← hCl]
      simp only [hC] at hsl
      have hJ1 := HJ.out (B.take kk) (by rw [List.length_take]; omega)
      rw [hCB, hC0] at hJ1
      have hJ2 := HJ.out (B ++ [b]) (by rw [List.length_append]; simp only [List.length_cons, List.length_nil]; omega)
      rw [hMOR] at hJ2
      simp only at hJ2
      rw [HLN.out] at hJ2
      have hSb : S ++ ⟨#[b]⟩ = ⟨(B ++ [b]).toArray⟩ := by rw [hS]; exact cat_of B [b]
      obtain ⟨Y, hY⟩ : ∃ Y : ByteArray, (⟨(B ++ [b]).toArray⟩ : ByteArray) = Y := ⟨_, rfl⟩
      rw [hY] at hJ2 hSb
      obtain ⟨Xb, hXb⟩ : ∃ Xb : ByteArray, (⟨#[b]⟩ : ByteArray) = Xb := ⟨_, rfl⟩
      have hcv : ∀ W : World, (convert 42 9 (.slice (some ⟨W.heap.size, 0, none⟩) 1 1)).run Try.prog (W.alloc (.cells #[.int .u8 b.toNat] 5)) = .ok (.string Xb) (W.alloc (.cells #[.int .u8 b.toNat] 5)) := fun W => conv_new W [b] #[.int .u8 b.toNat] 1 rfl rfl Xb hXb.symm
      have hXs : Xb.size = 1 := by rw [← hXb]; rfl
      have hs1 : ¬ 9223372036854775807 < S.size + Xb.size := by omega
      have hs2 : ¬ 9223372036854775807 < S.size + 1 := by omega
      rw [hXb] at hSb
      have HBr := Lib.hid (up_trans B3.out hI.below)
      have HEr := Lib.hid (HE3.out.grow hI.below)
      have hj9 : j ≤ 900 := by omega
      generalize (allPm 8 (B.take kk)).1 = L1 at *
      have K1 := Lib.hid hJ1
      have K2 := Lib.hid hJ2
      have hkS : kk < S.size := hkk
      clear hI hS hsz hB0 hCUT hMOR hC0 hSB hkk hk hC hCl hCB hJ1 hJ2 hY hXb hXs
      generalize (b.toNat : Int) = y at *
      go_wp2_with fail
      refine (K1.out _).mono ?_
      rintro r w5 ⟨u5, rfl, hM5⟩
      obtain ⟨a5, c5, rfl, _, _⟩ := hM5.2.1.slice_form
      have B5 := Lib.hid (up_trans HBr.out hM5.1)
      have E5 := Lib.hid (HEr.out.grow hM5.1)
      clear hM5
      go_wp2_with fail
      refine (K2.out _).mono ?_
      rintro r w6 ⟨u6, rfl, hM6⟩
      obtain ⟨a6, c6, rfl, _, _⟩ := hM6.2.1.slice_form
      have B6 := Lib.hid (up_trans (up_alloc B5.out _) hM6.1)
      have E6 := Lib.hid (And.intro (evs_win hM6.2.1 (n := j) (by rw [HLN.out]; exact Nat.le_refl _)) ((E5.out.grow (up_alloc (Below.refl _ _) _)).grow hM6.1))
      clear hM6
      go_wp2_with fail
      refine (same_evs _ _ j _ _ (getE L) w6 hj9 E6.out.1 E6.out.2).mono ?_
      rintro r w7 ⟨rfl, b7⟩
      have B7 := Lib.hid (up_trans B6.out b7)
      clear b7
      go_wp2
      go_ret
      exact ⟨rfl, B7.out⟩
theorem pcuts_row (H : PinAll) (A : Option Addr) (n cp : Nat) (Li : Nat → Int) (k : Int) (b : UInt8) (w : World) (hL : DLAt w w.heap.size A n Li) :
    Calls Try.prog 5 #[.slice A n cp, .int .i64 k, .int .u8 b.toNat] w fun r w' => r = .returned (.bool true) ∧ Below w.heap.size w w' := by
  by_cases h1 : 40 < n
  · exact pcuts_out H A n cp k _ w (by simp; omega)
  · exact pcuts_in H A n cp Li k b w hL (by omega)
end Go.Proofs.Ytebnhelejebobaa
/-
  CONTRACT of the document's own Writer, for MessagePack: a text, or bytes, of up to a thousand bytes.
-/
namespace Go.Proofs.Ytebnhelejebobaa
open Go.RowKit
open Go.Lib
theorem txPk_le (m : Bool) (n : Nat) : 1 ≤ (txPk m n).length ∧ (txPk m n).length ≤ 9 := by
  have hl : ∀ a b c v, 1 ≤ (lenBs a b c v).length ∧ (lenBs a b c v).length ≤ 9 := by
    intro a b c v
    unfold lenBs
    repeat' split
    all_goals simp [bigB_length]
  unfold txPk
  repeat' split
  all_goals first | exact hl _ _ _ _ | simp
/-- A Writer that is new. -/
theorem wm_fresh (w : World) : WmAt 0 w.heap.size (w.alloc (.cells #[.int .i64 3, .slice none 0 0, .bool false] 34)) w.heap.size [] false :=
  ⟨⟨none, 0, at_block (heap_alloc_new w _), ⟨Win.nil_ _ _ _, fun k hk => by simp [Value.owner] at hk, fun b hb => by simp at hb, by simp, by omega⟩⟩, ⟨_, heap_alloc_new w _⟩, by show w.heap.size ≤ (w.heap.push _).size; simp⟩
/-- A new Writer's Step of a text, or of bytes: its head, and they. -/
theorem wtextP_any (m : Bool) (l : List UInt8) (hl : l.length ≤ 1000) (w : World) :
    Calls Try.prog 17 #[.pointer (some ⟨w.heap.size, 0, none⟩), evV (evTxC m l)] (w.alloc (.cells #[.int .i64 3, .slice none 0 0, .bool false] 34)) fun q w' =>
      q = .returned (.tuple #[.string ⟨(txPk m l.length ++ l).toArray⟩, .int .i64 0]) ∧ Below w.heap.size w w' := by
  have hk : (evTxC m l).k = 3 ∨ (evTxC m l).k = 4 := by cases m <;> simp [evTxC]
  have hw : writeP (evTxC m l) = txPk m l.length ++ l := by cases m <;> simp [writeP, evTxC]
  have := wm_plain (wm_fresh w) (by omega) (evTxC m l) (by omega) (by simp [evTxC]) (by simp only [evTxC]; rw [size_of]; exact hl) (by omega) (by simp) (by simp) (by simp [keyB])
  rw [hw] at this
  refine this.mono ?_
  rintro r w' ⟨rfl, hA, hB⟩
  exact ⟨rfl, (up_alloc (Below.refl _ _) _).trans (hB.below (Nat.le_refl _) (Nat.le_refl _))⟩
end Go.Proofs.Ytebnhelejebobaa
