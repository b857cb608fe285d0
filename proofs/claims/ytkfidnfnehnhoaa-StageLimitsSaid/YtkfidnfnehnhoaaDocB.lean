/-
  CONTRACTS of the book's documents out of numbers: what the closures of truchmanbook.Doc do, step by step.
-/
import Derived.Test.YtkfidnfnehnhoaaDoc
namespace Go.Proofs.Ytkfidnfnehnhoaa
open Go.RowKit
open Go.Lib
/-- A number of the list, as 'next' tells it. -/
def wordD (z : Int) : Nat := (bits .and .i64 z 65535).toNat
theorem wordD_is (z : Int) : bits .and .i64 z 65535 = ((wordD z : Nat) : Int) ∧ wordD z < 65536 := by
  have e1 : (BitVec.ofInt 64 (65535 : Int)).toNat = 65535 := by rw [BitVec.toNat_ofInt]; omega
  have h1 : bits .and .i64 z 65535 = ((BitVec.ofInt 64 z &&& BitVec.ofInt 64 65535).toNat : Int) ∧ (BitVec.ofInt 64 z &&& BitVec.ofInt 64 65535).toNat ≤ 65535 := by
    have hle : (BitVec.ofInt 64 z &&& BitVec.ofInt 64 65535).toNat ≤ 65535 := by
      rw [BitVec.toNat_and, e1]
      exact Nat.and_le_right
    refine ⟨?_, hle⟩
    show IntKind.i64.wrap ((BitVec.ofInt 64 z &&& BitVec.ofInt 64 65535).toNat : Nat) = _
    rw [IntKind.wrap_i64]
    omega
  unfold wordD
  rw [h1.1]
  generalize (BitVec.ofInt 64 z &&& BitVec.ofInt 64 65535).toNat = a at h1
  exact ⟨rfl, by rw [Int.toNat_natCast]; omega⟩
def nxD (n : Nat) (L : Nat → Int) (at_ : Nat) : Nat := if at_ < n then wordD (L at_) else 0
theorem nxD_lt (n : Nat) (L : Nat → Int) (at_ : Nat) : nxD n L at_ < 65536 := by
  unfold nxD
  split
  · exact (wordD_is _).2
  · omega
/-- The closures. -/
def clNext (ba bl : Nat) : Value := .func (.func 31) #[] #[.pointer (some ⟨ba, 0, none⟩), .pointer (some ⟨bl, 0, none⟩)]
def clItem (bn bo bd bi : Nat) : Value := .func (.func 32) #[] #[.pointer (some ⟨bn, 0, none⟩), .pointer (some ⟨bo, 0, none⟩), .pointer (some ⟨bd, 0, none⟩), .pointer (some ⟨bi, 0, none⟩)]
/-- The numbers, as they came in. -/
def DLAt (w : World) (B : Nat) (A : Option Addr) (n : Nat) (L : Nat → Int) : Prop := 0 < n → ∃ b off, A = some ⟨b, off, none⟩ ∧ b < B ∧ ∀ i, i < n → w.cell? ⟨b, off + i, none⟩ = some (.int .i64 (L i))
theorem DLAt.below {w w' : World} {B n : Nat} {A : Option Addr} {L : Nat → Int} (h : DLAt w B A n L) (k : Below B w w') : DLAt w' B A n L := fun hn => by
  obtain ⟨b, off, hA, hb, hc⟩ := h hn
  exact ⟨b, off, hA, hb, fun i hi => (k.cell hb).trans (hc i hi)⟩
/-- What the closures of a document hold on to. -/
structure DS (W : World) (A : Option Addr) (n cp : Nat) (L : Nat → Int) (D bl bd bo ba bn bi : Nat) (w : World) (v : Value) (m : Nat) (out : List Ev) (at_ : Nat) : Prop where
  l : Blk w bl #[.slice A n cp] 42
  d : Blk w bd #[.int .i64 D] 3
  o : Blk w bo #[v] 23
  a : Blk w ba #[.int .i64 at_] 3
  x : Blk w bn #[clNext ba bl] 44
  i : Blk w bi #[clItem bn bo bd bi] 79
  made : Made W w v m out
  len : out.length = m
  ls : DLAt w W.heap.size A n L
  da : bd ≠ ba
  low : W.heap.size ≤ bo ∧ W.heap.size ≤ ba
theorem next_any (bl ba n cp at_ : Nat) (A : Option Addr) (L : Nat → Int) (B : Nat) (w : World) (hl : Blk w bl #[.slice A n cp] 42) (ha : Blk w ba #[.int .i64 at_] 3) (hL : DLAt w B A n L) (hB : B ≤ ba) (h1 : at_ ≤ 1000000000) (h2 : n ≤ 1000000000) :
    Calls Try.prog 31 #[.pointer (some ⟨ba, 0, none⟩), .pointer (some ⟨bl, 0, none⟩)] w fun r w' => r = .returned (.int .i64 (nxD n L at_ : Nat)) ∧ w' = w.setCell ⟨ba, 0, none⟩ (.int .i64 ((at_ : Int) + 1)) := by
  have a0 := ha.cell 0
  have f0 := ha.froz 0
  have hne : bl ≠ ba := fun e => by
    subst e
    have := hl.symm.trans ha
    simp at this
  have l0 : (w.setCell ⟨ba, 0, none⟩ (.int .i64 ((at_ : Int) + 1))).cell? ⟨bl, 0, none⟩ = some (.slice A n cp) := (hl.far hne _).cell 0
  have l1 := hl.cell 0
  by_cases hlt : at_ < n
  · obtain ⟨b, off, rfl, hb, hc⟩ := hL (by omega)
    have hc := hc at_ hlt
    have hcell : (w.setCell ⟨ba, 0, none⟩ (.int .i64 ((at_ : Int) + 1))).cell? ⟨b, off + at_, none⟩ = some (.int .i64 (L at_)) := by
      rw [World.cell?_setCell_other _ _ _ _ (fun e => by have := congrArg Addr.block e; simp at this; omega)]
      exact hc
    have hnx : nxD n L at_ = wordD (L at_) := by unfold nxD; rw [if_pos hlt]
    have hw := (wordD_is (L at_)).1
    rw [hnx]
    generalize wordD (L at_) = z at hw
    clear hL hl ha hb hnx
    go_enter Try.func31, Try.ntmps31
    go_wp2
    go_ret
    exact ⟨rfl, rfl⟩
  · have hnx : nxD n L at_ = 0 := by unfold nxD; rw [if_neg hlt]
    rw [hnx]
    clear hL hl ha hnx
    go_enter Try.func31, Try.ntmps31
    go_wp2
    go_ret
    exact ⟨rfl, rfl⟩
theorem DS.go {W : World} {A : Option Addr} {n cp : Nat} {L : Nat → Int} {D bl bd bo ba bn bi : Nat} {w w' : World} {v : Value} {m : Nat} {out : List Ev} {at_ : Nat} (h : DS W A n cp L D bl bd bo ba bn bi w v m out at_) (k : Below w.heap.size w w') :
    DS W A n cp L D bl bd bo ba bn bi w' v m out at_ :=
  ⟨h.l.go k, h.d.go k, h.o.go k, h.a.go k, h.x.go k, h.i.go k, h.made.go k, h.len, h.ls.below (k.mono h.made.1.size), h.da, h.low⟩
/-- One number more is told. -/
theorem DS.next {W : World} {A : Option Addr} {n cp : Nat} {L : Nat → Int} {D bl bd bo ba bn bi : Nat} {w : World} {v : Value} {m : Nat} {out : List Ev} {at_ : Nat} (h : DS W A n cp L D bl bd bo ba bn bi w v m out at_) :
    DS W A n cp L D bl bd bo ba bn bi (w.setCell ⟨ba, 0, none⟩ (.int .i64 ((at_ : Int) + 1))) v m out (at_ + 1) := by
  have ne : ∀ {b : Nat} {cs : Array Value} {t : TypeId}, Blk w b cs t → t ≠ 3 → b ≠ ba := fun {b cs t} hb ht e => by
    subst e
    have := hb.symm.trans h.a
    simp at this
    exact ht this.2
  have hb : Below W.heap.size w (w.setCell ⟨ba, 0, none⟩ (.int .i64 ((at_ : Int) + 1))) := (Below.refl _ _).setCell h.low.2 _
  have hap : ba ∉ Value.owner v := h.made.2.1.apart (t := 3) h.a (by decide)
  exact ⟨h.l.far (ne h.l (by decide)) _, h.d.far h.da _, h.o.far (ne h.o (by decide)) _, h.a.set 0 _, h.x.far (ne h.x (by decide)) _, h.i.far (ne h.i (by decide)) _,
    ⟨h.made.1.trans hb, h.made.2.1.setCell_far hap _, h.made.2.2⟩, h.len, h.ls.below hb, h.da, h.low⟩
/-- One part more is told. -/
theorem DS.put {W : World} {A : Option Addr} {n cp : Nat} {L : Nat → Int} {D bl bd bo ba bn bi : Nat} {w wA w2 : World} {v v' : Value} {m : Nat} {out : List Ev} {at_ : Nat} (h : DS W A n cp L D bl bd bo ba bn bi w v m out at_) (e : Ev)
    (hA : Below w.heap.size w wA) (hW : Win w2 34 5 v' (m + 1) (evsC out ++ evsC [e])) (hG : wA.grownBy w2 v.ownBlock) (hO : v'.ownBlock = v.ownBlock ∨ v'.ownBlock = some wA.heap.size ∧ wA.heap.size < w2.heap.size) :
    DS W A n cp L D bl bd bo ba bn bi (w2.setCell ⟨bo, 0, none⟩ v') v' (m + 1) (out ++ [e]) at_ := by
  have hM : Made W w2 v' (m + 1) (out ++ [e]) := made_more h.made hA hW hG hO
  have lift : ∀ {b : Nat} {cs : Array Value} {t : TypeId}, Blk w b cs t → 34 ≠ t → Blk w2 b cs t := fun {b cs t} hb ht => (hb.go hA).lift hG (fun e => h.made.2.1.apart hb ht ((ob_iff _ _).1 e))
  have ho := lift h.o (by decide)
  have ne : ∀ {b : Nat} {cs : Array Value} {t : TypeId}, Blk w2 b cs t → t ≠ 23 → b ≠ bo := fun {b cs t} hb ht e => by
    subst e
    have := hb.symm.trans ho
    simp at this
    exact ht this.2
  have hl := lift h.l (by decide)
  have hd := lift h.d (by decide)
  have ha := lift h.a (by decide)
  have hx := lift h.x (by decide)
  have hi := lift h.i (by decide)
  have hb : Below W.heap.size w2 (w2.setCell ⟨bo, 0, none⟩ v') := (Below.refl _ _).setCell h.low.1 _
  have hw2 : Below W.heap.size w w2 := ((Below.refl W.heap.size w).trans (hA.mono h.made.1.size)).grown hG (Nat.le_trans h.made.1.size hA.size) (fun k hk => h.made.2.2 k ((ob_iff _ _).1 hk))
  have hap : bo ∉ Value.owner v' := hM.2.1.apart (t := 23) ho (by decide)
  exact ⟨hl.far (ne hl (by decide)) _, hd.far (ne hd (by decide)) _, ho.set 0 _, ha.far (ne ha (by decide)) _, hx.far (ne hx (by decide)) _, hi.far (ne hi (by decide)) _,
    ⟨hM.1.trans hb, hM.2.1.setCell_far hap _, hM.2.2⟩, by rw [List.length_append, h.len]; rfl, (h.ls.below hw2).below hb, h.da, h.low⟩
end Go.Proofs.Ytkfidnfnehnhoaa
