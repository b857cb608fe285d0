/-
  A SLICE OF api.Ev: its elements as parts of EvPure. (What comes in is opened by XEvs.lean.part, in the rows.)
-/
import Derived.Test.YtkfidnfnehnhoaaEvPure
import Derived.Below
import Derived.RowKit
namespace Go.Proofs.Ytkfidnfnehnhoaa
open Go.RowKit
open Go.Lib
/-- The five cells of a part. -/
def evCells (e : Ev) : List Value := [.int .i64 e.k, .bool e.y, .int .u64 e.m, .string e.t, .int .i64 e.c]
/-- What a part's numbers may be. -/
def EvOk (e : Ev) : Prop := (-9223372036854775808 ≤ e.k ∧ e.k ≤ 9223372036854775807) ∧ e.m < 18446744073709551616 ∧ (-9223372036854775808 ≤ e.c ∧ e.c ≤ 9223372036854775807) ∧ e.t.size ≤ 9223372036854775807
/-- The elements of a slice that came in. -/
def EvsAt (w : World) (B : Nat) (A : Option Addr) (n : Nat) (E : Nat → Ev) : Prop :=
  0 < n → ∃ b off, A = some ⟨b, off, none⟩ ∧ b < B ∧ ∀ i, i < n → ∀ j u, (evCells (E i))[j]? = some u → w.cell? ⟨b, off + i * 5 + j, none⟩ = some u
theorem EvsAt.keep {w w' : World} {B n : Nat} {A : Option Addr} {E : Nat → Ev} (h : EvsAt w B A n E) (hk : ∀ p : Addr, p.block < B → w'.cell? p = w.cell? p) : EvsAt w' B A n E := fun hn => by
  obtain ⟨b, off, hA, hb, hc⟩ := h hn
  exact ⟨b, off, hA, hb, fun i hi j u hu => (hk _ hb).trans (hc i hi j u hu)⟩
theorem EvsAt.below {w w' : World} {B n : Nat} {A : Option Addr} {E : Nat → Ev} (h : EvsAt w B A n E) (hb : Below B w w') : EvsAt w' B A n E := h.keep fun _ hp => hb.cell hp
end Go.Proofs.Ytkfidnfnehnhoaa
