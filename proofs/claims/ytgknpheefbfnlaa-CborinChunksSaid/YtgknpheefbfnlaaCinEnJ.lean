/-
  CborinChunks, over the program as it landed.
-/
import Derived.Test.YtgknpheefbfnlaaLf
import Derived.Test.YtgknpheefbfnlaaGi
import Derived.Test.YtgknpheefbfnlaaLg
namespace Go.Proofs.Ytgknpheefbfnlaa
open Go.RowKit
open Go.Lib
/-- A slice of strings that came in. -/
def StrsAt (w : World) (B : Nat) (A : Option Addr) (n : Nat) (S : Nat → ByteArray) : Prop := 0 < n → ∃ b off, A = some ⟨b, off, none⟩ ∧ b < B ∧ ∀ i, i < n → w.cell? ⟨b, off + i, none⟩ = some (.string (S i))
theorem slat_of {w : World} {B : Nat} {A : Option Addr} {n : Nat} {S : Nat → ByteArray} (h : StrsAt w B A n S) : SLAt w B A n (fun i => (S i).data.toList) := fun i hi => by
  obtain ⟨b, off, h1, h2, h3⟩ := h (by omega)
  exact ⟨b, off, h1, h2, by rw [list_bytes]; exact h3 i hi⟩
theorem rval_any : RVal := fun x W hx => by
  have := refvalid_any ⟨x.toArray⟩ W (by rw [size_of]; omega)
  exact this.mono fun r w' hr => ⟨hr.1, hr.2 ▸ Below.refl _ _⟩
theorem chunks_end (A : Option Addr) (n cp : Nat) (T : Nat → List UInt8) (o : Bool) (w : World) (hL : SLAt w w.heap.size A n T) : Calls Try.prog 8 #[.slice A n cp, .bool o] w fun r w' => r = .returned (.bool true) ∧ Below w.heap.size w w' := cchunks_row call_any rval_any A n cp T o w hL
end Go.Proofs.Ytgknpheefbfnlaa
