/-
  LAWS of chapter 5: EscapePairs: its closure.
-/
import Derived.Test.YtpcdajhcimcedaaEscLawsC
namespace Go.Proofs.Ytpcdajhcimcedaa
open Go.RowKit
open Go.Lib
theorem and15_64 (n : Nat) (h : n < 4611686018427387904) : bits .and .i64 (n : Int) 15 = ((n % 16 : Nat) : Int) := by
  have h1 : (BitVec.ofInt 64 (n : Int)).toNat = n := by
    rw [BitVec.ofInt_natCast, BitVec.toNat_ofNat]; exact Nat.mod_eq_of_lt (by omega)
  have h2 : (BitVec.ofInt 64 (15 : Int)).toNat = 15 := by decide
  show IntKind.i64.wrap ((BitVec.ofInt 64 (n : Int) &&& BitVec.ofInt 64 (15 : Int)).toNat : Int) = _
  rw [BitVec.toNat_and, h1, h2, show 15 = 2 ^ 4 - 1 by decide, Nat.and_two_pow_sub_one_eq_mod, IntKind.wrap_i64]
  omega
/-- The digits: sixteen bytes. -/
structure DigF (D : ByteArray) (f : Nat → UInt8) : Prop where
  size : D.size = 16
  at_ : ∀ i (h : i < D.size), D[i]'h = f i
theorem dig_small : DigF ⟨#[48, 49, 50, 51, 52, 53, 54, 55, 56, 57, 97, 98, 99, 100, 101, 102]⟩ hexD := by
  refine ⟨rfl, fun i h => ?_⟩
  have h' : i < 16 := h
  have : ∀ i : Fin 16, (⟨#[48, 49, 50, 51, 52, 53, 54, 55, 56, 57, 97, 98, 99, 100, 101, 102]⟩ : ByteArray)[i.val]'i.isLt = hexD i.val := by decide +kernel
  exact this ⟨i, h'⟩
theorem dig_large : DigF ⟨#[48, 49, 50, 51, 52, 53, 54, 55, 56, 57, 65, 66, 67, 68, 69, 70]⟩ hexU := by
  refine ⟨rfl, fun i h => ?_⟩
  have h' : i < 16 := h
  have : ∀ i : Fin 16, (⟨#[48, 49, 50, 51, 52, 53, 54, 55, 56, 57, 65, 66, 67, 68, 69, 70]⟩ : ByteArray)[i.val]'i.isLt = hexU i.val := by decide +kernel
  exact this ⟨i, h'⟩
theorem run_at (D : ByteArray) (a : Nat) (h : a < D.size) (x : UInt8) (hx : D[a]'h = x) (W : World) : (Instr.index 9 (.string D) (.int .i64 (a : Int))).run Try.prog W = .ok (.int .u8 (x.toNat : Int)) W := by
  rw [run_index_string W 9 D .i64 (a : Int) Try.underlying9, dif_pos (by omega)]
  subst hx
  rfl
theorem sys_lt (n : Nat) : n % 16 < 16 := Nat.mod_lt _ (by decide)
set_option maxRecDepth 100000 in
set_option maxHeartbeats 1600000 in
/-- The closure: four digits. -/
theorem u_any (b : Nat) (D : ByteArray) (f : Nat → UInt8) (hD : DigF D f) (v : Nat) (hv : v < 2000000) (w : World) (hc : w.cell? ⟨b, 0, none⟩ = some (.string D)) :
    Calls Try.prog 17 #[.int .i64 v, .pointer (some ⟨b, 0, none⟩)] w fun e w' => e = .returned (.string ⟨(uL f v).toArray⟩) ∧ Below w.heap.size w w' := by
  have q1 := and15_64 (v / 4096) (by omega)
  have q2 := and15_64 (v / 256) (by omega)
  have q3 := and15_64 (v / 16) (by omega)
  have q4 := and15_64 v (by omega)
  rw [show ((v / 4096 : Nat) : Int) = (v : Int) / 4096 by omega] at q1
  rw [show ((v / 256 : Nat) : Int) = (v : Int) / 256 by omega] at q2
  rw [show ((v / 16 : Nat) : Int) = (v : Int) / 16 by omega] at q3
  have hs := hD.size
  have nib : ∀ n : Nat, ∃ (a : Nat) (x : UInt8), n % 16 = a ∧ f (n % 16) = x ∧ ∃ h : a < D.size, D[a]'h = x := fun n => ⟨n % 16, f (n % 16), rfl, rfl, by have := sys_lt n; omega, hD.at_ _ _⟩
  obtain ⟨a1, f1, r1, g1, l1, e1⟩ := nib (v / 4096)
  obtain ⟨a2, f2, r2, g2, l2, e2⟩ := nib (v / 256)
  obtain ⟨a3, f3, r3, g3, l3, e3⟩ := nib (v / 16)
  obtain ⟨a4, f4, r4, g4, l4, e4⟩ := nib v
  have i1 := run_at D a1 l1 f1 e1
  have i2 := run_at D a2 l2 f2 e2
  have i3 := run_at D a3 l3 f3 e3
  have i4 := run_at D a4 l4 f4 e4
  unfold uL
  rw [g1, g2, g3, g4]
  rw [r1] at q1
  rw [r2] at q2
  rw [r3] at q3
  rw [r4] at q4
  have hcv : ∀ W : World, (convert 40 9 (.slice (some ⟨W.heap.size, 0, none⟩) 4 4)).run Try.prog (W.alloc (.cells #[.int .u8 (f1.toNat : Int), .int .u8 (f2.toNat : Int), .int .u8 (f3.toNat : Int), .int .u8 (f4.toNat : Int)] 5)) = .ok (.string ⟨#[f1, f2, f3, f4]⟩) (W.alloc (.cells #[.int .u8 (f1.toNat : Int), .int .u8 (f2.toNat : Int), .int .u8 (f3.toNat : Int), .int .u8 (f4.toNat : Int)] 5)) :=
    fun W => conv_new W [f1, f2, f3, f4] _ 4 rfl rfl _ rfl
  clear g1 g2 g3 g4 r1 r2 r3 r4 nib
  have hX : (⟨[92, 117, f1, f2, f3, f4].toArray⟩ : ByteArray) = ⟨#[92, 117]⟩ ++ ⟨#[f1, f2, f3, f4]⟩ := rfl
  rw [hX]
  obtain ⟨X, hx⟩ : ∃ X : ByteArray, (⟨#[f1, f2, f3, f4]⟩ : ByteArray) = X := ⟨_, rfl⟩
  have hxs : X.size = 4 := by rw [← hx]; rfl
  rw [hx] at hcv ⊢
  have HB : Hid (Below w.heap.size w (w.drew.alloc (.cells #[.int .u8 (f1.toNat : Int), .int .u8 (f2.toNat : Int), .int .u8 (f3.toNat : Int), .int .u8 (f4.toNat : Int)] 5))) := Lib.hid ((below_drewN (Below.refl _ w) 1).alloc (Nat.le_refl _) _)
  clear hX hx hD
  clear e1 e2 e3 e4
  have hcw : (convert 40 9 (.slice (some ⟨w.heap.size, 0, none⟩) 4 4)).run Try.prog (w.alloc (.cells #[.int .u8 (f1.toNat : Int), .int .u8 (f2.toNat : Int), .int .u8 (f3.toNat : Int), .int .u8 (f4.toNat : Int)] 5)).drew = .ok (.string X) (w.alloc (.cells #[.int .u8 (f1.toNat : Int), .int .u8 (f2.toNat : Int), .int .u8 (f3.toNat : Int), .int .u8 (f4.toNat : Int)] 5)).drew := hcv w.drew
  clear hcv
  have hcd : w.drew.cell? ⟨b, 0, none⟩ = some (.string D) := hc
  go_enter Try.func17, Try.ntmps17
  go_wp2_with fail
  refine wp_region_tail 19 (by kernel_rfl) (by kernel_rfl) ?_
  simp only [List.take_succ_cons, List.take_zero, List.drop_succ_cons, List.drop_zero]
  repeat still_step
  refine wpStill_nil ?_
  go_wp2
  go_ret
  exact ⟨rfl, HB.out⟩
end Go.Proofs.Ytpcdajhcimcedaa
