/-
  LAWS of chapter 16: PackoutWholes.
-/
import Derived.Test.YtonjdnahplphhaaG2a
import Derived.Test.YtonjdnahplphhaaG1a
import Derived.Test.YtonjdnahplphhaaG0c
/-
  LAWS of chapter 16: PackoutWholes.
-/
namespace Go.Proofs.Ytonjdnahplphhaa
open Go.RowKit
open Go.Lib
theorem intPk_is (y : Bool) (m : Nat) : (intPk y m).length = if m < (if y = true then 32 else 128) then 1 else if m < (if y = true then 128 else 256) then 2 else if m < (if y = true then 32768 else 65536) then 3 else if m < (if y = true then 2147483648 else 4294967296) then 5 else 9 := by
  cases y
  · unfold intPk
    rw [if_pos rfl]
    simp only [Bool.false_eq_true, if_false]
    repeat' split
    all_goals simp [bigB_length]
  · unfold intPk
    rw [if_neg (by decide)]
    simp only [if_true]
    repeat' split
    all_goals simp [bigB_length]
/-- What the law has in memory: the number, the row of sizes. -/
structure WhI (w W : World) (y : Bool) (m g z0 z1 z2 : Nat) : Prop where
  blk : Blk W w.heap.size #[.bool y, .int .u64 m] 54
  siz : Blk W g #[.int .u64 z0, .int .u64 z1, .int .u64 z2] 33
  bel : Below w.heap.size w W
theorem WhI.drewN {w W : World} {y : Bool} {m g z0 z1 z2 : Nat} (h : WhI w W y m g z0 z1 z2) (q : Nat) : WhI w (W.drewN q) y m g z0 z1 z2 := ⟨h.blk, h.siz, below_drN h.bel q⟩
theorem WhI.go {w W W' : World} {y : Bool} {m g z0 z1 z2 : Nat} (h : WhI w W y m g z0 z1 z2) (k : Below W.heap.size W W') : WhI w W' y m g z0 z1 z2 := ⟨h.blk.go k, h.siz.go k, up_trans h.bel k⟩
theorem WhI.cells {w W : World} {y : Bool} {m g z0 z1 z2 : Nat} (h : WhI w W y m g z0 z1 z2) : (W.cell? ⟨w.heap.size, 0, none⟩ = some (.bool y) ∧ W.cell? ⟨w.heap.size, 1, none⟩ = some (.int .u64 m)) ∧
    W.cell? ⟨g, 0, none⟩ = some (.int .u64 z0) ∧ W.cell? ⟨g, 1, none⟩ = some (.int .u64 z1) ∧ W.cell? ⟨g, 2, none⟩ = some (.int .u64 z2) :=
  ⟨⟨h.blk.cell 0, h.blk.cell 1⟩, h.siz.cell 0, h.siz.cell 1, h.siz.cell 2⟩
set_option maxRecDepth 100000 in
set_option maxHeartbeats 4000000 in
/-- One that MessagePack cannot hold. -/
theorem rwholes_bad (m : Nat) (hm : 9223372036854775808 ≤ m ∧ m < 18446744073709551616) (w : World) :
    Calls Try.prog 7 #[.agg #[.bool true, .int .u64 m]] w fun e w' => e = .returned (.bool true) ∧ Below w.heap.size w w' := by
  have HA := Lib.hid (fun W => ralive_any W)
  have hall := wholes_allP true m
  rw [if_pos ⟨rfl, hm.1⟩] at hall
  have HC := Lib.hid (fun W p hp => rall_one_at ⟨2, true, m, ⟨#[]⟩, 0⟩ ⟨by constructor <;> simp, hm.2, by constructor <;> simp, by show 0 ≤ _; omega⟩ (by show 0 ≤ _; omega) _ _ hall W p hp)
  rw [show evsC [(⟨2, true, m, ⟨#[]⟩, 0⟩ : Ev)] = [.int .i64 2, .bool true, .int .u64 m, .string ⟨#[]⟩, .int .i64 0] from rfl] at HC
  have EB : Hid (∀ W, Below (w.alloc (.cells #[.bool true, .int .u64 m] 54)).heap.size (w.alloc (.cells #[.bool true, .int .u64 m] 54)) W → W.cell? ⟨w.heap.size, 0, none⟩ = some (.bool true) ∧ W.cell? ⟨w.heap.size, 1, none⟩ = some (.int .u64 m)) := Lib.hid (fun W k => by
    have hb := (blk_new w #[.bool true, .int .u64 m] 54).go k
    exact ⟨hb.cell 0, hb.cell 1⟩)
  have hz : ((9223372036854775808 : Int) ≤ (m : Int)) = True := by simp only [eq_iff_iff, iff_true]; omega
  clear hm hall
  go_enter Try.func7, Try.ntmps7
  go_wp2_with fail
  refine (HA.out _).mono ?_
  rintro e w1 ⟨rfl, b1⟩
  have B1 := Lib.hid b1
  obtain ⟨c0, c1⟩ := EB.out _ b1
  clear b1
  go_wp2_with fail
  refine (HC.out _ _ rfl).mono ?_
  rintro e w2 ⟨rfl, b2⟩
  have B2 := Lib.hid (up_trans B1.out b2)
  obtain ⟨d0, d1⟩ := EB.out _ B2.out
  clear b2
  go_wp2
  go_ret
  exact ⟨rfl, up_trans (up_alloc (Below.refl _ _) _) B2.out⟩
set_option maxRecDepth 100000 in
set_option maxHeartbeats 8000000 in
theorem rwholes_fa (m : Nat) (hm : m < 128) (w : World) :
    Calls Try.prog 7 #[.agg #[.bool false, .int .u64 m]] w fun e w' => e = .returned (.bool true) ∧ Below w.heap.size w w' := by
  have HA := Lib.hid (fun W => ralive_any W)
  have hall := wholes_allP false m
  rw [if_neg (by simp)] at hall
  have HC := Lib.hid (fun W p hp => rall_one_at ⟨2, false, m, ⟨#[]⟩, 0⟩ ⟨by constructor <;> simp, by show m < _; omega, by constructor <;> simp, by show 0 ≤ _; omega⟩ (by show 0 ≤ _; omega) _ _ hall W p hp)
  rw [show evsC [(⟨2, false, m, ⟨#[]⟩, 0⟩ : Ev)] = [.int .i64 2, .bool false, .int .u64 m, .string ⟨#[]⟩, .int .i64 0] from rfl] at HC
  have HPK := Lib.hid (fun W => rpack_int false m (by omega) (fun h => by cases h) W)
  have hsz : (⟨(intPk false m).toArray⟩ : ByteArray).size = 1 := by
    rw [size_of, intPk_is]
    simp only [Bool.false_eq_true, if_false]
    rw [if_pos (by omega)]
  generalize (⟨(intPk false m).toArray⟩ : ByteArray) = Z at *
  have hszi : (Z.size : Int) = 1 := by omega
  have E0 := Lib.hid (blk_new w #[.bool false, .int .u64 m] 54)
  have hq := fun W => ev_eql ⟨2, false, m, ⟨#[]⟩, 0⟩ ⟨2, false, m, ⟨#[]⟩, 0⟩ W
  rw [sameE_refl] at hq
  simp only [evV] at hq
  have t0 : ((m : Int) < 128) = True := by simp only [eq_iff_iff, iff_true]; omega
  clear hall hsz hm
  go_enter Try.func7, Try.ntmps7
  go_wp2_with fail
  refine (HA.out _).mono ?_
  rintro e w1 ⟨rfl, b1⟩
  have B1 := Lib.hid b1
  have E1 := Lib.hid (E0.out.go b1)
  have c0 : w1.cell? ⟨w.heap.size, 0, none⟩ = some (.bool false) := E1.out.cell 0
  have c1 : w1.cell? ⟨w.heap.size, 1, none⟩ = some (.int .u64 m) := E1.out.cell 1
  clear b1
  go_wp2_with fail
  refine (HC.out _ _ rfl).mono ?_
  rintro e w2 ⟨rfl, b2⟩
  have B2 := Lib.hid (up_trans B1.out b2)
  have E2 := Lib.hid (E0.out.go B2.out)
  have d0 : w2.cell? ⟨w.heap.size, 0, none⟩ = some (.bool false) := E2.out.cell 0
  have d1 : w2.cell? ⟨w.heap.size, 1, none⟩ = some (.int .u64 m) := E2.out.cell 1
  clear b2 c0 c1
  have H3 : Hid (WhI w (w2.alloc (.cells #[.int .u64 256, .int .u64 65536, .int .u64 4294967296] 33)) false m w2.heap.size 256 65536 4294967296) := Lib.hid ⟨E2.out.go (up_alloc (Below.refl _ _) _), blk_new _ _ _, up_trans (up_trans (up_alloc (Below.refl _ _) _) B2.out) (up_alloc (Below.refl _ _) _)⟩
  have e0 : ∀ X, (w2.alloc X).cell? ⟨w.heap.size, 0, none⟩ = some (.bool false) := fun X => (E2.out.alloc X).cell 0
  have e1 : ∀ X, (w2.alloc X).cell? ⟨w.heap.size, 1, none⟩ = some (.int .u64 m) := fun X => (E2.out.alloc X).cell 1
  have f0 : ∀ X X2, ((w2.alloc X).alloc X2).cell? ⟨w.heap.size, 0, none⟩ = some (.bool false) := fun X X2 => ((E2.out.alloc X).alloc X2).cell 0
  have f1 : ∀ X X2, ((w2.alloc X).alloc X2).cell? ⟨w.heap.size, 1, none⟩ = some (.int .u64 m) := fun X X2 => ((E2.out.alloc X).alloc X2).cell 1
  go_wp2_with fail
  have HK := Lib.hid (HPK.out (w2.alloc (.cells #[.int .u64 256, .int .u64 65536, .int .u64 4294967296] 33)))
  refine HK.out.mono ?_
  rintro e w8 ⟨a, c, rfl, hw8, b8⟩
  have H8 := Lib.hid (H3.out.go b8)
  have H9 := Lib.hid (H8.out.go (up_alloc (Below.refl _ _) (.cells #[.slice a 1 c, .int .i64 0, .bool true, .int .i64 0] 57)))
  have hR9 := blk_new w8 #[.slice a 1 c, .int .i64 0, .bool true, .int .i64 0] 57
  have hV9 := evs_win (hw8.alloc (.cells #[.slice a 1 c, .int .i64 0, .bool true, .int .i64 0] 57)) (n := 1) (Nat.le_refl _)
  obtain ⟨g, off, rfl, hgb, v0, v1, v2, v3, v4⟩ := hV9.cells (by omega : 0 < 1)
  simp only [Nat.zero_mul, Nat.add_zero, getE, List.getElem?_cons_zero, Option.getD_some] at v0 v1 v2 v3 v4
  clear hw8 hgb hV9
  go_wp2_with fail
  have hr0 : (w8.alloc (.cells #[.slice (some ⟨g, off, none⟩) 1 c, .int .i64 0, .bool true, .int .i64 0] 57)).cell? ⟨w8.heap.size, 0, none⟩ = some (.slice (some ⟨g, off, none⟩) 1 c) := hR9.cell 0
  have hr2 : (w8.alloc (.cells #[.slice (some ⟨g, off, none⟩) 1 c, .int .i64 0, .bool true, .int .i64 0] 57)).cell? ⟨w8.heap.size, 2, none⟩ = some (.bool true) := hR9.cell 2
  clear hR9
  generalize (w8.alloc (.cells #[.slice (some ⟨g, off, none⟩) 1 c, .int .i64 0, .bool true, .int .i64 0] 57)) = w9 at *
  obtain ⟨⟨x0, x1⟩, _, _, _⟩ := H9.out.cells
  go_quiet (fail)
  go_wp2
  go_ret
  exact ⟨rfl, below_drN H9.out.bel _⟩
set_option maxRecDepth 100000 in
set_option maxHeartbeats 8000000 in
theorem rwholes_fb (m : Nat) (hm : 128 ≤ m ∧ m < 256) (w : World) :
    Calls Try.prog 7 #[.agg #[.bool false, .int .u64 m]] w fun e w' => e = .returned (.bool true) ∧ Below w.heap.size w w' := by
  have HA := Lib.hid (fun W => ralive_any W)
  have hall := wholes_allP false m
  rw [if_neg (by simp)] at hall
  have HC := Lib.hid (fun W p hp => rall_one_at ⟨2, false, m, ⟨#[]⟩, 0⟩ ⟨by constructor <;> simp, by show m < _; omega, by constructor <;> simp, by show 0 ≤ _; omega⟩ (by show 0 ≤ _; omega) _ _ hall W p hp)
  rw [show evsC [(⟨2, false, m, ⟨#[]⟩, 0⟩ : Ev)] = [.int .i64 2, .bool false, .int .u64 m, .string ⟨#[]⟩, .int .i64 0] from rfl] at HC
  have HPK := Lib.hid (fun W => rpack_int false m (by omega) (fun h => by cases h) W)
  have hsz : (⟨(intPk false m).toArray⟩ : ByteArray).size = 2 := by
    rw [size_of, intPk_is]
    simp only [Bool.false_eq_true, if_false]
    rw [if_neg (by omega), if_pos (by omega)]
  generalize (⟨(intPk false m).toArray⟩ : ByteArray) = Z at *
  have hszi : (Z.size : Int) = 2 := by omega
  have E0 := Lib.hid (blk_new w #[.bool false, .int .u64 m] 54)
  have hq := fun W => ev_eql ⟨2, false, m, ⟨#[]⟩, 0⟩ ⟨2, false, m, ⟨#[]⟩, 0⟩ W
  rw [sameE_refl] at hq
  simp only [evV] at hq
  have t0 : ((m : Int) < 128) = False := by simp only [eq_iff_iff, iff_false]; omega
  have t1 : ((m : Int) < 256) = True := by simp only [eq_iff_iff, iff_true]; omega
  clear hall hsz hm
  go_enter Try.func7, Try.ntmps7
  go_wp2_with fail
  refine (HA.out _).mono ?_
  rintro e w1 ⟨rfl, b1⟩
  have B1 := Lib.hid b1
  have E1 := Lib.hid (E0.out.go b1)
  have c0 : w1.cell? ⟨w.heap.size, 0, none⟩ = some (.bool false) := E1.out.cell 0
  have c1 : w1.cell? ⟨w.heap.size, 1, none⟩ = some (.int .u64 m) := E1.out.cell 1
  clear b1
  go_wp2_with fail
  refine (HC.out _ _ rfl).mono ?_
  rintro e w2 ⟨rfl, b2⟩
  have B2 := Lib.hid (up_trans B1.out b2)
  have E2 := Lib.hid (E0.out.go B2.out)
  have d0 : w2.cell? ⟨w.heap.size, 0, none⟩ = some (.bool false) := E2.out.cell 0
  have d1 : w2.cell? ⟨w.heap.size, 1, none⟩ = some (.int .u64 m) := E2.out.cell 1
  clear b2 c0 c1
  have H3 : Hid (WhI w (w2.alloc (.cells #[.int .u64 256, .int .u64 65536, .int .u64 4294967296] 33)) false m w2.heap.size 256 65536 4294967296) := Lib.hid ⟨E2.out.go (up_alloc (Below.refl _ _) _), blk_new _ _ _, up_trans (up_trans (up_alloc (Below.refl _ _) _) B2.out) (up_alloc (Below.refl _ _) _)⟩
  have e0 : ∀ X, (w2.alloc X).cell? ⟨w.heap.size, 0, none⟩ = some (.bool false) := fun X => (E2.out.alloc X).cell 0
  have e1 : ∀ X, (w2.alloc X).cell? ⟨w.heap.size, 1, none⟩ = some (.int .u64 m) := fun X => (E2.out.alloc X).cell 1
  have f0 : ∀ X X2, ((w2.alloc X).alloc X2).cell? ⟨w.heap.size, 0, none⟩ = some (.bool false) := fun X X2 => ((E2.out.alloc X).alloc X2).cell 0
  have f1 : ∀ X X2, ((w2.alloc X).alloc X2).cell? ⟨w.heap.size, 1, none⟩ = some (.int .u64 m) := fun X X2 => ((E2.out.alloc X).alloc X2).cell 1
  go_wp2_with fail
  clear d0 d1 e0 e1 f0 f1
  generalize (w2.alloc (.cells #[.int .u64 256, .int .u64 65536, .int .u64 4294967296] 33)) = w3 at *
  obtain ⟨⟨x0, x1⟩, s0, s1, s2⟩ := H3.out.cells
  go_quiet (fail)
  have H4 := Lib.hid (H3.out.drewN nq)
  clear x0 x1 s0 s1 s2
  generalize w3.drewN nq = w4 at *
  obtain ⟨⟨x0, x1⟩, s0, s1, s2⟩ := H4.out.cells
  go_wp2_with fail
  have HK := Lib.hid (HPK.out w4)
  refine HK.out.mono ?_
  rintro e w8 ⟨a, c, rfl, hw8, b8⟩
  have H8 := Lib.hid (H4.out.go b8)
  have H9 := Lib.hid (H8.out.go (up_alloc (Below.refl _ _) (.cells #[.slice a 1 c, .int .i64 0, .bool true, .int .i64 0] 57)))
  have hR9 := blk_new w8 #[.slice a 1 c, .int .i64 0, .bool true, .int .i64 0] 57
  have hV9 := evs_win (hw8.alloc (.cells #[.slice a 1 c, .int .i64 0, .bool true, .int .i64 0] 57)) (n := 1) (Nat.le_refl _)
  obtain ⟨g, off, rfl, hgb, v0, v1, v2, v3, v4⟩ := hV9.cells (by omega : 0 < 1)
  simp only [Nat.zero_mul, Nat.add_zero, getE, List.getElem?_cons_zero, Option.getD_some] at v0 v1 v2 v3 v4
  clear hw8 hgb hV9 x0 x1 s0 s1 s2
  go_wp2_with fail
  have hr0 : (w8.alloc (.cells #[.slice (some ⟨g, off, none⟩) 1 c, .int .i64 0, .bool true, .int .i64 0] 57)).cell? ⟨w8.heap.size, 0, none⟩ = some (.slice (some ⟨g, off, none⟩) 1 c) := hR9.cell 0
  have hr2 : (w8.alloc (.cells #[.slice (some ⟨g, off, none⟩) 1 c, .int .i64 0, .bool true, .int .i64 0] 57)).cell? ⟨w8.heap.size, 2, none⟩ = some (.bool true) := hR9.cell 2
  clear hR9
  generalize (w8.alloc (.cells #[.slice (some ⟨g, off, none⟩) 1 c, .int .i64 0, .bool true, .int .i64 0] 57)) = w9 at *
  obtain ⟨⟨x0, x1⟩, _, _, _⟩ := H9.out.cells
  go_quiet (fail)
  go_wp2
  go_ret
  exact ⟨rfl, below_drN H9.out.bel _⟩
set_option maxRecDepth 100000 in
set_option maxHeartbeats 8000000 in
theorem rwholes_fc (m : Nat) (hm : 256 ≤ m ∧ m < 65536) (w : World) :
    Calls Try.prog 7 #[.agg #[.bool false, .int .u64 m]] w fun e w' => e = .returned (.bool true) ∧ Below w.heap.size w w' := by
  have HA := Lib.hid (fun W => ralive_any W)
  have hall := wholes_allP false m
  rw [if_neg (by simp)] at hall
  have HC := Lib.hid (fun W p hp => rall_one_at ⟨2, false, m, ⟨#[]⟩, 0⟩ ⟨by constructor <;> simp, by show m < _; omega, by constructor <;> simp, by show 0 ≤ _; omega⟩ (by show 0 ≤ _; omega) _ _ hall W p hp)
  rw [show evsC [(⟨2, false, m, ⟨#[]⟩, 0⟩ : Ev)] = [.int .i64 2, .bool false, .int .u64 m, .string ⟨#[]⟩, .int .i64 0] from rfl] at HC
  have HPK := Lib.hid (fun W => rpack_int false m (by omega) (fun h => by cases h) W)
  have hsz : (⟨(intPk false m).toArray⟩ : ByteArray).size = 3 := by
    rw [size_of, intPk_is]
    simp only [Bool.false_eq_true, if_false]
    rw [if_neg (by omega), if_neg (by omega), if_pos (by omega)]
  generalize (⟨(intPk false m).toArray⟩ : ByteArray) = Z at *
  have hszi : (Z.size : Int) = 3 := by omega
  have E0 := Lib.hid (blk_new w #[.bool false, .int .u64 m] 54)
  have hq := fun W => ev_eql ⟨2, false, m, ⟨#[]⟩, 0⟩ ⟨2, false, m, ⟨#[]⟩, 0⟩ W
  rw [sameE_refl] at hq
  simp only [evV] at hq
  have t0 : ((m : Int) < 128) = False := by simp only [eq_iff_iff, iff_false]; omega
  have t1 : ((m : Int) < 256) = False := by simp only [eq_iff_iff, iff_false]; omega
  have t2 : ((m : Int) < 65536) = True := by simp only [eq_iff_iff, iff_true]; omega
  clear hall hsz hm
  go_enter Try.func7, Try.ntmps7
  go_wp2_with fail
  refine (HA.out _).mono ?_
  rintro e w1 ⟨rfl, b1⟩
  have B1 := Lib.hid b1
  have E1 := Lib.hid (E0.out.go b1)
  have c0 : w1.cell? ⟨w.heap.size, 0, none⟩ = some (.bool false) := E1.out.cell 0
  have c1 : w1.cell? ⟨w.heap.size, 1, none⟩ = some (.int .u64 m) := E1.out.cell 1
  clear b1
  go_wp2_with fail
  refine (HC.out _ _ rfl).mono ?_
  rintro e w2 ⟨rfl, b2⟩
  have B2 := Lib.hid (up_trans B1.out b2)
  have E2 := Lib.hid (E0.out.go B2.out)
  have d0 : w2.cell? ⟨w.heap.size, 0, none⟩ = some (.bool false) := E2.out.cell 0
  have d1 : w2.cell? ⟨w.heap.size, 1, none⟩ = some (.int .u64 m) := E2.out.cell 1
  clear b2 c0 c1
  have H3 : Hid (WhI w (w2.alloc (.cells #[.int .u64 256, .int .u64 65536, .int .u64 4294967296] 33)) false m w2.heap.size 256 65536 4294967296) := Lib.hid ⟨E2.out.go (up_alloc (Below.refl _ _) _), blk_new _ _ _, up_trans (up_trans (up_alloc (Below.refl _ _) _) B2.out) (up_alloc (Below.refl _ _) _)⟩
  have e0 : ∀ X, (w2.alloc X).cell? ⟨w.heap.size, 0, none⟩ = some (.bool false) := fun X => (E2.out.alloc X).cell 0
  have e1 : ∀ X, (w2.alloc X).cell? ⟨w.heap.size, 1, none⟩ = some (.int .u64 m) := fun X => (E2.out.alloc X).cell 1
  have f0 : ∀ X X2, ((w2.alloc X).alloc X2).cell? ⟨w.heap.size, 0, none⟩ = some (.bool false) := fun X X2 => ((E2.out.alloc X).alloc X2).cell 0
  have f1 : ∀ X X2, ((w2.alloc X).alloc X2).cell? ⟨w.heap.size, 1, none⟩ = some (.int .u64 m) := fun X X2 => ((E2.out.alloc X).alloc X2).cell 1
  go_wp2_with fail
  clear d0 d1 e0 e1 f0 f1
  generalize (w2.alloc (.cells #[.int .u64 256, .int .u64 65536, .int .u64 4294967296] 33)) = w3 at *
  obtain ⟨⟨x0, x1⟩, s0, s1, s2⟩ := H3.out.cells
  go_quiet (fail)
  have H4 := Lib.hid (H3.out.drewN nq)
  clear x0 x1 s0 s1 s2
  generalize w3.drewN nq = w4 at *
  obtain ⟨⟨x0, x1⟩, s0, s1, s2⟩ := H4.out.cells
  go_wp2_with fail
  go_quiet (fail)
  have H5 := Lib.hid (H4.out.drewN nq)
  clear x0 x1 s0 s1 s2
  generalize w4.drewN nq = w5 at *
  obtain ⟨⟨x0, x1⟩, s0, s1, s2⟩ := H5.out.cells
  go_wp2_with fail
  have HK := Lib.hid (HPK.out w5)
  refine HK.out.mono ?_
  rintro e w8 ⟨a, c, rfl, hw8, b8⟩
  have H8 := Lib.hid (H5.out.go b8)
  have H9 := Lib.hid (H8.out.go (up_alloc (Below.refl _ _) (.cells #[.slice a 1 c, .int .i64 0, .bool true, .int .i64 0] 57)))
  have hR9 := blk_new w8 #[.slice a 1 c, .int .i64 0, .bool true, .int .i64 0] 57
  have hV9 := evs_win (hw8.alloc (.cells #[.slice a 1 c, .int .i64 0, .bool true, .int .i64 0] 57)) (n := 1) (Nat.le_refl _)
  obtain ⟨g, off, rfl, hgb, v0, v1, v2, v3, v4⟩ := hV9.cells (by omega : 0 < 1)
  simp only [Nat.zero_mul, Nat.add_zero, getE, List.getElem?_cons_zero, Option.getD_some] at v0 v1 v2 v3 v4
  clear hw8 hgb hV9 x0 x1 s0 s1 s2
  go_wp2_with fail
  have hr0 : (w8.alloc (.cells #[.slice (some ⟨g, off, none⟩) 1 c, .int .i64 0, .bool true, .int .i64 0] 57)).cell? ⟨w8.heap.size, 0, none⟩ = some (.slice (some ⟨g, off, none⟩) 1 c) := hR9.cell 0
  have hr2 : (w8.alloc (.cells #[.slice (some ⟨g, off, none⟩) 1 c, .int .i64 0, .bool true, .int .i64 0] 57)).cell? ⟨w8.heap.size, 2, none⟩ = some (.bool true) := hR9.cell 2
  clear hR9
  generalize (w8.alloc (.cells #[.slice (some ⟨g, off, none⟩) 1 c, .int .i64 0, .bool true, .int .i64 0] 57)) = w9 at *
  obtain ⟨⟨x0, x1⟩, _, _, _⟩ := H9.out.cells
  go_quiet (fail)
  go_wp2
  go_ret
  exact ⟨rfl, below_drN H9.out.bel _⟩
set_option maxRecDepth 100000 in
set_option maxHeartbeats 8000000 in
theorem rwholes_fd (m : Nat) (hm : 65536 ≤ m ∧ m < 4294967296) (w : World) :
    Calls Try.prog 7 #[.agg #[.bool false, .int .u64 m]] w fun e w' => e = .returned (.bool true) ∧ Below w.heap.size w w' := by
  have HA := Lib.hid (fun W => ralive_any W)
  have hall := wholes_allP false m
  rw [if_neg (by simp)] at hall
  have HC := Lib.hid (fun W p hp => rall_one_at ⟨2, false, m, ⟨#[]⟩, 0⟩ ⟨by constructor <;> simp, by show m < _; omega, by constructor <;> simp, by show 0 ≤ _; omega⟩ (by show 0 ≤ _; omega) _ _ hall W p hp)
  rw [show evsC [(⟨2, false, m, ⟨#[]⟩, 0⟩ : Ev)] = [.int .i64 2, .bool false, .int .u64 m, .string ⟨#[]⟩, .int .i64 0] from rfl] at HC
  have HPK := Lib.hid (fun W => rpack_int false m (by omega) (fun h => by cases h) W)
  have hsz : (⟨(intPk false m).toArray⟩ : ByteArray).size = 5 := by
    rw [size_of, intPk_is]
    simp only [Bool.false_eq_true, if_false]
    rw [if_neg (by omega), if_neg (by omega), if_neg (by omega), if_pos (by omega)]
  generalize (⟨(intPk false m).toArray⟩ : ByteArray) = Z at *
  have hszi : (Z.size : Int) = 5 := by omega
  have E0 := Lib.hid (blk_new w #[.bool false, .int .u64 m] 54)
  have hq := fun W => ev_eql ⟨2, false, m, ⟨#[]⟩, 0⟩ ⟨2, false, m, ⟨#[]⟩, 0⟩ W
  rw [sameE_refl] at hq
  simp only [evV] at hq
  have t0 : ((m : Int) < 128) = False := by simp only [eq_iff_iff, iff_false]; omega
  have t1 : ((m : Int) < 256) = False := by simp only [eq_iff_iff, iff_false]; omega
  have t2 : ((m : Int) < 65536) = False := by simp only [eq_iff_iff, iff_false]; omega
  have t3 : ((m : Int) < 4294967296) = True := by simp only [eq_iff_iff, iff_true]; omega
  clear hall hsz hm
  go_enter Try.func7, Try.ntmps7
  go_wp2_with fail
  refine (HA.out _).mono ?_
  rintro e w1 ⟨rfl, b1⟩
  have B1 := Lib.hid b1
  have E1 := Lib.hid (E0.out.go b1)
  have c0 : w1.cell? ⟨w.heap.size, 0, none⟩ = some (.bool false) := E1.out.cell 0
  have c1 : w1.cell? ⟨w.heap.size, 1, none⟩ = some (.int .u64 m) := E1.out.cell 1
  clear b1
  go_wp2_with fail
  refine (HC.out _ _ rfl).mono ?_
  rintro e w2 ⟨rfl, b2⟩
  have B2 := Lib.hid (up_trans B1.out b2)
  have E2 := Lib.hid (E0.out.go B2.out)
  have d0 : w2.cell? ⟨w.heap.size, 0, none⟩ = some (.bool false) := E2.out.cell 0
  have d1 : w2.cell? ⟨w.heap.size, 1, none⟩ = some (.int .u64 m) := E2.out.cell 1
  clear b2 c0 c1
  have H3 : Hid (WhI w (w2.alloc (.cells #[.int .u64 256, .int .u64 65536, .int .u64 4294967296] 33)) false m w2.heap.size 256 65536 4294967296) := Lib.hid ⟨E2.out.go (up_alloc (Below.refl _ _) _), blk_new _ _ _, up_trans (up_trans (up_alloc (Below.refl _ _) _) B2.out) (up_alloc (Below.refl _ _) _)⟩
  have e0 : ∀ X, (w2.alloc X).cell? ⟨w.heap.size, 0, none⟩ = some (.bool false) := fun X => (E2.out.alloc X).cell 0
  have e1 : ∀ X, (w2.alloc X).cell? ⟨w.heap.size, 1, none⟩ = some (.int .u64 m) := fun X => (E2.out.alloc X).cell 1
  have f0 : ∀ X X2, ((w2.alloc X).alloc X2).cell? ⟨w.heap.size, 0, none⟩ = some (.bool false) := fun X X2 => ((E2.out.alloc X).alloc X2).cell 0
  have f1 : ∀ X X2, ((w2.alloc X).alloc X2).cell? ⟨w.heap.size, 1, none⟩ = some (.int .u64 m) := fun X X2 => ((E2.out.alloc X).alloc X2).cell 1
  go_wp2_with fail
  clear d0 d1 e0 e1 f0 f1
  generalize (w2.alloc (.cells #[.int .u64 256, .int .u64 65536, .int .u64 4294967296] 33)) = w3 at *
  obtain ⟨⟨x0, x1⟩, s0, s1, s2⟩ := H3.out.cells
  go_quiet (fail)
  have H4 := Lib.hid (H3.out.drewN nq)
  clear x0 x1 s0 s1 s2
  generalize w3.drewN nq = w4 at *
  obtain ⟨⟨x0, x1⟩, s0, s1, s2⟩ := H4.out.cells
  go_wp2_with fail
  go_quiet (fail)
  have H5 := Lib.hid (H4.out.drewN nq)
  clear x0 x1 s0 s1 s2
  generalize w4.drewN nq = w5 at *
  obtain ⟨⟨x0, x1⟩, s0, s1, s2⟩ := H5.out.cells
  go_wp2_with fail
  go_quiet (fail)
  have H6 := Lib.hid (H5.out.drewN nq)
  clear x0 x1 s0 s1 s2
  generalize w5.drewN nq = w6 at *
  obtain ⟨⟨x0, x1⟩, s0, s1, s2⟩ := H6.out.cells
  go_wp2_with fail
  have HK := Lib.hid (HPK.out w6)
  refine HK.out.mono ?_
  rintro e w8 ⟨a, c, rfl, hw8, b8⟩
  have H8 := Lib.hid (H6.out.go b8)
  have H9 := Lib.hid (H8.out.go (up_alloc (Below.refl _ _) (.cells #[.slice a 1 c, .int .i64 0, .bool true, .int .i64 0] 57)))
  have hR9 := blk_new w8 #[.slice a 1 c, .int .i64 0, .bool true, .int .i64 0] 57
  have hV9 := evs_win (hw8.alloc (.cells #[.slice a 1 c, .int .i64 0, .bool true, .int .i64 0] 57)) (n := 1) (Nat.le_refl _)
  obtain ⟨g, off, rfl, hgb, v0, v1, v2, v3, v4⟩ := hV9.cells (by omega : 0 < 1)
  simp only [Nat.zero_mul, Nat.add_zero, getE, List.getElem?_cons_zero, Option.getD_some] at v0 v1 v2 v3 v4
  clear hw8 hgb hV9 x0 x1 s0 s1 s2
  go_wp2_with fail
  have hr0 : (w8.alloc (.cells #[.slice (some ⟨g, off, none⟩) 1 c, .int .i64 0, .bool true, .int .i64 0] 57)).cell? ⟨w8.heap.size, 0, none⟩ = some (.slice (some ⟨g, off, none⟩) 1 c) := hR9.cell 0
  have hr2 : (w8.alloc (.cells #[.slice (some ⟨g, off, none⟩) 1 c, .int .i64 0, .bool true, .int .i64 0] 57)).cell? ⟨w8.heap.size, 2, none⟩ = some (.bool true) := hR9.cell 2
  clear hR9
  generalize (w8.alloc (.cells #[.slice (some ⟨g, off, none⟩) 1 c, .int .i64 0, .bool true, .int .i64 0] 57)) = w9 at *
  obtain ⟨⟨x0, x1⟩, _, _, _⟩ := H9.out.cells
  go_quiet (fail)
  go_wp2
  go_ret
  exact ⟨rfl, below_drN H9.out.bel _⟩
set_option maxRecDepth 100000 in
set_option maxHeartbeats 8000000 in
theorem rwholes_fe (m : Nat) (hm : 4294967296 ≤ m ∧ m < 18446744073709551616) (w : World) :
    Calls Try.prog 7 #[.agg #[.bool false, .int .u64 m]] w fun e w' => e = .returned (.bool true) ∧ Below w.heap.size w w' := by
  have HA := Lib.hid (fun W => ralive_any W)
  have hall := wholes_allP false m
  rw [if_neg (by simp)] at hall
  have HC := Lib.hid (fun W p hp => rall_one_at ⟨2, false, m, ⟨#[]⟩, 0⟩ ⟨by constructor <;> simp, by show m < _; omega, by constructor <;> simp, by show 0 ≤ _; omega⟩ (by show 0 ≤ _; omega) _ _ hall W p hp)
  rw [show evsC [(⟨2, false, m, ⟨#[]⟩, 0⟩ : Ev)] = [.int .i64 2, .bool false, .int .u64 m, .string ⟨#[]⟩, .int .i64 0] from rfl] at HC
  have HPK := Lib.hid (fun W => rpack_int false m (by omega) (fun h => by cases h) W)
  have hsz : (⟨(intPk false m).toArray⟩ : ByteArray).size = 9 := by
    rw [size_of, intPk_is]
    simp only [Bool.false_eq_true, if_false]
    rw [if_neg (by omega), if_neg (by omega), if_neg (by omega), if_neg (by omega)]
  generalize (⟨(intPk false m).toArray⟩ : ByteArray) = Z at *
  have hszi : (Z.size : Int) = 9 := by omega
  have E0 := Lib.hid (blk_new w #[.bool false, .int .u64 m] 54)
  have hq := fun W => ev_eql ⟨2, false, m, ⟨#[]⟩, 0⟩ ⟨2, false, m, ⟨#[]⟩, 0⟩ W
  rw [sameE_refl] at hq
  simp only [evV] at hq
  have t0 : ((m : Int) < 128) = False := by simp only [eq_iff_iff, iff_false]; omega
  have t1 : ((m : Int) < 256) = False := by simp only [eq_iff_iff, iff_false]; omega
  have t2 : ((m : Int) < 65536) = False := by simp only [eq_iff_iff, iff_false]; omega
  have t3 : ((m : Int) < 4294967296) = False := by simp only [eq_iff_iff, iff_false]; omega
  clear hall hsz hm
  go_enter Try.func7, Try.ntmps7
  go_wp2_with fail
  refine (HA.out _).mono ?_
  rintro e w1 ⟨rfl, b1⟩
  have B1 := Lib.hid b1
  have E1 := Lib.hid (E0.out.go b1)
  have c0 : w1.cell? ⟨w.heap.size, 0, none⟩ = some (.bool false) := E1.out.cell 0
  have c1 : w1.cell? ⟨w.heap.size, 1, none⟩ = some (.int .u64 m) := E1.out.cell 1
  clear b1
  go_wp2_with fail
  refine (HC.out _ _ rfl).mono ?_
  rintro e w2 ⟨rfl, b2⟩
  have B2 := Lib.hid (up_trans B1.out b2)
  have E2 := Lib.hid (E0.out.go B2.out)
  have d0 : w2.cell? ⟨w.heap.size, 0, none⟩ = some (.bool false) := E2.out.cell 0
  have d1 : w2.cell? ⟨w.heap.size, 1, none⟩ = some (.int .u64 m) := E2.out.cell 1
  clear b2 c0 c1
  have H3 : Hid (WhI w (w2.alloc (.cells #[.int .u64 256, .int .u64 65536, .int .u64 4294967296] 33)) false m w2.heap.size 256 65536 4294967296) := Lib.hid ⟨E2.out.go (up_alloc (Below.refl _ _) _), blk_new _ _ _, up_trans (up_trans (up_alloc (Below.refl _ _) _) B2.out) (up_alloc (Below.refl _ _) _)⟩
  have e0 : ∀ X, (w2.alloc X).cell? ⟨w.heap.size, 0, none⟩ = some (.bool false) := fun X => (E2.out.alloc X).cell 0
  have e1 : ∀ X, (w2.alloc X).cell? ⟨w.heap.size, 1, none⟩ = some (.int .u64 m) := fun X => (E2.out.alloc X).cell 1
  have f0 : ∀ X X2, ((w2.alloc X).alloc X2).cell? ⟨w.heap.size, 0, none⟩ = some (.bool false) := fun X X2 => ((E2.out.alloc X).alloc X2).cell 0
  have f1 : ∀ X X2, ((w2.alloc X).alloc X2).cell? ⟨w.heap.size, 1, none⟩ = some (.int .u64 m) := fun X X2 => ((E2.out.alloc X).alloc X2).cell 1
  go_wp2_with fail
  clear d0 d1 e0 e1 f0 f1
  generalize (w2.alloc (.cells #[.int .u64 256, .int .u64 65536, .int .u64 4294967296] 33)) = w3 at *
  obtain ⟨⟨x0, x1⟩, s0, s1, s2⟩ := H3.out.cells
  go_quiet (fail)
  have H4 := Lib.hid (H3.out.drewN nq)
  clear x0 x1 s0 s1 s2
  generalize w3.drewN nq = w4 at *
  obtain ⟨⟨x0, x1⟩, s0, s1, s2⟩ := H4.out.cells
  go_wp2_with fail
  go_quiet (fail)
  have H5 := Lib.hid (H4.out.drewN nq)
  clear x0 x1 s0 s1 s2
  generalize w4.drewN nq = w5 at *
  obtain ⟨⟨x0, x1⟩, s0, s1, s2⟩ := H5.out.cells
  go_wp2_with fail
  go_quiet (fail)
  have H6 := Lib.hid (H5.out.drewN nq)
  clear x0 x1 s0 s1 s2
  generalize w5.drewN nq = w6 at *
  obtain ⟨⟨x0, x1⟩, s0, s1, s2⟩ := H6.out.cells
  go_wp2_with fail
  have HK := Lib.hid (HPK.out w6)
  refine HK.out.mono ?_
  rintro e w8 ⟨a, c, rfl, hw8, b8⟩
  have H8 := Lib.hid (H6.out.go b8)
  have H9 := Lib.hid (H8.out.go (up_alloc (Below.refl _ _) (.cells #[.slice a 1 c, .int .i64 0, .bool true, .int .i64 0] 57)))
  have hR9 := blk_new w8 #[.slice a 1 c, .int .i64 0, .bool true, .int .i64 0] 57
  have hV9 := evs_win (hw8.alloc (.cells #[.slice a 1 c, .int .i64 0, .bool true, .int .i64 0] 57)) (n := 1) (Nat.le_refl _)
  obtain ⟨g, off, rfl, hgb, v0, v1, v2, v3, v4⟩ := hV9.cells (by omega : 0 < 1)
  simp only [Nat.zero_mul, Nat.add_zero, getE, List.getElem?_cons_zero, Option.getD_some] at v0 v1 v2 v3 v4
  clear hw8 hgb hV9 x0 x1 s0 s1 s2
  go_wp2_with fail
  have hr0 : (w8.alloc (.cells #[.slice (some ⟨g, off, none⟩) 1 c, .int .i64 0, .bool true, .int .i64 0] 57)).cell? ⟨w8.heap.size, 0, none⟩ = some (.slice (some ⟨g, off, none⟩) 1 c) := hR9.cell 0
  have hr2 : (w8.alloc (.cells #[.slice (some ⟨g, off, none⟩) 1 c, .int .i64 0, .bool true, .int .i64 0] 57)).cell? ⟨w8.heap.size, 2, none⟩ = some (.bool true) := hR9.cell 2
  clear hR9
  generalize (w8.alloc (.cells #[.slice (some ⟨g, off, none⟩) 1 c, .int .i64 0, .bool true, .int .i64 0] 57)) = w9 at *
  obtain ⟨⟨x0, x1⟩, _, _, _⟩ := H9.out.cells
  go_quiet (fail)
  go_wp2
  go_ret
  exact ⟨rfl, below_drN H9.out.bel _⟩
set_option maxRecDepth 100000 in
set_option maxHeartbeats 8000000 in
theorem rwholes_ta (m : Nat) (hm : m < 32) (w : World) :
    Calls Try.prog 7 #[.agg #[.bool true, .int .u64 m]] w fun e w' => e = .returned (.bool true) ∧ Below w.heap.size w w' := by
  have HA := Lib.hid (fun W => ralive_any W)
  have hall := wholes_allP true m
  rw [if_neg (by rintro ⟨_, h⟩; omega)] at hall
  have HC := Lib.hid (fun W p hp => rall_one_at ⟨2, true, m, ⟨#[]⟩, 0⟩ ⟨by constructor <;> simp, by show m < _; omega, by constructor <;> simp, by show 0 ≤ _; omega⟩ (by show 0 ≤ _; omega) _ _ hall W p hp)
  rw [show evsC [(⟨2, true, m, ⟨#[]⟩, 0⟩ : Ev)] = [.int .i64 2, .bool true, .int .u64 m, .string ⟨#[]⟩, .int .i64 0] from rfl] at HC
  have HPK := Lib.hid (fun W => rpack_int true m (by omega) (fun _ => by omega) W)
  have hsz : (⟨(intPk true m).toArray⟩ : ByteArray).size = 1 := by
    rw [size_of, intPk_is]
    simp only [if_true]
    rw [if_pos (by omega)]
  generalize (⟨(intPk true m).toArray⟩ : ByteArray) = Z at *
  have hszi : (Z.size : Int) = 1 := by omega
  have E0 := Lib.hid (blk_new w #[.bool true, .int .u64 m] 54)
  have hq := fun W => ev_eql ⟨2, true, m, ⟨#[]⟩, 0⟩ ⟨2, true, m, ⟨#[]⟩, 0⟩ W
  rw [sameE_refl] at hq
  simp only [evV] at hq
  have t0 : ((m : Int) < 32) = True := by simp only [eq_iff_iff, iff_true]; omega
  have hz : ((9223372036854775808 : Int) ≤ (m : Int)) = False := by simp only [eq_iff_iff, iff_false]; omega
  clear hall hsz hm
  go_enter Try.func7, Try.ntmps7
  go_wp2_with fail
  refine (HA.out _).mono ?_
  rintro e w1 ⟨rfl, b1⟩
  have B1 := Lib.hid b1
  have E1 := Lib.hid (E0.out.go b1)
  have c0 : w1.cell? ⟨w.heap.size, 0, none⟩ = some (.bool true) := E1.out.cell 0
  have c1 : w1.cell? ⟨w.heap.size, 1, none⟩ = some (.int .u64 m) := E1.out.cell 1
  clear b1
  go_wp2_with fail
  refine (HC.out _ _ rfl).mono ?_
  rintro e w2 ⟨rfl, b2⟩
  have B2 := Lib.hid (up_trans B1.out b2)
  have E2 := Lib.hid (E0.out.go B2.out)
  have d0 : w2.cell? ⟨w.heap.size, 0, none⟩ = some (.bool true) := E2.out.cell 0
  have d1 : w2.cell? ⟨w.heap.size, 1, none⟩ = some (.int .u64 m) := E2.out.cell 1
  clear b2 c0 c1
  have H3 : Hid (WhI w ((w2.alloc (.cells #[.int .u64 256, .int .u64 65536, .int .u64 4294967296] 33)).alloc (.cells #[.int .u64 128, .int .u64 32768, .int .u64 2147483648] 33)) true m (w2.heap.size + 1) 128 32768 2147483648) := Lib.hid ⟨E2.out.go (up_alloc (up_alloc (Below.refl _ _) _) _), by
    have hb := blk_new (w2.alloc (.cells #[.int .u64 256, .int .u64 65536, .int .u64 4294967296] 33)) #[.int .u64 128, .int .u64 32768, .int .u64 2147483648] 33
    rwa [show ∀ X, (w2.alloc X).heap.size = w2.heap.size + 1 from fun X => by simp] at hb, up_trans (up_trans (up_alloc (Below.refl _ _) _) B2.out) (up_alloc (up_alloc (Below.refl _ _) _) _)⟩
  have e0 : ∀ X, (w2.alloc X).cell? ⟨w.heap.size, 0, none⟩ = some (.bool true) := fun X => (E2.out.alloc X).cell 0
  have e1 : ∀ X, (w2.alloc X).cell? ⟨w.heap.size, 1, none⟩ = some (.int .u64 m) := fun X => (E2.out.alloc X).cell 1
  have f0 : ∀ X X2, ((w2.alloc X).alloc X2).cell? ⟨w.heap.size, 0, none⟩ = some (.bool true) := fun X X2 => ((E2.out.alloc X).alloc X2).cell 0
  have f1 : ∀ X X2, ((w2.alloc X).alloc X2).cell? ⟨w.heap.size, 1, none⟩ = some (.int .u64 m) := fun X X2 => ((E2.out.alloc X).alloc X2).cell 1
  go_wp2_with fail
  have HK := Lib.hid (HPK.out ((w2.alloc (.cells #[.int .u64 256, .int .u64 65536, .int .u64 4294967296] 33)).alloc (.cells #[.int .u64 128, .int .u64 32768, .int .u64 2147483648] 33)))
  refine HK.out.mono ?_
  rintro e w8 ⟨a, c, rfl, hw8, b8⟩
  have H8 := Lib.hid (H3.out.go b8)
  have H9 := Lib.hid (H8.out.go (up_alloc (Below.refl _ _) (.cells #[.slice a 1 c, .int .i64 0, .bool true, .int .i64 0] 57)))
  have hR9 := blk_new w8 #[.slice a 1 c, .int .i64 0, .bool true, .int .i64 0] 57
  have hV9 := evs_win (hw8.alloc (.cells #[.slice a 1 c, .int .i64 0, .bool true, .int .i64 0] 57)) (n := 1) (Nat.le_refl _)
  obtain ⟨g, off, rfl, hgb, v0, v1, v2, v3, v4⟩ := hV9.cells (by omega : 0 < 1)
  simp only [Nat.zero_mul, Nat.add_zero, getE, List.getElem?_cons_zero, Option.getD_some] at v0 v1 v2 v3 v4
  clear hw8 hgb hV9
  go_wp2_with fail
  have hr0 : (w8.alloc (.cells #[.slice (some ⟨g, off, none⟩) 1 c, .int .i64 0, .bool true, .int .i64 0] 57)).cell? ⟨w8.heap.size, 0, none⟩ = some (.slice (some ⟨g, off, none⟩) 1 c) := hR9.cell 0
  have hr2 : (w8.alloc (.cells #[.slice (some ⟨g, off, none⟩) 1 c, .int .i64 0, .bool true, .int .i64 0] 57)).cell? ⟨w8.heap.size, 2, none⟩ = some (.bool true) := hR9.cell 2
  clear hR9
  generalize (w8.alloc (.cells #[.slice (some ⟨g, off, none⟩) 1 c, .int .i64 0, .bool true, .int .i64 0] 57)) = w9 at *
  obtain ⟨⟨x0, x1⟩, _, _, _⟩ := H9.out.cells
  go_quiet (fail)
  go_wp2
  go_ret
  exact ⟨rfl, below_drN H9.out.bel _⟩
set_option maxRecDepth 100000 in
set_option maxHeartbeats 8000000 in
theorem rwholes_tb (m : Nat) (hm : 32 ≤ m ∧ m < 128) (w : World) :
    Calls Try.prog 7 #[.agg #[.bool true, .int .u64 m]] w fun e w' => e = .returned (.bool true) ∧ Below w.heap.size w w' := by
  have HA := Lib.hid (fun W => ralive_any W)
  have hall := wholes_allP true m
  rw [if_neg (by rintro ⟨_, h⟩; omega)] at hall
  have HC := Lib.hid (fun W p hp => rall_one_at ⟨2, true, m, ⟨#[]⟩, 0⟩ ⟨by constructor <;> simp, by show m < _; omega, by constructor <;> simp, by show 0 ≤ _; omega⟩ (by show 0 ≤ _; omega) _ _ hall W p hp)
  rw [show evsC [(⟨2, true, m, ⟨#[]⟩, 0⟩ : Ev)] = [.int .i64 2, .bool true, .int .u64 m, .string ⟨#[]⟩, .int .i64 0] from rfl] at HC
  have HPK := Lib.hid (fun W => rpack_int true m (by omega) (fun _ => by omega) W)
  have hsz : (⟨(intPk true m).toArray⟩ : ByteArray).size = 2 := by
    rw [size_of, intPk_is]
    simp only [if_true]
    rw [if_neg (by omega), if_pos (by omega)]
  generalize (⟨(intPk true m).toArray⟩ : ByteArray) = Z at *
  have hszi : (Z.size : Int) = 2 := by omega
  have E0 := Lib.hid (blk_new w #[.bool true, .int .u64 m] 54)
  have hq := fun W => ev_eql ⟨2, true, m, ⟨#[]⟩, 0⟩ ⟨2, true, m, ⟨#[]⟩, 0⟩ W
  rw [sameE_refl] at hq
  simp only [evV] at hq
  have t0 : ((m : Int) < 32) = False := by simp only [eq_iff_iff, iff_false]; omega
  have t1 : ((m : Int) < 128) = True := by simp only [eq_iff_iff, iff_true]; omega
  have hz : ((9223372036854775808 : Int) ≤ (m : Int)) = False := by simp only [eq_iff_iff, iff_false]; omega
  clear hall hsz hm
  go_enter Try.func7, Try.ntmps7
  go_wp2_with fail
  refine (HA.out _).mono ?_
  rintro e w1 ⟨rfl, b1⟩
  have B1 := Lib.hid b1
  have E1 := Lib.hid (E0.out.go b1)
  have c0 : w1.cell? ⟨w.heap.size, 0, none⟩ = some (.bool true) := E1.out.cell 0
  have c1 : w1.cell? ⟨w.heap.size, 1, none⟩ = some (.int .u64 m) := E1.out.cell 1
  clear b1
  go_wp2_with fail
  refine (HC.out _ _ rfl).mono ?_
  rintro e w2 ⟨rfl, b2⟩
  have B2 := Lib.hid (up_trans B1.out b2)
  have E2 := Lib.hid (E0.out.go B2.out)
  have d0 : w2.cell? ⟨w.heap.size, 0, none⟩ = some (.bool true) := E2.out.cell 0
  have d1 : w2.cell? ⟨w.heap.size, 1, none⟩ = some (.int .u64 m) := E2.out.cell 1
  clear b2 c0 c1
  have H3 : Hid (WhI w ((w2.alloc (.cells #[.int .u64 256, .int .u64 65536, .int .u64 4294967296] 33)).alloc (.cells #[.int .u64 128, .int .u64 32768, .int .u64 2147483648] 33)) true m (w2.heap.size + 1) 128 32768 2147483648) := Lib.hid ⟨E2.out.go (up_alloc (up_alloc (Below.refl _ _) _) _), by
    have hb := blk_new (w2.alloc (.cells #[.int .u64 256, .int .u64 65536, .int .u64 4294967296] 33)) #[.int .u64 128, .int .u64 32768, .int .u64 2147483648] 33
    rwa [show ∀ X, (w2.alloc X).heap.size = w2.heap.size + 1 from fun X => by simp] at hb, up_trans (up_trans (up_alloc (Below.refl _ _) _) B2.out) (up_alloc (up_alloc (Below.refl _ _) _) _)⟩
  have e0 : ∀ X, (w2.alloc X).cell? ⟨w.heap.size, 0, none⟩ = some (.bool true) := fun X => (E2.out.alloc X).cell 0
  have e1 : ∀ X, (w2.alloc X).cell? ⟨w.heap.size, 1, none⟩ = some (.int .u64 m) := fun X => (E2.out.alloc X).cell 1
  have f0 : ∀ X X2, ((w2.alloc X).alloc X2).cell? ⟨w.heap.size, 0, none⟩ = some (.bool true) := fun X X2 => ((E2.out.alloc X).alloc X2).cell 0
  have f1 : ∀ X X2, ((w2.alloc X).alloc X2).cell? ⟨w.heap.size, 1, none⟩ = some (.int .u64 m) := fun X X2 => ((E2.out.alloc X).alloc X2).cell 1
  go_wp2_with fail
  clear d0 d1 e0 e1 f0 f1
  generalize ((w2.alloc (.cells #[.int .u64 256, .int .u64 65536, .int .u64 4294967296] 33)).alloc (.cells #[.int .u64 128, .int .u64 32768, .int .u64 2147483648] 33)) = w3 at *
  obtain ⟨⟨x0, x1⟩, s0, s1, s2⟩ := H3.out.cells
  go_quiet (fail)
  have H4 := Lib.hid (H3.out.drewN nq)
  clear x0 x1 s0 s1 s2
  generalize w3.drewN nq = w4 at *
  obtain ⟨⟨x0, x1⟩, s0, s1, s2⟩ := H4.out.cells
  go_wp2_with fail
  have HK := Lib.hid (HPK.out w4)
  refine HK.out.mono ?_
  rintro e w8 ⟨a, c, rfl, hw8, b8⟩
  have H8 := Lib.hid (H4.out.go b8)
  have H9 := Lib.hid (H8.out.go (up_alloc (Below.refl _ _) (.cells #[.slice a 1 c, .int .i64 0, .bool true, .int .i64 0] 57)))
  have hR9 := blk_new w8 #[.slice a 1 c, .int .i64 0, .bool true, .int .i64 0] 57
  have hV9 := evs_win (hw8.alloc (.cells #[.slice a 1 c, .int .i64 0, .bool true, .int .i64 0] 57)) (n := 1) (Nat.le_refl _)
  obtain ⟨g, off, rfl, hgb, v0, v1, v2, v3, v4⟩ := hV9.cells (by omega : 0 < 1)
  simp only [Nat.zero_mul, Nat.add_zero, getE, List.getElem?_cons_zero, Option.getD_some] at v0 v1 v2 v3 v4
  clear hw8 hgb hV9 x0 x1 s0 s1 s2
  go_wp2_with fail
  have hr0 : (w8.alloc (.cells #[.slice (some ⟨g, off, none⟩) 1 c, .int .i64 0, .bool true, .int .i64 0] 57)).cell? ⟨w8.heap.size, 0, none⟩ = some (.slice (some ⟨g, off, none⟩) 1 c) := hR9.cell 0
  have hr2 : (w8.alloc (.cells #[.slice (some ⟨g, off, none⟩) 1 c, .int .i64 0, .bool true, .int .i64 0] 57)).cell? ⟨w8.heap.size, 2, none⟩ = some (.bool true) := hR9.cell 2
  clear hR9
  generalize (w8.alloc (.cells #[.slice (some ⟨g, off, none⟩) 1 c, .int .i64 0, .bool true, .int .i64 0] 57)) = w9 at *
  obtain ⟨⟨x0, x1⟩, _, _, _⟩ := H9.out.cells
  go_quiet (fail)
  go_wp2
  go_ret
  exact ⟨rfl, below_drN H9.out.bel _⟩
set_option maxRecDepth 100000 in
set_option maxHeartbeats 8000000 in
theorem rwholes_tc (m : Nat) (hm : 128 ≤ m ∧ m < 32768) (w : World) :
    Calls Try.prog 7 #[.agg #[.bool true, .int .u64 m]] w fun e w' => e = .returned (.bool true) ∧ Below w.heap.size w w' := by
  have HA := Lib.hid (fun W => ralive_any W)
  have hall := wholes_allP true m
  rw [if_neg (by rintro ⟨_, h⟩; omega)] at hall
  have HC := Lib.hid (fun W p hp => rall_one_at ⟨2, true, m, ⟨#[]⟩, 0⟩ ⟨by constructor <;> simp, by show m < _; omega, by constructor <;> simp, by show 0 ≤ _; omega⟩ (by show 0 ≤ _; omega) _ _ hall W p hp)
  rw [show evsC [(⟨2, true, m, ⟨#[]⟩, 0⟩ : Ev)] = [.int .i64 2, .bool true, .int .u64 m, .string ⟨#[]⟩, .int .i64 0] from rfl] at HC
  have HPK := Lib.hid (fun W => rpack_int true m (by omega) (fun _ => by omega) W)
  have hsz : (⟨(intPk true m).toArray⟩ : ByteArray).size = 3 := by
    rw [size_of, intPk_is]
    simp only [if_true]
    rw [if_neg (by omega), if_neg (by omega), if_pos (by omega)]
  generalize (⟨(intPk true m).toArray⟩ : ByteArray) = Z at *
  have hszi : (Z.size : Int) = 3 := by omega
  have E0 := Lib.hid (blk_new w #[.bool true, .int .u64 m] 54)
  have hq := fun W => ev_eql ⟨2, true, m, ⟨#[]⟩, 0⟩ ⟨2, true, m, ⟨#[]⟩, 0⟩ W
  rw [sameE_refl] at hq
  simp only [evV] at hq
  have t0 : ((m : Int) < 32) = False := by simp only [eq_iff_iff, iff_false]; omega
  have t1 : ((m : Int) < 128) = False := by simp only [eq_iff_iff, iff_false]; omega
  have t2 : ((m : Int) < 32768) = True := by simp only [eq_iff_iff, iff_true]; omega
  have hz : ((9223372036854775808 : Int) ≤ (m : Int)) = False := by simp only [eq_iff_iff, iff_false]; omega
  clear hall hsz hm
  go_enter Try.func7, Try.ntmps7
  go_wp2_with fail
  refine (HA.out _).mono ?_
  rintro e w1 ⟨rfl, b1⟩
  have B1 := Lib.hid b1
  have E1 := Lib.hid (E0.out.go b1)
  have c0 : w1.cell? ⟨w.heap.size, 0, none⟩ = some (.bool true) := E1.out.cell 0
  have c1 : w1.cell? ⟨w.heap.size, 1, none⟩ = some (.int .u64 m) := E1.out.cell 1
  clear b1
  go_wp2_with fail
  refine (HC.out _ _ rfl).mono ?_
  rintro e w2 ⟨rfl, b2⟩
  have B2 := Lib.hid (up_trans B1.out b2)
  have E2 := Lib.hid (E0.out.go B2.out)
  have d0 : w2.cell? ⟨w.heap.size, 0, none⟩ = some (.bool true) := E2.out.cell 0
  have d1 : w2.cell? ⟨w.heap.size, 1, none⟩ = some (.int .u64 m) := E2.out.cell 1
  clear b2 c0 c1
  have H3 : Hid (WhI w ((w2.alloc (.cells #[.int .u64 256, .int .u64 65536, .int .u64 4294967296] 33)).alloc (.cells #[.int .u64 128, .int .u64 32768, .int .u64 2147483648] 33)) true m (w2.heap.size + 1) 128 32768 2147483648) := Lib.hid ⟨E2.out.go (up_alloc (up_alloc (Below.refl _ _) _) _), by
    have hb := blk_new (w2.alloc (.cells #[.int .u64 256, .int .u64 65536, .int .u64 4294967296] 33)) #[.int .u64 128, .int .u64 32768, .int .u64 2147483648] 33
    rwa [show ∀ X, (w2.alloc X).heap.size = w2.heap.size + 1 from fun X => by simp] at hb, up_trans (up_trans (up_alloc (Below.refl _ _) _) B2.out) (up_alloc (up_alloc (Below.refl _ _) _) _)⟩
  have e0 : ∀ X, (w2.alloc X).cell? ⟨w.heap.size, 0, none⟩ = some (.bool true) := fun X => (E2.out.alloc X).cell 0
  have e1 : ∀ X, (w2.alloc X).cell? ⟨w.heap.size, 1, none⟩ = some (.int .u64 m) := fun X => (E2.out.alloc X).cell 1
  have f0 : ∀ X X2, ((w2.alloc X).alloc X2).cell? ⟨w.heap.size, 0, none⟩ = some (.bool true) := fun X X2 => ((E2.out.alloc X).alloc X2).cell 0
  have f1 : ∀ X X2, ((w2.alloc X).alloc X2).cell? ⟨w.heap.size, 1, none⟩ = some (.int .u64 m) := fun X X2 => ((E2.out.alloc X).alloc X2).cell 1
  go_wp2_with fail
  clear d0 d1 e0 e1 f0 f1
  generalize ((w2.alloc (.cells #[.int .u64 256, .int .u64 65536, .int .u64 4294967296] 33)).alloc (.cells #[.int .u64 128, .int .u64 32768, .int .u64 2147483648] 33)) = w3 at *
  obtain ⟨⟨x0, x1⟩, s0, s1, s2⟩ := H3.out.cells
  go_quiet (fail)
  have H4 := Lib.hid (H3.out.drewN nq)
  clear x0 x1 s0 s1 s2
  generalize w3.drewN nq = w4 at *
  obtain ⟨⟨x0, x1⟩, s0, s1, s2⟩ := H4.out.cells
  go_wp2_with fail
  go_quiet (fail)
  have H5 := Lib.hid (H4.out.drewN nq)
  clear x0 x1 s0 s1 s2
  generalize w4.drewN nq = w5 at *
  obtain ⟨⟨x0, x1⟩, s0, s1, s2⟩ := H5.out.cells
  go_wp2_with fail
  have HK := Lib.hid (HPK.out w5)
  refine HK.out.mono ?_
  rintro e w8 ⟨a, c, rfl, hw8, b8⟩
  have H8 := Lib.hid (H5.out.go b8)
  have H9 := Lib.hid (H8.out.go (up_alloc (Below.refl _ _) (.cells #[.slice a 1 c, .int .i64 0, .bool true, .int .i64 0] 57)))
  have hR9 := blk_new w8 #[.slice a 1 c, .int .i64 0, .bool true, .int .i64 0] 57
  have hV9 := evs_win (hw8.alloc (.cells #[.slice a 1 c, .int .i64 0, .bool true, .int .i64 0] 57)) (n := 1) (Nat.le_refl _)
  obtain ⟨g, off, rfl, hgb, v0, v1, v2, v3, v4⟩ := hV9.cells (by omega : 0 < 1)
  simp only [Nat.zero_mul, Nat.add_zero, getE, List.getElem?_cons_zero, Option.getD_some] at v0 v1 v2 v3 v4
  clear hw8 hgb hV9 x0 x1 s0 s1 s2
  go_wp2_with fail
  have hr0 : (w8.alloc (.cells #[.slice (some ⟨g, off, none⟩) 1 c, .int .i64 0, .bool true, .int .i64 0] 57)).cell? ⟨w8.heap.size, 0, none⟩ = some (.slice (some ⟨g, off, none⟩) 1 c) := hR9.cell 0
  have hr2 : (w8.alloc (.cells #[.slice (some ⟨g, off, none⟩) 1 c, .int .i64 0, .bool true, .int .i64 0] 57)).cell? ⟨w8.heap.size, 2, none⟩ = some (.bool true) := hR9.cell 2
  clear hR9
  generalize (w8.alloc (.cells #[.slice (some ⟨g, off, none⟩) 1 c, .int .i64 0, .bool true, .int .i64 0] 57)) = w9 at *
  obtain ⟨⟨x0, x1⟩, _, _, _⟩ := H9.out.cells
  go_quiet (fail)
  go_wp2
  go_ret
  exact ⟨rfl, below_drN H9.out.bel _⟩
set_option maxRecDepth 100000 in
set_option maxHeartbeats 8000000 in
theorem rwholes_td (m : Nat) (hm : 32768 ≤ m ∧ m < 2147483648) (w : World) :
    Calls Try.prog 7 #[.agg #[.bool true, .int .u64 m]] w fun e w' => e = .returned (.bool true) ∧ Below w.heap.size w w' := by
  have HA := Lib.hid (fun W => ralive_any W)
  have hall := wholes_allP true m
  rw [if_neg (by rintro ⟨_, h⟩; omega)] at hall
  have HC := Lib.hid (fun W p hp => rall_one_at ⟨2, true, m, ⟨#[]⟩, 0⟩ ⟨by constructor <;> simp, by show m < _; omega, by constructor <;> simp, by show 0 ≤ _; omega⟩ (by show 0 ≤ _; omega) _ _ hall W p hp)
  rw [show evsC [(⟨2, true, m, ⟨#[]⟩, 0⟩ : Ev)] = [.int .i64 2, .bool true, .int .u64 m, .string ⟨#[]⟩, .int .i64 0] from rfl] at HC
  have HPK := Lib.hid (fun W => rpack_int true m (by omega) (fun _ => by omega) W)
  have hsz : (⟨(intPk true m).toArray⟩ : ByteArray).size = 5 := by
    rw [size_of, intPk_is]
    simp only [if_true]
    rw [if_neg (by omega), if_neg (by omega), if_neg (by omega), if_pos (by omega)]
  generalize (⟨(intPk true m).toArray⟩ : ByteArray) = Z at *
  have hszi : (Z.size : Int) = 5 := by omega
  have E0 := Lib.hid (blk_new w #[.bool true, .int .u64 m] 54)
  have hq := fun W => ev_eql ⟨2, true, m, ⟨#[]⟩, 0⟩ ⟨2, true, m, ⟨#[]⟩, 0⟩ W
  rw [sameE_refl] at hq
  simp only [evV] at hq
  have t0 : ((m : Int) < 32) = False := by simp only [eq_iff_iff, iff_false]; omega
  have t1 : ((m : Int) < 128) = False := by simp only [eq_iff_iff, iff_false]; omega
  have t2 : ((m : Int) < 32768) = False := by simp only [eq_iff_iff, iff_false]; omega
  have t3 : ((m : Int) < 2147483648) = True := by simp only [eq_iff_iff, iff_true]; omega
  have hz : ((9223372036854775808 : Int) ≤ (m : Int)) = False := by simp only [eq_iff_iff, iff_false]; omega
  clear hall hsz hm
  go_enter Try.func7, Try.ntmps7
  go_wp2_with fail
  refine (HA.out _).mono ?_
  rintro e w1 ⟨rfl, b1⟩
  have B1 := Lib.hid b1
  have E1 := Lib.hid (E0.out.go b1)
  have c0 : w1.cell? ⟨w.heap.size, 0, none⟩ = some (.bool true) := E1.out.cell 0
  have c1 : w1.cell? ⟨w.heap.size, 1, none⟩ = some (.int .u64 m) := E1.out.cell 1
  clear b1
  go_wp2_with fail
  refine (HC.out _ _ rfl).mono ?_
  rintro e w2 ⟨rfl, b2⟩
  have B2 := Lib.hid (up_trans B1.out b2)
  have E2 := Lib.hid (E0.out.go B2.out)
  have d0 : w2.cell? ⟨w.heap.size, 0, none⟩ = some (.bool true) := E2.out.cell 0
  have d1 : w2.cell? ⟨w.heap.size, 1, none⟩ = some (.int .u64 m) := E2.out.cell 1
  clear b2 c0 c1
  have H3 : Hid (WhI w ((w2.alloc (.cells #[.int .u64 256, .int .u64 65536, .int .u64 4294967296] 33)).alloc (.cells #[.int .u64 128, .int .u64 32768, .int .u64 2147483648] 33)) true m (w2.heap.size + 1) 128 32768 2147483648) := Lib.hid ⟨E2.out.go (up_alloc (up_alloc (Below.refl _ _) _) _), by
    have hb := blk_new (w2.alloc (.cells #[.int .u64 256, .int .u64 65536, .int .u64 4294967296] 33)) #[.int .u64 128, .int .u64 32768, .int .u64 2147483648] 33
    rwa [show ∀ X, (w2.alloc X).heap.size = w2.heap.size + 1 from fun X => by simp] at hb, up_trans (up_trans (up_alloc (Below.refl _ _) _) B2.out) (up_alloc (up_alloc (Below.refl _ _) _) _)⟩
  have e0 : ∀ X, (w2.alloc X).cell? ⟨w.heap.size, 0, none⟩ = some (.bool true) := fun X => (E2.out.alloc X).cell 0
  have e1 : ∀ X, (w2.alloc X).cell? ⟨w.heap.size, 1, none⟩ = some (.int .u64 m) := fun X => (E2.out.alloc X).cell 1
  have f0 : ∀ X X2, ((w2.alloc X).alloc X2).cell? ⟨w.heap.size, 0, none⟩ = some (.bool true) := fun X X2 => ((E2.out.alloc X).alloc X2).cell 0
  have f1 : ∀ X X2, ((w2.alloc X).alloc X2).cell? ⟨w.heap.size, 1, none⟩ = some (.int .u64 m) := fun X X2 => ((E2.out.alloc X).alloc X2).cell 1
  go_wp2_with fail
  clear d0 d1 e0 e1 f0 f1
  generalize ((w2.alloc (.cells #[.int .u64 256, .int .u64 65536, .int .u64 4294967296] 33)).alloc (.cells #[.int .u64 128, .int .u64 32768, .int .u64 2147483648] 33)) = w3 at *
  obtain ⟨⟨x0, x1⟩, s0, s1, s2⟩ := H3.out.cells
  go_quiet (fail)
  have H4 := Lib.hid (H3.out.drewN nq)
  clear x0 x1 s0 s1 s2
  generalize w3.drewN nq = w4 at *
  obtain ⟨⟨x0, x1⟩, s0, s1, s2⟩ := H4.out.cells
  go_wp2_with fail
  go_quiet (fail)
  have H5 := Lib.hid (H4.out.drewN nq)
  clear x0 x1 s0 s1 s2
  generalize w4.drewN nq = w5 at *
  obtain ⟨⟨x0, x1⟩, s0, s1, s2⟩ := H5.out.cells
  go_wp2_with fail
  go_quiet (fail)
  have H6 := Lib.hid (H5.out.drewN nq)
  clear x0 x1 s0 s1 s2
  generalize w5.drewN nq = w6 at *
  obtain ⟨⟨x0, x1⟩, s0, s1, s2⟩ := H6.out.cells
  go_wp2_with fail
  have HK := Lib.hid (HPK.out w6)
  refine HK.out.mono ?_
  rintro e w8 ⟨a, c, rfl, hw8, b8⟩
  have H8 := Lib.hid (H6.out.go b8)
  have H9 := Lib.hid (H8.out.go (up_alloc (Below.refl _ _) (.cells #[.slice a 1 c, .int .i64 0, .bool true, .int .i64 0] 57)))
  have hR9 := blk_new w8 #[.slice a 1 c, .int .i64 0, .bool true, .int .i64 0] 57
  have hV9 := evs_win (hw8.alloc (.cells #[.slice a 1 c, .int .i64 0, .bool true, .int .i64 0] 57)) (n := 1) (Nat.le_refl _)
  obtain ⟨g, off, rfl, hgb, v0, v1, v2, v3, v4⟩ := hV9.cells (by omega : 0 < 1)
  simp only [Nat.zero_mul, Nat.add_zero, getE, List.getElem?_cons_zero, Option.getD_some] at v0 v1 v2 v3 v4
  clear hw8 hgb hV9 x0 x1 s0 s1 s2
  go_wp2_with fail
  have hr0 : (w8.alloc (.cells #[.slice (some ⟨g, off, none⟩) 1 c, .int .i64 0, .bool true, .int .i64 0] 57)).cell? ⟨w8.heap.size, 0, none⟩ = some (.slice (some ⟨g, off, none⟩) 1 c) := hR9.cell 0
  have hr2 : (w8.alloc (.cells #[.slice (some ⟨g, off, none⟩) 1 c, .int .i64 0, .bool true, .int .i64 0] 57)).cell? ⟨w8.heap.size, 2, none⟩ = some (.bool true) := hR9.cell 2
  clear hR9
  generalize (w8.alloc (.cells #[.slice (some ⟨g, off, none⟩) 1 c, .int .i64 0, .bool true, .int .i64 0] 57)) = w9 at *
  obtain ⟨⟨x0, x1⟩, _, _, _⟩ := H9.out.cells
  go_quiet (fail)
  go_wp2
  go_ret
  exact ⟨rfl, below_drN H9.out.bel _⟩
set_option maxRecDepth 100000 in
set_option maxHeartbeats 8000000 in
theorem rwholes_te (m : Nat) (hm : 2147483648 ≤ m ∧ m < 9223372036854775808) (w : World) :
    Calls Try.prog 7 #[.agg #[.bool true, .int .u64 m]] w fun e w' => e = .returned (.bool true) ∧ Below w.heap.size w w' := by
  have HA := Lib.hid (fun W => ralive_any W)
  have hall := wholes_allP true m
  rw [if_neg (by rintro ⟨_, h⟩; omega)] at hall
  have HC := Lib.hid (fun W p hp => rall_one_at ⟨2, true, m, ⟨#[]⟩, 0⟩ ⟨by constructor <;> simp, by show m < _; omega, by constructor <;> simp, by show 0 ≤ _; omega⟩ (by show 0 ≤ _; omega) _ _ hall W p hp)
  rw [show evsC [(⟨2, true, m, ⟨#[]⟩, 0⟩ : Ev)] = [.int .i64 2, .bool true, .int .u64 m, .string ⟨#[]⟩, .int .i64 0] from rfl] at HC
  have HPK := Lib.hid (fun W => rpack_int true m (by omega) (fun _ => by omega) W)
  have hsz : (⟨(intPk true m).toArray⟩ : ByteArray).size = 9 := by
    rw [size_of, intPk_is]
    simp only [if_true]
    rw [if_neg (by omega), if_neg (by omega), if_neg (by omega), if_neg (by omega)]
  generalize (⟨(intPk true m).toArray⟩ : ByteArray) = Z at *
  have hszi : (Z.size : Int) = 9 := by omega
  have E0 := Lib.hid (blk_new w #[.bool true, .int .u64 m] 54)
  have hq := fun W => ev_eql ⟨2, true, m, ⟨#[]⟩, 0⟩ ⟨2, true, m, ⟨#[]⟩, 0⟩ W
  rw [sameE_refl] at hq
  simp only [evV] at hq
  have t0 : ((m : Int) < 32) = False := by simp only [eq_iff_iff, iff_false]; omega
  have t1 : ((m : Int) < 128) = False := by simp only [eq_iff_iff, iff_false]; omega
  have t2 : ((m : Int) < 32768) = False := by simp only [eq_iff_iff, iff_false]; omega
  have t3 : ((m : Int) < 2147483648) = False := by simp only [eq_iff_iff, iff_false]; omega
  have hz : ((9223372036854775808 : Int) ≤ (m : Int)) = False := by simp only [eq_iff_iff, iff_false]; omega
  clear hall hsz hm
  go_enter Try.func7, Try.ntmps7
  go_wp2_with fail
  refine (HA.out _).mono ?_
  rintro e w1 ⟨rfl, b1⟩
  have B1 := Lib.hid b1
  have E1 := Lib.hid (E0.out.go b1)
  have c0 : w1.cell? ⟨w.heap.size, 0, none⟩ = some (.bool true) := E1.out.cell 0
  have c1 : w1.cell? ⟨w.heap.size, 1, none⟩ = some (.int .u64 m) := E1.out.cell 1
  clear b1
  go_wp2_with fail
  refine (HC.out _ _ rfl).mono ?_
  rintro e w2 ⟨rfl, b2⟩
  have B2 := Lib.hid (up_trans B1.out b2)
  have E2 := Lib.hid (E0.out.go B2.out)
  have d0 : w2.cell? ⟨w.heap.size, 0, none⟩ = some (.bool true) := E2.out.cell 0
  have d1 : w2.cell? ⟨w.heap.size, 1, none⟩ = some (.int .u64 m) := E2.out.cell 1
  clear b2 c0 c1
  have H3 : Hid (WhI w ((w2.alloc (.cells #[.int .u64 256, .int .u64 65536, .int .u64 4294967296] 33)).alloc (.cells #[.int .u64 128, .int .u64 32768, .int .u64 2147483648] 33)) true m (w2.heap.size + 1) 128 32768 2147483648) := Lib.hid ⟨E2.out.go (up_alloc (up_alloc (Below.refl _ _) _) _), by
    have hb := blk_new (w2.alloc (.cells #[.int .u64 256, .int .u64 65536, .int .u64 4294967296] 33)) #[.int .u64 128, .int .u64 32768, .int .u64 2147483648] 33
    rwa [show ∀ X, (w2.alloc X).heap.size = w2.heap.size + 1 from fun X => by simp] at hb, up_trans (up_trans (up_alloc (Below.refl _ _) _) B2.out) (up_alloc (up_alloc (Below.refl _ _) _) _)⟩
  have e0 : ∀ X, (w2.alloc X).cell? ⟨w.heap.size, 0, none⟩ = some (.bool true) := fun X => (E2.out.alloc X).cell 0
  have e1 : ∀ X, (w2.alloc X).cell? ⟨w.heap.size, 1, none⟩ = some (.int .u64 m) := fun X => (E2.out.alloc X).cell 1
  have f0 : ∀ X X2, ((w2.alloc X).alloc X2).cell? ⟨w.heap.size, 0, none⟩ = some (.bool true) := fun X X2 => ((E2.out.alloc X).alloc X2).cell 0
  have f1 : ∀ X X2, ((w2.alloc X).alloc X2).cell? ⟨w.heap.size, 1, none⟩ = some (.int .u64 m) := fun X X2 => ((E2.out.alloc X).alloc X2).cell 1
  go_wp2_with fail
  clear d0 d1 e0 e1 f0 f1
  generalize ((w2.alloc (.cells #[.int .u64 256, .int .u64 65536, .int .u64 4294967296] 33)).alloc (.cells #[.int .u64 128, .int .u64 32768, .int .u64 2147483648] 33)) = w3 at *
  obtain ⟨⟨x0, x1⟩, s0, s1, s2⟩ := H3.out.cells
  go_quiet (fail)
  have H4 := Lib.hid (H3.out.drewN nq)
  clear x0 x1 s0 s1 s2
  generalize w3.drewN nq = w4 at *
  obtain ⟨⟨x0, x1⟩, s0, s1, s2⟩ := H4.out.cells
  go_wp2_with fail
  go_quiet (fail)
  have H5 := Lib.hid (H4.out.drewN nq)
  clear x0 x1 s0 s1 s2
  generalize w4.drewN nq = w5 at *
  obtain ⟨⟨x0, x1⟩, s0, s1, s2⟩ := H5.out.cells
  go_wp2_with fail
  go_quiet (fail)
  have H6 := Lib.hid (H5.out.drewN nq)
  clear x0 x1 s0 s1 s2
  generalize w5.drewN nq = w6 at *
  obtain ⟨⟨x0, x1⟩, s0, s1, s2⟩ := H6.out.cells
  go_wp2_with fail
  have HK := Lib.hid (HPK.out w6)
  refine HK.out.mono ?_
  rintro e w8 ⟨a, c, rfl, hw8, b8⟩
  have H8 := Lib.hid (H6.out.go b8)
  have H9 := Lib.hid (H8.out.go (up_alloc (Below.refl _ _) (.cells #[.slice a 1 c, .int .i64 0, .bool true, .int .i64 0] 57)))
  have hR9 := blk_new w8 #[.slice a 1 c, .int .i64 0, .bool true, .int .i64 0] 57
  have hV9 := evs_win (hw8.alloc (.cells #[.slice a 1 c, .int .i64 0, .bool true, .int .i64 0] 57)) (n := 1) (Nat.le_refl _)
  obtain ⟨g, off, rfl, hgb, v0, v1, v2, v3, v4⟩ := hV9.cells (by omega : 0 < 1)
  simp only [Nat.zero_mul, Nat.add_zero, getE, List.getElem?_cons_zero, Option.getD_some] at v0 v1 v2 v3 v4
  clear hw8 hgb hV9 x0 x1 s0 s1 s2
  go_wp2_with fail
  have hr0 : (w8.alloc (.cells #[.slice (some ⟨g, off, none⟩) 1 c, .int .i64 0, .bool true, .int .i64 0] 57)).cell? ⟨w8.heap.size, 0, none⟩ = some (.slice (some ⟨g, off, none⟩) 1 c) := hR9.cell 0
  have hr2 : (w8.alloc (.cells #[.slice (some ⟨g, off, none⟩) 1 c, .int .i64 0, .bool true, .int .i64 0] 57)).cell? ⟨w8.heap.size, 2, none⟩ = some (.bool true) := hR9.cell 2
  clear hR9
  generalize (w8.alloc (.cells #[.slice (some ⟨g, off, none⟩) 1 c, .int .i64 0, .bool true, .int .i64 0] 57)) = w9 at *
  obtain ⟨⟨x0, x1⟩, _, _, _⟩ := H9.out.cells
  go_quiet (fail)
  go_wp2
  go_ret
  exact ⟨rfl, below_drN H9.out.bel _⟩
theorem rwholes_row (y : Bool) (m : Nat) (hm : m < 18446744073709551616) (w : World) :
    Calls Try.prog 7 #[.agg #[.bool y, .int .u64 m]] w fun e w' => e = .returned (.bool true) ∧ Below w.heap.size w w' := by
  cases y with
  | false =>
    by_cases h0 : m < 128
    · exact rwholes_fa m h0 w
    by_cases h1 : m < 256
    · exact rwholes_fb m ⟨by omega, h1⟩ w
    by_cases h2 : m < 65536
    · exact rwholes_fc m ⟨by omega, h2⟩ w
    by_cases h3 : m < 4294967296
    · exact rwholes_fd m ⟨by omega, h3⟩ w
    exact rwholes_fe m ⟨by omega, by omega⟩ w
  | true =>
    by_cases hb : 9223372036854775808 ≤ m
    · exact rwholes_bad m ⟨hb, hm⟩ w
    by_cases h0 : m < 32
    · exact rwholes_ta m h0 w
    by_cases h1 : m < 128
    · exact rwholes_tb m ⟨by omega, h1⟩ w
    by_cases h2 : m < 32768
    · exact rwholes_tc m ⟨by omega, h2⟩ w
    by_cases h3 : m < 2147483648
    · exact rwholes_td m ⟨by omega, h3⟩ w
    exact rwholes_te m ⟨by omega, by omega⟩ w
end Go.Proofs.Ytonjdnahplphhaa
