/-
  LAWS of chapter 6: DecimalBack.
-/
import Derived.Test.YtkaionchipljgaaDoorDecLawsA
namespace Go.Proofs.YtkaionchipljgaaDoor
open Go.RowKit
open Go.Lib
/-- A number that a law got, in a block of its own, behind calls. -/
structure BX (w : World) (m : Bool) (v : Nat) (w' : World) : Prop where
  t : Tab w'
  b : Below w.heap.size w w'
  lt : w.heap.size < w'.heap.size
  c0 : w'.cell? ⟨w.heap.size, 0, none⟩ = some (.bool m)
  c1 : w'.cell? ⟨w.heap.size, 1, none⟩ = some (.int .u64 v)
theorem BX.go {w w1 w2 : World} {m : Bool} {v : Nat} (h : BX w m v w1) (k : Below w1.heap.size w1 w2) : BX w m v w2 :=
  ⟨h.t.below k, h.b.trans (k.mono h.b.size), Nat.lt_of_lt_of_le h.lt k.size, (World.cell?_of_block (w := w1) (a := ⟨w.heap.size, 0, none⟩) (k.block _ h.lt)).trans h.c0, (World.cell?_of_block (w := w1) (a := ⟨w.heap.size, 1, none⟩) (k.block _ h.lt)).trans h.c1⟩
theorem BX.alloc {w w1 : World} {m : Bool} {v : Nat} (h : BX w m v w1) (x : Obj) : BX w m v (w1.alloc x) := h.go ((Below.refl _ _).alloc (Nat.le_refl _) x)
theorem BX.drewN {w w1 : World} {m : Bool} {v : Nat} (h : BX w m v w1) (q : Nat) : BX w m v (w1.drewN q) := h.go (below_drewN (Below.refl _ _) q)
theorem BX.drew {w w1 : World} {m : Bool} {v : Nat} (h : BX w m v w1) : BX w m v w1.drew := h.drewN 1
theorem bx_new {w : World} (m : Bool) (v : Nat) (hT : Tab w) (t : TypeId) : BX w m v (w.alloc (.cells #[.bool m, .int .u64 v] t)) :=
  ⟨hT.alloc _, (Below.refl _ _).alloc (Nat.le_refl _) _, by simp, by rw [World.cell?_alloc_new]; rfl, by rw [World.cell?_alloc_new]; rfl⟩
theorem back_long (m : Bool) (v : Nat) (s : ByteArray) (hs : ¬ s.size ≤ 60) (w : World) (hT : Tab w) :
    Calls Tryd.prog 3 #[.agg #[.bool m, .int .u64 v], .string s] w fun e w' => e = .returned (.bool true) ∧ Below w.heap.size w w' := by
  have hz : ((60 : Int) < (s.size : Int)) = True := by simp; omega
  have BX0 := Lib.hid (bx_new m v hT 24)
  clear hs
  go_enter Tryd.func3, Tryd.ntmps3
  go_wp2_with fail
  refine (alive_any _ BX0.out.t).mono ?_
  rintro e w1 ⟨rfl, b1⟩
  have BX1 := Lib.hid (BX0.out.go b1)
  clear b1
  go_wp2
  go_ret
  exact ⟨rfl, BX1.out.b⟩
set_option maxHeartbeats 2000000 in
theorem back_err (m : Bool) (v : Nat) (X s : ByteArray) (q : Bool) (n f : Nat) (hs : s.size ≤ 60) (hf : f ≠ 0) (w : World) (hT : Tab w)
    (hPP : ∀ w, Tab w → Calls Tryd.prog 11 #[.agg #[.bool m, .int .u64 v]] w fun e w' => e = .returned (.string X) ∧ Below w.heap.size w w')
    (hPB : ∀ w, Calls Tryd.prog 10 #[.string X] w fun r w' => r = .returned (.tuple #[.agg #[.bool m, .int .u64 v], .int .i64 0]) ∧ Below w.heap.size w w')
    (hPS : ∀ w, Calls Tryd.prog 10 #[.string s] w fun r w' => r = .returned (.tuple #[.agg #[.bool q, .int .u64 n], .int .i64 f]) ∧ Below w.heap.size w w') :
    Calls Tryd.prog 3 #[.agg #[.bool m, .int .u64 v], .string s] w fun e w' => e = .returned (.bool true) ∧ Below w.heap.size w w' := by
  have hz : ((60 : Int) < (s.size : Int)) = False := by simp; omega
  have hz2 : ((f : Int) != 0) = true := by simp; omega
  have PP := Lib.hid hPP
  have PB := Lib.hid hPB
  have PS := Lib.hid hPS
  clear hs hf hPP hPB hPS
  have BX0 := Lib.hid (bx_new m v hT 24)
  go_enter Tryd.func3, Tryd.ntmps3
  go_wp2_with fail
  refine (alive_any _ BX0.out.t).mono ?_
  rintro e w1 ⟨rfl, b1⟩
  have BX1 := Lib.hid (BX0.out.go b1)
  have k0 := BX1.out.c0
  have k1 := BX1.out.c1
  clear b1
  go_wp2_with fail
  refine (PP.out _ BX1.out.t).mono ?_
  rintro e w2 ⟨rfl, b2⟩
  have BX2 := Lib.hid (BX1.out.go b2)
  clear b2 k0 k1
  go_wp2_with fail
  refine (PB.out _).mono ?_
  rintro e w3 ⟨rfl, b3⟩
  have BX3 := Lib.hid (BX2.out.go b3)
  have h3 := BX3.out.lt
  have k0 := BX3.out.c0
  have k1 := BX3.out.c1
  clear b3
  go_wp2_with fail
  refine (PS.out _).mono ?_
  rintro e w4 ⟨rfl, b4⟩
  have BX4 := Lib.hid ((BX3.out.alloc (.cells #[.bool m, .int .u64 v] 24)).go b4)
  clear b4 k0 k1 h3
  go_wp2
  go_ret
  exact ⟨rfl, (BX4.out.alloc _).b⟩
set_option maxHeartbeats 2000000 in
theorem back_same (m : Bool) (v : Nat) (X s : ByteArray) (q : Bool) (n : Nat) (hs : s.size ≤ 60) (w : World) (hT : Tab w)
    (hPP : ∀ w, Tab w → Calls Tryd.prog 11 #[.agg #[.bool m, .int .u64 v]] w fun e w' => e = .returned (.string X) ∧ Below w.heap.size w w')
    (hPB : ∀ w, Calls Tryd.prog 10 #[.string X] w fun r w' => r = .returned (.tuple #[.agg #[.bool m, .int .u64 v], .int .i64 0]) ∧ Below w.heap.size w w')
    (hPS : ∀ w, Calls Tryd.prog 10 #[.string s] w fun r w' => r = .returned (.tuple #[.agg #[.bool q, .int .u64 n], .int .i64 0]) ∧ Below w.heap.size w w')
    (hPY : ∀ w, Tab w → Calls Tryd.prog 11 #[.agg #[.bool q, .int .u64 n]] w fun e w' => e = .returned (.string s) ∧ Below w.heap.size w w') :
    Calls Tryd.prog 3 #[.agg #[.bool m, .int .u64 v], .string s] w fun e w' => e = .returned (.bool true) ∧ Below w.heap.size w w' := by
  have hz : ((60 : Int) < (s.size : Int)) = False := by simp; omega
  have hss : (s.toList == s.toList) = true := by simp
  have PY := Lib.hid hPY
  have PP := Lib.hid hPP
  have PB := Lib.hid hPB
  have PS := Lib.hid hPS
  clear hs hPP hPB hPS hPY
  have BX0 := Lib.hid (bx_new m v hT 24)
  go_enter Tryd.func3, Tryd.ntmps3
  go_wp2_with fail
  refine (alive_any _ BX0.out.t).mono ?_
  rintro e w1 ⟨rfl, b1⟩
  have BX1 := Lib.hid (BX0.out.go b1)
  have k0 := BX1.out.c0
  have k1 := BX1.out.c1
  clear b1
  go_wp2_with fail
  refine (PP.out _ BX1.out.t).mono ?_
  rintro e w2 ⟨rfl, b2⟩
  have BX2 := Lib.hid (BX1.out.go b2)
  clear b2 k0 k1
  go_wp2_with fail
  refine (PB.out _).mono ?_
  rintro e w3 ⟨rfl, b3⟩
  have BX3 := Lib.hid (BX2.out.go b3)
  have h3 := BX3.out.lt
  have k0 := BX3.out.c0
  have k1 := BX3.out.c1
  clear b3
  go_wp2_with fail
  refine (PS.out _).mono ?_
  rintro e w4 ⟨rfl, b4⟩
  have BX4 := Lib.hid ((BX3.out.alloc (.cells #[.bool m, .int .u64 v] 24)).go b4)
  clear b4 k0 k1 h3
  go_wp2_with fail
  refine (PY.out _ (BX4.out.alloc _).t).mono ?_
  rintro e w5 ⟨rfl, b5⟩
  have BX5 := Lib.hid ((BX4.out.alloc (.cells #[.bool q, .int .u64 n] 24)).go b5)
  clear b5
  go_wp2
  go_ret
  exact ⟨rfl, BX5.out.b⟩
theorem res5_0 {w w4 w5 : World} {m : Bool} {v : Nat} (_h : BX w m v w4) (b5 : Below (w4.alloc (.cells #[.bool false, .int .u64 0] 24)).heap.size (w4.alloc (.cells #[.bool false, .int .u64 0] 24)) w5) : w5.cell? ⟨w4.heap.size, 0, none⟩ = some (.bool false) := (new_cells b5 0 _ rfl).1
theorem res5_1 {w w4 w5 : World} {m : Bool} {v : Nat} (_h : BX w m v w4) (b5 : Below (w4.alloc (.cells #[.bool false, .int .u64 0] 24)).heap.size (w4.alloc (.cells #[.bool false, .int .u64 0] 24)) w5) : w5.cell? ⟨w4.heap.size, 1, none⟩ = some (.int .u64 0) := (new_cells b5 1 _ rfl).1
set_option maxHeartbeats 2000000 in
theorem back_zero (m : Bool) (v : Nat) (X s : ByteArray) (P : ByteArray) (hs : s.size ≤ 60) (h1 : (P.toList == s.toList) = false) (h2 : (s.toList == [45, 48]) = true) (w : World) (hT : Tab w)
    (hPP : ∀ w, Tab w → Calls Tryd.prog 11 #[.agg #[.bool m, .int .u64 v]] w fun e w' => e = .returned (.string X) ∧ Below w.heap.size w w')
    (hPB : ∀ w, Calls Tryd.prog 10 #[.string X] w fun r w' => r = .returned (.tuple #[.agg #[.bool m, .int .u64 v], .int .i64 0]) ∧ Below w.heap.size w w')
    (hPS : ∀ w, Calls Tryd.prog 10 #[.string s] w fun r w' => r = .returned (.tuple #[.agg #[.bool false, .int .u64 0], .int .i64 0]) ∧ Below w.heap.size w w')
    (hPY : ∀ w, Tab w → Calls Tryd.prog 11 #[.agg #[.bool false, .int .u64 0]] w fun e w' => e = .returned (.string P) ∧ Below w.heap.size w w') :
    Calls Tryd.prog 3 #[.agg #[.bool m, .int .u64 v], .string s] w fun e w' => e = .returned (.bool true) ∧ Below w.heap.size w w' := by
  have hz : ((60 : Int) < (s.size : Int)) = False := by simp; omega
  have PY := Lib.hid hPY
  have PP := Lib.hid hPP
  have PB := Lib.hid hPB
  have PS := Lib.hid hPS
  clear hs hPP hPB hPS hPY
  have BX0 := Lib.hid (bx_new m v hT 24)
  go_enter Tryd.func3, Tryd.ntmps3
  go_wp2_with fail
  refine (alive_any _ BX0.out.t).mono ?_
  rintro e w1 ⟨rfl, b1⟩
  have BX1 := Lib.hid (BX0.out.go b1)
  have k0 := BX1.out.c0
  have k1 := BX1.out.c1
  clear b1
  go_wp2_with fail
  refine (PP.out _ BX1.out.t).mono ?_
  rintro e w2 ⟨rfl, b2⟩
  have BX2 := Lib.hid (BX1.out.go b2)
  clear b2 k0 k1
  go_wp2_with fail
  refine (PB.out _).mono ?_
  rintro e w3 ⟨rfl, b3⟩
  have BX3 := Lib.hid (BX2.out.go b3)
  have h3 := BX3.out.lt
  have k0 := BX3.out.c0
  have k1 := BX3.out.c1
  clear b3
  go_wp2_with fail
  refine (PS.out _).mono ?_
  rintro e w4 ⟨rfl, b4⟩
  have BX4 := Lib.hid ((BX3.out.alloc (.cells #[.bool m, .int .u64 v] 24)).go b4)
  clear b4 k0 k1 h3
  go_wp2_with fail
  refine (PY.out _ (BX4.out.alloc _).t).mono ?_
  rintro e w5 ⟨rfl, b5⟩
  have BX5 := Lib.hid ((BX4.out.alloc (.cells #[.bool false, .int .u64 0] 24)).go b5)
  have j0 := res5_0 BX4.out b5
  have j1 := res5_1 BX4.out b5
  clear b5
  go_wp2
  go_ret
  exact ⟨rfl, BX5.out.b⟩
theorem back_any (m : Bool) (v : Nat) (s : ByteArray) (hv : v < 18446744073709551616) (w : World) (hT : Tab w) :
    Calls Tryd.prog 3 #[.agg #[.bool m, .int .u64 v], .string s] w fun e w' => e = .returned (.bool true) ∧ Below w.heap.size w w' := by
  by_cases hs : s.size ≤ 60
  · have hPP := fun w hT => print_any m v hv w hT
    have hPB := fun w => parse_lit ⟨(printD (m, v)).toArray⟩ w m v 0 (by simpa using parse_print (m, v) hv)
    obtain ⟨⟨q, n⟩, f, hz⟩ : ∃ x, ∃ e, parseD d0 s.data.toList = (x, e) := ⟨_, _, rfl⟩
    have hPS := fun w => parse_lit s w q n f hz
    by_cases hf : f = 0
    · subst hf
      have hn : n < 18446744073709551616 := by
        have := parse_lt s.data.toList d0
        rw [hz] at this
        exact this
      rcases print_parse s.data.toList (q, n) hz with h | ⟨h, h2⟩
      · exact back_same m v _ s q n hs w hT hPP hPB hPS fun w hT => print_lit q n s w hn hT (by rw [h])
      · simp only [Prod.mk.injEq] at h2
        obtain ⟨rfl, rfl⟩ := h2
        refine back_zero m v _ s ⟨#[48]⟩ hs ?_ ?_ w hT hPP hPB hPS fun w hT => print_lit false 0 ⟨#[48]⟩ w (by decide) hT ?_
        · rw [ByteArray.toList_eq, ByteArray.toList_eq, h]
          decide
        · rw [ByteArray.toList_eq, h]
          decide
        · show _ = (⟨(decDigits 0).toArray⟩ : ByteArray)
          rw [decDigits_one (by omega)]
          rfl
    · exact back_err m v _ s q n f hs hf w hT hPP hPB hPS
  · exact back_long m v s hs w hT
end Go.Proofs.YtkaionchipljgaaDoor
