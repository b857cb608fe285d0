/-
  LAWS of chapter 6: the first call (alive).
-/
import Derived.Test.YtkaionchipljgaaDoorDecParse
namespace Go.Proofs.YtkaionchipljgaaDoor
open Go.RowKit
open Go.Lib
theorem parse_lit (s : ByteArray) (w : World) (m : Bool) (v e : Nat) (h : parseD d0 s.data.toList = ((m, v), e)) :
    Calls Tryd.prog 10 #[.string s] w fun r w' => r = .returned (.tuple #[.agg #[.bool m, .int .u64 v], .int .i64 e]) ∧ Below w.heap.size w w' := by
  have := parse_any s w
  rw [h] at this
  exact this
theorem print_lit (m : Bool) (u : Nat) (s : ByteArray) (w : World) (hu : u < 18446744073709551616) (hT : Tab w) (h : s = ⟨(printD (m, u)).toArray⟩) :
    Calls Tryd.prog 11 #[.agg #[.bool m, .int .u64 u]] w fun e w' => e = .returned (.string s) ∧ Below w.heap.size w w' := by
  subst h
  exact print_any m u hu w hT
theorem dstep_lit {w : World} {b o : Nat} {s : Dec} (h : DAt w b o s) (x : Nat) (s' : Dec) (q : Bool) (e : Nat) (hx : stepD s x = (s', q)) (he : errD s' = e) :
    Calls Tryd.prog 12 #[.pointer (some ⟨b, o, none⟩), .int .u8 x] w fun r w' => r = .returned (.tuple #[.bool q, .int .i64 e]) ∧ DPost w b o s' w' := by
  have := dstep_at h x
  rw [hx, he] at this
  exact this
theorem al1 : parseD d0 [45, 49, 56, 52, 52, 54, 55, 52, 52, 48, 55, 51, 55, 48, 57, 53, 53, 49, 54, 49, 54] = ((true, 18446744073709551615), 0) := by decide +kernel
theorem al2 : parseD d0 [49, 56, 52, 52, 54, 55, 52, 52, 48, 55, 51, 55, 48, 57, 53, 53, 49, 54, 49, 54] = ((false, 0), 7) := by decide +kernel
theorem al3 : printD (true, 18446744073709551615) = [45, 49, 56, 52, 52, 54, 55, 52, 52, 48, 55, 51, 55, 48, 57, 53, 53, 49, 54, 49, 54] := by
  have h := print_parse [45, 49, 56, 52, 52, 54, 55, 52, 52, 48, 55, 51, 55, 48, 57, 53, 53, 49, 54, 49, 54] _ al1
  rcases h with h | h
  · exact h
  · exact absurd h.1 (by decide)
theorem dat_new (w : World) (t : TypeId) : DAt (w.alloc (.cells #[.int .i64 0, .int .i64 0, .bool false, .int .u64 0, .int .u64 0] t)) w.heap.size 0 d0 :=
  dat_zero fun j u hj => by
    rw [Nat.zero_add]
    exact res_cells (heap_new w _) j u (by simpa [nmCells] using hj)
set_option maxRecDepth 100000 in
set_option maxHeartbeats 2000000 in
theorem alive_any (w : World) (hT : Tab w) : Calls Tryd.prog 9 #[] w fun e w' => e = .returned (.bool true) ∧ Below w.heap.size w w' := by
  have H1 := Lib.hid (fun W => parse_lit ⟨#[45, 49, 56, 52, 52, 54, 55, 52, 52, 48, 55, 51, 55, 48, 57, 53, 53, 49, 54, 49, 54]⟩ W true 18446744073709551615 0 al1)
  have H2 := Lib.hid (fun W => parse_lit ⟨#[49, 56, 52, 52, 54, 55, 52, 52, 48, 55, 51, 55, 48, 57, 53, 53, 49, 54, 49, 54]⟩ W false 0 7 al2)
  have H3 := Lib.hid (fun W hT => print_lit true 18446744073709551615 ⟨#[45, 49, 56, 52, 52, 54, 55, 52, 52, 48, 55, 51, 55, 48, 57, 53, 53, 49, 54, 49, 54]⟩ W (by decide) hT (by rw [al3]))
  go_enter Tryd.func9, Tryd.ntmps9
  go_wp2_with fail
  refine (H1.out _).mono ?_
  rintro e w1 ⟨rfl, b1⟩
  have T1 := Lib.hid (hT.below b1)
  have B1 := Lib.hid b1
  clear b1
  go_wp2_with fail
  refine (H2.out _).mono ?_
  rintro e w2 ⟨rfl, b2⟩
  obtain ⟨c0, _⟩ := new_cells b2 0 _ rfl
  obtain ⟨c1, _⟩ := new_cells b2 1 _ rfl
  have T2 := Lib.hid ((T1.out.alloc _).below b2)
  have B2 := Lib.hid ((B1.out.alloc B1.out.size _).trans (b2.mono (by have := B1.out.size; simp; omega)))
  have hlt : w1.heap.size < w2.heap.size := by have := b2.size; simp at this; omega
  have hD0 : DAt ((w2.alloc (.cells #[.bool false, .int .u64 0] 24)).alloc (.cells #[.int .i64 0, .int .i64 0, .bool false, .int .u64 0, .int .u64 0] 34)) (w2.heap.size + 1) 0 d0 := by
    have := dat_new (w2.alloc (.cells #[.bool false, .int .u64 0] 24)) 34
    rwa [show (w2.alloc (.cells #[.bool false, .int .u64 0] 24)).heap.size = w2.heap.size + 1 by simp] at this
  have HS1 := Lib.hid (dstep_lit hD0 53 (.num 3 false 5) true 0 rfl rfl)
  clear b2 hD0
  go_wp2_with fail
  refine (HS1.out).mono ?_
  rintro e w3 ⟨rfl, hP3⟩
  have HS2 := Lib.hid (dstep_lit hP3.1 44 (.num 3 false 5) false 0 rfl rfl)
  have HP3 := Lib.hid hP3
  clear hP3
  go_wp2_with fail
  refine (HS2.out).mono ?_
  rintro e w4 ⟨rfl, hP4⟩
  have b4 : Below (w2.alloc (.cells #[.bool false, .int .u64 0] 24)).heap.size ((w2.alloc (.cells #[.bool false, .int .u64 0] 24)).alloc (.cells #[.int .i64 0, .int .i64 0, .bool false, .int .u64 0, .int .u64 0] 34)) w4 :=
    (HP3.out.2.below (by simp) (by simp)).trans (hP4.2.below (by simp) (by have := HP3.out.2.step.size; simp at this ⊢; omega))
  have b5 : Below w2.heap.size w2 w4 := (((Below.refl w2.heap.size w2).alloc (Nat.le_refl _) _).alloc (by simp) _).trans (b4.mono (by simp))
  have c0' : w4.cell? ⟨w1.heap.size, 0, none⟩ = some (.bool true) := (World.cell?_of_block (w := w2) (a := ⟨w1.heap.size, 0, none⟩) (b5.block _ hlt)).trans c0
  have c1' : w4.cell? ⟨w1.heap.size, 1, none⟩ = some (.int .u64 18446744073709551615) := (World.cell?_of_block (w := w2) (a := ⟨w1.heap.size, 1, none⟩) (b5.block _ hlt)).trans c1
  have T4 := Lib.hid (T2.out.below b5)
  have B4 := Lib.hid (B2.out.trans (b5.mono B2.out.size))
  clear hP4 b4 b5 c0 c1 HP3
  go_wp2_with fail
  refine (H3.out _ T4.out).mono ?_
  rintro e w5 ⟨rfl, b5⟩
  have B5 := Lib.hid (B4.out.trans (b5.mono B4.out.size))
  clear b5
  go_wp2
  go_ret
  exact ⟨rfl, B5.out⟩
end Go.Proofs.YtkaionchipljgaaDoor
