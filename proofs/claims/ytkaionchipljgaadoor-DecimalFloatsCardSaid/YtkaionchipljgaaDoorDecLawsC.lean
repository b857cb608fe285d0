/-
  LAWS of chapter 6: DecimalRange.
-/
import Derived.Test.YtkaionchipljgaaDoorDecLawsA
namespace Go.Proofs.YtkaionchipljgaaDoor
open Go.RowKit
open Go.Lib
theorem conv_b1 (x : UInt8) (c : Int) (hc : c = ((x.toNat : Nat) : Int)) (z : ByteArray) (hz : z = ⟨#[x]⟩) : ∀ W : World, (convert 39 9 (.slice (some ⟨W.heap.size, 0, none⟩) 1 1)).run Tryd.prog (W.alloc (.cells #[.int .u8 c] 5)) = .ok (.string z) (W.alloc (.cells #[.int .u8 c] 5)) := by
  subst hc hz
  intro W
  have := conv_row (w := W.alloc (.cells (Lib.byteCells [x]).toArray 5)) (g := W.heap.size) (l := [x]) (heap_new W _) 0 1 1 (by simp)
  exact this
/-- What the law meets of a last digit. -/
structure Rng (S0 : ByteArray) (c : Int) (A Z B C D E : ByteArray) (q1 : Bool) (n1 e1 : Nat) : Prop where
  conv : ∀ W : World, (convert 39 9 (.slice (some ⟨W.heap.size, 0, none⟩) 1 1)).run Tryd.prog (W.alloc (.cells #[.int .u8 c] 5)) = .ok (.string Z) (W.alloc (.cells #[.int .u8 c] 5))
  a : S0 ++ (⟨#[49, 56, 52, 52, 54, 55, 52, 52, 48, 55, 51, 55, 48, 57, 53, 53, 49, 54, 49]⟩ : ByteArray) = A
  b : A ++ Z = B
  c : A ++ (⟨#[48, 48]⟩ : ByteArray) = C
  d : S0 ++ (⟨#[48]⟩ : ByteArray) = D
  e : D ++ Z = E
  sizes : A.size ≤ 20 ∧ Z.size = 1 ∧ D.size ≤ 2
  p1 : parseD d0 B.data.toList = ((q1, n1), e1)
  p2 : (parseD d0 C.data.toList).2 = 7
  p3 : (parseD d0 E.data.toList).2 = 2
set_option maxHeartbeats 2000000 in
theorem range_po {d : Nat} {c : Int} {A Z B C D E : ByteArray} {q1 : Bool} {n1 : Nat} (h : Rng ⟨#[]⟩ c A Z B C D E q1 n1 0) (hd : d ≤ 9) (hl : d ≤ 5) (hc : c = ((48 + d : Nat) : Int)) (w : World) (hT : Tab w) :
    Calls Tryd.prog 7 #[.int .u8 d, .bool false] w fun e w' => e = .returned (.bool true) ∧ Below w.heap.size w w' := by
    obtain ⟨hconv, ha, hb, hc', hd', he, ⟨s1, s2, s3⟩, p1, p2, p3⟩ := h
    have hw : IntKind.u8.wrap (48 + (d : Int)) = c := by rw [wrap_u8_of _ (by omega) (by omega)]; omega
    obtain ⟨⟨q2, n2⟩, e2, z2⟩ : ∃ x, ∃ e, parseD d0 C.data.toList = (x, e) := ⟨_, _, rfl⟩
    obtain ⟨⟨q3, n3⟩, e3, z3⟩ : ∃ x, ∃ e, parseD d0 E.data.toList = (x, e) := ⟨_, _, rfl⟩
    rw [z2] at p2
    rw [z3] at p3
    simp only [] at p2 p3
    subst p2 p3
    have P1 := Lib.hid (fun W => parse_lit B W _ _ _ p1)
    have P2 := Lib.hid (fun W => parse_lit C W _ _ _ z2)
    have P3 := Lib.hid (fun W => parse_lit E W _ _ _ z3)
    have hd9 : ((9 : Int) < (d : Int)) = False := by simp; omega
    have hlast : ((d : Int) ≤ 5) = True := by simp; omega
    clear p1 z2 z3 hd hl hc
    go_enter Tryd.func7, Tryd.ntmps7
    go_wp2_with fail
    refine (alive_any _ hT).mono ?_
    rintro e w1 ⟨rfl, b1⟩
    have B1 := Lib.hid b1
    have hcw := hconv w1
    clear b1
    go_wp2_with fail
    refine (P1.out _).mono ?_
    rintro e w2 ⟨rfl, b2⟩
    have B2 := Lib.hid ((B1.out.alloc B1.out.size _).trans (b2.mono (by have := B1.out.size; simp; omega)))
    clear b2 hcw
    go_wp2_with fail
    refine (P2.out _).mono ?_
    rintro e w3 ⟨rfl, b3⟩
    have B3 := Lib.hid ((B2.out.alloc B2.out.size _).trans (b3.mono (by have := B2.out.size; simp; omega)))
    have hcw := hconv (w3.alloc (.cells #[.bool q2, .int .u64 n2] 24))
    rw [show (w3.alloc (.cells #[.bool q2, .int .u64 n2] 24)).heap.size = w3.heap.size + 1 by simp] at hcw
    clear b3
    go_wp2_with fail
    refine (P3.out _).mono ?_
    rintro e w4 ⟨rfl, b4⟩
    have B4 := Lib.hid (((B3.out.alloc B3.out.size _).alloc (by have := B3.out.size; simp; omega) _).trans (b4.mono (by have := B3.out.size; simp; omega)))
    clear b4 hcw
    go_wp2
    go_ret
    exact ⟨rfl, B4.out.alloc B4.out.size _⟩
set_option maxHeartbeats 2000000 in
theorem range_px {d : Nat} {c : Int} {A Z B C D E : ByteArray} {q1 : Bool} {n1 : Nat} (h : Rng ⟨#[]⟩ c A Z B C D E q1 n1 7) (hd : d ≤ 9) (hl : 5 < d) (hc : c = ((48 + d : Nat) : Int)) (w : World) (hT : Tab w) :
    Calls Tryd.prog 7 #[.int .u8 d, .bool false] w fun e w' => e = .returned (.bool true) ∧ Below w.heap.size w w' := by
    obtain ⟨hconv, ha, hb, hc', hd', he, ⟨s1, s2, s3⟩, p1, p2, p3⟩ := h
    have hw : IntKind.u8.wrap (48 + (d : Int)) = c := by rw [wrap_u8_of _ (by omega) (by omega)]; omega
    obtain ⟨⟨q2, n2⟩, e2, z2⟩ : ∃ x, ∃ e, parseD d0 C.data.toList = (x, e) := ⟨_, _, rfl⟩
    obtain ⟨⟨q3, n3⟩, e3, z3⟩ : ∃ x, ∃ e, parseD d0 E.data.toList = (x, e) := ⟨_, _, rfl⟩
    rw [z2] at p2
    rw [z3] at p3
    simp only [] at p2 p3
    subst p2 p3
    have P1 := Lib.hid (fun W => parse_lit B W _ _ _ p1)
    have P2 := Lib.hid (fun W => parse_lit C W _ _ _ z2)
    have P3 := Lib.hid (fun W => parse_lit E W _ _ _ z3)
    have hd9 : ((9 : Int) < (d : Int)) = False := by simp; omega
    have hlast : ((d : Int) ≤ 5) = False := by simp; omega
    clear p1 z2 z3 hd hl hc
    go_enter Tryd.func7, Tryd.ntmps7
    go_wp2_with fail
    refine (alive_any _ hT).mono ?_
    rintro e w1 ⟨rfl, b1⟩
    have B1 := Lib.hid b1
    have hcw := hconv w1
    clear b1
    go_wp2_with fail
    refine (P1.out _).mono ?_
    rintro e w2 ⟨rfl, b2⟩
    have B2 := Lib.hid ((B1.out.alloc B1.out.size _).trans (b2.mono (by have := B1.out.size; simp; omega)))
    clear b2 hcw
    go_wp2_with fail
    refine (P2.out _).mono ?_
    rintro e w3 ⟨rfl, b3⟩
    have B3 := Lib.hid ((B2.out.alloc B2.out.size _).trans (b3.mono (by have := B2.out.size; simp; omega)))
    have hcw := hconv (w3.alloc (.cells #[.bool q2, .int .u64 n2] 24))
    rw [show (w3.alloc (.cells #[.bool q2, .int .u64 n2] 24)).heap.size = w3.heap.size + 1 by simp] at hcw
    clear b3
    go_wp2_with fail
    refine (P3.out _).mono ?_
    rintro e w4 ⟨rfl, b4⟩
    have B4 := Lib.hid (((B3.out.alloc B3.out.size _).alloc (by have := B3.out.size; simp; omega) _).trans (b4.mono (by have := B3.out.size; simp; omega)))
    clear b4 hcw
    go_wp2
    go_ret
    exact ⟨rfl, B4.out.alloc B4.out.size _⟩
set_option maxHeartbeats 2000000 in
theorem range_no {d : Nat} {c : Int} {A Z B C D E : ByteArray} {q1 : Bool} {n1 : Nat} (h : Rng ⟨#[45]⟩ c A Z B C D E q1 n1 0) (hd : d ≤ 9) (hl : d ≤ 6) (hc : c = ((48 + d : Nat) : Int)) (w : World) (hT : Tab w) :
    Calls Tryd.prog 7 #[.int .u8 d, .bool true] w fun e w' => e = .returned (.bool true) ∧ Below w.heap.size w w' := by
    obtain ⟨hconv, ha, hb, hc', hd', he, ⟨s1, s2, s3⟩, p1, p2, p3⟩ := h
    have hw : IntKind.u8.wrap (48 + (d : Int)) = c := by rw [wrap_u8_of _ (by omega) (by omega)]; omega
    obtain ⟨⟨q2, n2⟩, e2, z2⟩ : ∃ x, ∃ e, parseD d0 C.data.toList = (x, e) := ⟨_, _, rfl⟩
    obtain ⟨⟨q3, n3⟩, e3, z3⟩ : ∃ x, ∃ e, parseD d0 E.data.toList = (x, e) := ⟨_, _, rfl⟩
    rw [z2] at p2
    rw [z3] at p3
    simp only [] at p2 p3
    subst p2 p3
    have P1 := Lib.hid (fun W => parse_lit B W _ _ _ p1)
    have P2 := Lib.hid (fun W => parse_lit C W _ _ _ z2)
    have P3 := Lib.hid (fun W => parse_lit E W _ _ _ z3)
    have hd9 : ((9 : Int) < (d : Int)) = False := by simp; omega
    have hlast : ((d : Int) ≤ 6) = True := by simp; omega
    clear p1 z2 z3 hd hl hc
    go_enter Tryd.func7, Tryd.ntmps7
    go_wp2_with fail
    refine (alive_any _ hT).mono ?_
    rintro e w1 ⟨rfl, b1⟩
    have B1 := Lib.hid b1
    have hcw := hconv w1
    clear b1
    go_wp2_with fail
    refine (P1.out _).mono ?_
    rintro e w2 ⟨rfl, b2⟩
    have B2 := Lib.hid ((B1.out.alloc B1.out.size _).trans (b2.mono (by have := B1.out.size; simp; omega)))
    clear b2 hcw
    go_wp2_with fail
    refine (P2.out _).mono ?_
    rintro e w3 ⟨rfl, b3⟩
    have B3 := Lib.hid ((B2.out.alloc B2.out.size _).trans (b3.mono (by have := B2.out.size; simp; omega)))
    have hcw := hconv (w3.alloc (.cells #[.bool q2, .int .u64 n2] 24))
    rw [show (w3.alloc (.cells #[.bool q2, .int .u64 n2] 24)).heap.size = w3.heap.size + 1 by simp] at hcw
    clear b3
    go_wp2_with fail
    refine (P3.out _).mono ?_
    rintro e w4 ⟨rfl, b4⟩
    have B4 := Lib.hid (((B3.out.alloc B3.out.size _).alloc (by have := B3.out.size; simp; omega) _).trans (b4.mono (by have := B3.out.size; simp; omega)))
    clear b4 hcw
    go_wp2
    go_ret
    exact ⟨rfl, B4.out.alloc B4.out.size _⟩
set_option maxHeartbeats 2000000 in
theorem range_nx {d : Nat} {c : Int} {A Z B C D E : ByteArray} {q1 : Bool} {n1 : Nat} (h : Rng ⟨#[45]⟩ c A Z B C D E q1 n1 7) (hd : d ≤ 9) (hl : 6 < d) (hc : c = ((48 + d : Nat) : Int)) (w : World) (hT : Tab w) :
    Calls Tryd.prog 7 #[.int .u8 d, .bool true] w fun e w' => e = .returned (.bool true) ∧ Below w.heap.size w w' := by
    obtain ⟨hconv, ha, hb, hc', hd', he, ⟨s1, s2, s3⟩, p1, p2, p3⟩ := h
    have hw : IntKind.u8.wrap (48 + (d : Int)) = c := by rw [wrap_u8_of _ (by omega) (by omega)]; omega
    obtain ⟨⟨q2, n2⟩, e2, z2⟩ : ∃ x, ∃ e, parseD d0 C.data.toList = (x, e) := ⟨_, _, rfl⟩
    obtain ⟨⟨q3, n3⟩, e3, z3⟩ : ∃ x, ∃ e, parseD d0 E.data.toList = (x, e) := ⟨_, _, rfl⟩
    rw [z2] at p2
    rw [z3] at p3
    simp only [] at p2 p3
    subst p2 p3
    have P1 := Lib.hid (fun W => parse_lit B W _ _ _ p1)
    have P2 := Lib.hid (fun W => parse_lit C W _ _ _ z2)
    have P3 := Lib.hid (fun W => parse_lit E W _ _ _ z3)
    have hd9 : ((9 : Int) < (d : Int)) = False := by simp; omega
    have hlast : ((d : Int) ≤ 6) = False := by simp; omega
    clear p1 z2 z3 hd hl hc
    go_enter Tryd.func7, Tryd.ntmps7
    go_wp2_with fail
    refine (alive_any _ hT).mono ?_
    rintro e w1 ⟨rfl, b1⟩
    have B1 := Lib.hid b1
    have hcw := hconv w1
    clear b1
    go_wp2_with fail
    refine (P1.out _).mono ?_
    rintro e w2 ⟨rfl, b2⟩
    have B2 := Lib.hid ((B1.out.alloc B1.out.size _).trans (b2.mono (by have := B1.out.size; simp; omega)))
    clear b2 hcw
    go_wp2_with fail
    refine (P2.out _).mono ?_
    rintro e w3 ⟨rfl, b3⟩
    have B3 := Lib.hid ((B2.out.alloc B2.out.size _).trans (b3.mono (by have := B2.out.size; simp; omega)))
    have hcw := hconv (w3.alloc (.cells #[.bool q2, .int .u64 n2] 24))
    rw [show (w3.alloc (.cells #[.bool q2, .int .u64 n2] 24)).heap.size = w3.heap.size + 1 by simp] at hcw
    clear b3
    go_wp2_with fail
    refine (P3.out _).mono ?_
    rintro e w4 ⟨rfl, b4⟩
    have B4 := Lib.hid (((B3.out.alloc B3.out.size _).alloc (by have := B3.out.size; simp; omega) _).trans (b4.mono (by have := B3.out.size; simp; omega)))
    clear b4 hcw
    go_wp2
    go_ret
    exact ⟨rfl, B4.out.alloc B4.out.size _⟩
def topL : List UInt8 := [49, 56, 52, 52, 54, 55, 52, 52, 48, 55, 51, 55, 48, 57, 53, 53, 49, 54, 49]
theorem rp : ∀ d : Fin 10, parseD d0 (topL ++ [UInt8.ofNat (48 + d.val)]) = (if d.val ≤ 5 then ((false, 18446744073709551610 + d.val), 0) else ((false, 0), 7)) := by decide +kernel
theorem rn : ∀ d : Fin 10, parseD d0 (45 :: (topL ++ [UInt8.ofNat (48 + d.val)])) = (if d.val ≤ 6 then ((true, 18446744073709551609 + d.val), 0) else ((false, 0), 7)) := by decide +kernel
theorem rp2 : (parseD d0 (topL ++ [48, 48])).2 = 7 := by decide +kernel
theorem rn2 : (parseD d0 (45 :: (topL ++ [48, 48]))).2 = 7 := by decide +kernel
theorem rp3 : ∀ d : Fin 10, (parseD d0 [48, UInt8.ofNat (48 + d.val)]).2 = 2 := by decide +kernel
theorem rn3 : ∀ d : Fin 10, (parseD d0 [45, 48, UInt8.ofNat (48 + d.val)]).2 = 2 := by decide +kernel
theorem rng_pos (d : Nat) (hd : d < 10) (q : Bool) (n e : Nat) (h : parseD d0 (topL ++ [UInt8.ofNat (48 + d)]) = ((q, n), e)) :
    Rng ⟨#[]⟩ ((48 + d : Nat) : Int) ⟨topL.toArray⟩ ⟨[UInt8.ofNat (48 + d)].toArray⟩ ⟨(topL ++ [UInt8.ofNat (48 + d)]).toArray⟩ ⟨(topL ++ [48, 48]).toArray⟩ ⟨[48].toArray⟩ ⟨[48, UInt8.ofNat (48 + d)].toArray⟩ q n e :=
  ⟨conv_b1 (UInt8.ofNat (48 + d)) _ (by rw [dig_toNat d hd]) _ rfl, cat_of [] topL, cat_of _ _, cat_of topL [48, 48], cat_of [] [48], cat_of [48] _, ⟨by decide, by rw [size_of]; rfl, by decide⟩, by simpa using h, by simpa using rp2, by simpa using rp3 ⟨d, hd⟩⟩
theorem rng_neg (d : Nat) (hd : d < 10) (q : Bool) (n e : Nat) (h : parseD d0 (45 :: (topL ++ [UInt8.ofNat (48 + d)])) = ((q, n), e)) :
    Rng ⟨#[45]⟩ ((48 + d : Nat) : Int) ⟨(45 :: topL).toArray⟩ ⟨[UInt8.ofNat (48 + d)].toArray⟩ ⟨(45 :: (topL ++ [UInt8.ofNat (48 + d)])).toArray⟩ ⟨(45 :: (topL ++ [48, 48])).toArray⟩ ⟨[45, 48].toArray⟩ ⟨[45, 48, UInt8.ofNat (48 + d)].toArray⟩ q n e :=
  ⟨conv_b1 (UInt8.ofNat (48 + d)) _ (by rw [dig_toNat d hd]) _ rfl, cat_of [45] topL, cat_of _ _, cat_of (45 :: topL) [48, 48], cat_of [45] [48], cat_of [45, 48] _, ⟨by decide, by rw [size_of]; rfl, by decide⟩, by simpa using h, by simpa using rn2, by simpa using rn3 ⟨d, hd⟩⟩
theorem range_any (d : Int) (neg : Bool) (h0 : 0 ≤ d ∧ d ≤ 255) (w : World) (hT : Tab w) :
    Calls Tryd.prog 7 #[.int .u8 d, .bool neg] w fun e w' => e = .returned (.bool true) ∧ Below w.heap.size w w' := by
  by_cases h9 : 9 < d
  · have hz : ((9 : Int) < d) = True := by simp; omega
    clear h9 h0
    go_enter Tryd.func7, Tryd.ntmps7
    go_wp2_with fail
    refine (alive_any _ hT).mono ?_
    rintro e w1 ⟨rfl, b1⟩
    go_wp2
    go_ret
    exact ⟨rfl, b1⟩
  · obtain ⟨d, rfl⟩ : ∃ n : Nat, d = n := ⟨d.toNat, by omega⟩
    have hd : d < 10 := by omega
    cases neg with
    | false =>
      have h := rp ⟨d, hd⟩
      simp only [] at h
      by_cases h5 : d ≤ 5
      · rw [if_pos h5] at h
        exact range_po (rng_pos d hd _ _ _ h) (by omega) h5 rfl w hT
      · rw [if_neg h5] at h
        exact range_px (rng_pos d hd _ _ _ h) (by omega) (by omega) rfl w hT
    | true =>
      have h := rn ⟨d, hd⟩
      simp only [] at h
      by_cases h6 : d ≤ 6
      · rw [if_pos h6] at h
        exact range_no (rng_neg d hd _ _ _ h) (by omega) h6 rfl w hT
      · rw [if_neg h6] at h
        exact range_nx (rng_neg d hd _ _ _ h) (by omega) (by omega) rfl w hT
end Go.Proofs.YtkaionchipljgaaDoor
