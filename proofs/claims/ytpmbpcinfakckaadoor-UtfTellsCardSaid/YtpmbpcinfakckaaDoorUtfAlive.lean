/-
  The first call of each law of chapter 4: alive.
-/
import Derived.Test.YtpmbpcinfakckaaDoorUtfRunes
import Derived.Test.YtpmbpcinfakckaaDoorUtfCheck
namespace Go.Proofs.YtpmbpcinfakckaaDoor
open Go.RowKit
open Go.Lib
theorem put233 (w : World) : Calls Tryd.prog 14 #[.int .i64 233] w fun e w' => e = .returned (.tuple #[.string ⟨#[195, 169]⟩, .bool true]) ∧ w = w' := by
  have h := put_ok 233 (.inl (by omega)) w
  rw [← enc_list 233, enc2 (by omega) (by omega)] at h
  exact h
theorem st1 : stepS st0 195 = some (1, 128, 191) := by decide
theorem st2 : stepS (some (1, 128, 191)) 169 = some (0, 0, 0) := by decide
theorem st3 : stepS (some (0, 0, 0)) 255 = none := by decide
theorem v1 : validD [195, 169] = true := by rw [valid_run]; decide
theorem v2 : validD [237, 160, 128] = false := by rw [valid_run]; decide
theorem step_lit {w : World} {b : Nat} {s s' : Option (Nat × Nat × Nat)} (h : CAt w b s) (x : UInt8) (v : Int) (hv : v = (x.toNat : Nat)) (hs : stepS s x = s') :
    Calls Tryd.prog 11 #[.pointer (some ⟨b, 0, none⟩), .int .u8 v] w fun e w' => e = .returned (.bool s'.isSome) ∧ CAt w' b s' ∧ Step [b] [b] w w' := by
  subst hv hs
  exact step_at h x
theorem step_below {B b : Nat} {w w1 w2 : World} (h : Below B w w1) (hs : Step [b] [b] w1 w2) (hb : B ≤ b) (hB : B ≤ w1.heap.size) : Below B w w2 :=
  h.trans (hs.below (by simpa using hb) hB)
theorem valid_lit (s : ByteArray) (w : World) (hs : s.size ≤ 9223372036854775807) (hT : Tabs w) (q : Bool) (hq : validD s.data.toList = q) :
    Calls Tryd.prog 16 #[.string s] w fun e w' => e = .returned (.bool q) ∧ Below w.heap.size w w' := by
  subst hq
  exact valid_any s w hs hT
set_option maxRecDepth 100000 in
set_option maxHeartbeats 1000000 in
theorem alive_any (w : World) (hT : Tabs w) : Calls Tryd.prog 9 #[] w fun e w' => e = .returned (.bool true) ∧ Below w.heap.size w w' := by
  have hP := Lib.hid (put233)
  have H0 := Lib.hid (cat_new w)
  have HT := Lib.hid hT
  obtain ⟨B, hB⟩ : ∃ B, B = w.heap.size := ⟨_, rfl⟩
  have HB := Lib.hid hB
  have B0 := Lib.hid ((Below.refl w.heap.size w).alloc (Nat.le_refl _) (.cells #[.int .i64 0, .int .u8 0, .int .u8 0, .bool false] 25))
  have hTl := hT.lt
  clear hT
  rw [← hB] at H0 B0 hTl ⊢
  clear hB
  go_enter Tryd.func9, Tryd.ntmps9
  go_wp2_with fail
  refine (hP.out _).mono ?_
  rintro e w' ⟨rfl, rfl⟩
  go_wp2_with fail
  rw [← HB.out]
  refine (step_lit H0.out 195 195 (by decide) st1).mono ?_
  rintro e w1 ⟨rfl, C1, S1⟩
  have B1 := Lib.hid (step_below B0.out S1 (Nat.le_refl _) (by rw [HB.out]; exact B0.out.size))
  have D1 := Lib.hid C1
  clear S1 C1 H0 B0
  go_wp2_with fail
  refine (whole_at D1.out).mono ?_
  rintro e w' ⟨rfl, rfl⟩
  go_wp2_with fail
  refine (step_lit D1.out 169 169 (by decide) st2).mono ?_
  rintro e w2 ⟨rfl, C2, S2⟩
  have B2 := Lib.hid (step_below B1.out S2 (Nat.le_refl _) (by rw [HB.out]; exact B1.out.size))
  have D2 := Lib.hid C2
  clear S2 C2 D1 B1
  go_wp2_with fail
  refine (whole_at D2.out).mono ?_
  rintro e w' ⟨rfl, rfl⟩
  go_wp2_with fail
  refine (step_lit D2.out 255 255 (by decide) st3).mono ?_
  rintro e w3 ⟨rfl, C3, S3⟩
  have B3 := Lib.hid (step_below B2.out S3 (Nat.le_refl _) (by rw [HB.out]; exact B2.out.size))
  have D3 := Lib.hid C3
  clear S3 C3 D2 B2
  go_wp2_with fail
  refine (bad_at D3.out).mono ?_
  rintro e w' ⟨rfl, rfl⟩
  go_wp2_with fail
  have T3 : Hid (Tabs w3) := Lib.hid (HT.out.below B3.out hTl)
  have h3 : B ≤ w3.heap.size := by rw [HB.out]; exact B3.out.size
  refine (valid_lit ⟨#[195, 169]⟩ w3 (by decide) T3.out true v1).mono ?_
  rintro e w4 ⟨rfl, b4⟩
  have B4 := Lib.hid (B3.out.trans (b4.mono h3))
  have T4 := Lib.hid (T3.out.below b4 T3.out.lt)
  have h4 : B ≤ w4.heap.size := by rw [HB.out]; exact B4.out.size
  clear b4
  go_wp2_with fail
  refine (valid_lit ⟨#[237, 160, 128]⟩ w4 (by decide) T4.out false v2).mono ?_
  rintro e w5 ⟨rfl, b5⟩
  have B5 := Lib.hid (B4.out.trans (b5.mono h4))
  clear b5
  go_wp2
  go_ret
  exact ⟨rfl, B5.out⟩
end Go.Proofs.YtpmbpcinfakckaaDoor
