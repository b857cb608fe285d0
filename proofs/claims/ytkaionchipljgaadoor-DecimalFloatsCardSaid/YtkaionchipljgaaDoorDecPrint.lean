/-
  CONTRACT of decimal.Print: a number's digits, a minus ahead of one below 0.
-/
import Derived.Test.YtkaionchipljgaaDoorDecDiv
namespace Go.Proofs.YtkaionchipljgaaDoor
open Go.RowKit
open Go.Lib
theorem run_add64 (x y c : Nat) (hc : c ≤ 1) (w : World) : (callFunc 15 #[.int .u64 x, .int .u64 y, .int .u64 c]).run Tryd.prog w =
      .ok (.value (.tuple #[.int .u64 (((x + y + c) % 18446744073709551616 : Nat) : Int), .int .u64 (((x + y + c) / 18446744073709551616 : Nat) : Int)])) w := Any7.bits_Add64 lays25 x y c hc w
theorem run_sub64 (x y b : Nat) (hb : b ≤ 1) (w : World) : (callFunc 24 #[.int .u64 x, .int .u64 y, .int .u64 b]).run Tryd.prog w =
      .ok (.value (.tuple #[.int .u64 (((x + 18446744073709551616 - y - b) % 18446744073709551616 : Nat) : Int), .int .u64 ((if x < y + b then 1 else 0 : Nat) : Int)])) w := Any7.bits_Sub64 lays26 x y b hb w
theorem below_dr {B : Nat} {w w' : World} (h : Below B w w') (q : Nat) : Below B w (w'.drewN q) := ⟨h.os, h.tape, h.output, h.size, h.block⟩
/-- What stands behind the minus. -/
def negD (t o : Nat) : List UInt8 := (if t = 0 then [] else decDigits t) ++ decDigits o
theorem negD_eq (u : Nat) : negD (u / 10) (u % 10) = decDigits u := by
  unfold negD
  rw [decDigits_one (i := u % 10) (by omega)]
  split
  · rename_i h
    rw [decDigits_one (i := u) (by omega), show u % 10 = u by omega]
    rfl
  · rw [← dec_big (by omega)]
theorem size_of (l : List UInt8) : (⟨l.toArray⟩ : ByteArray).size = l.length := by simp [ByteArray.size]
theorem cat_of (l k : List UInt8) : (⟨l.toArray⟩ : ByteArray) ++ ⟨k.toArray⟩ = ⟨(l ++ k).toArray⟩ := by
  apply ByteArray.ext
  simp
set_option maxHeartbeats 1000000 in
theorem print_pos (u : Nat) (hu : u < 18446744073709551616) (w : World) (hT : Tab w) :
    Calls Tryd.prog 11 #[.agg #[.bool false, .int .u64 u]] w fun e w' => e = .returned (.string ⟨(decDigits u).toArray⟩) ∧ Below w.heap.size w w' := by
  have HT := Lib.hid (hT.alloc (.cells #[.bool false, .int .u64 u] 24))
  have HB := Lib.hid ((Below.refl w.heap.size w).alloc (Nat.le_refl _) (.cells #[.bool false, .int .u64 u] 24))
  go_enter Tryd.func11, Tryd.ntmps11
  go_wp2_with (go_at_call 14; refine (fmt_any u hu _ HT.out).mono ?_; rintro e w' ⟨rfl, hB⟩)
  go_ret
  exact ⟨rfl, HB.out.trans (hB.mono (by simp))⟩
set_option maxHeartbeats 1000000 in
theorem print_neg (u lo hi t o : Nat) (ht : t < 18446744073709551616) (ho : o < 10) (w : World) (hT : Tab w)
    (hA : ∀ W, (callFunc 15 #[.int .u64 u, .int .u64 1, .int .u64 0]).run Tryd.prog W = .ok (.value (.tuple #[.int .u64 lo, .int .u64 hi])) W)
    (hD : ∀ W, Calls Tryd.prog 16 #[.int .u64 hi, .int .u64 lo, .int .u64 10] W fun e w' => e = .returned (.tuple #[.int .u64 t, .int .u64 o]) ∧ ∃ q, w' = W.drewN q) :
    Calls Tryd.prog 11 #[.agg #[.bool true, .int .u64 u]] w fun e w' => e = .returned (.string ⟨(45 :: negD t o).toArray⟩) ∧ Below w.heap.size w w' := by
  have HT := Lib.hid (hT.alloc (.cells #[.bool true, .int .u64 u] 24))
  have HB := Lib.hid ((Below.refl w.heap.size w).alloc (Nat.le_refl _) (.cells #[.bool true, .int .u64 u] 24))
  have HA := Lib.hid hA
  clear hA
  have ld : ∀ n, n < 18446744073709551616 → (⟨(decDigits n).toArray⟩ : ByteArray).size ≤ 20 := fun n h => by
    rw [size_of, decDigits_length]
    exact nDigits_le n (by omega)
  obtain ⟨Y, hY⟩ : ∃ Y : ByteArray, Y = ⟨(decDigits o).toArray⟩ := ⟨_, rfl⟩
  have hYs : Y.size ≤ 20 := by rw [hY]; exact ld o (by omega)
  by_cases h0 : t = 0
  · have hn : negD t o = decDigits o := by unfold negD; rw [if_pos h0]; rfl
    rw [hn]
    subst h0
    have hz : (((0 : Nat) : Int) != 0) = false := rfl
    have hr : (⟨#[45]⟩ : ByteArray) ++ Y = ⟨(45 :: decDigits o).toArray⟩ := by rw [hY]; exact cat_of [45] _
    have HR := Lib.hid hr
    have HY := Lib.hid hY
    clear hr hY hn ld
    go_enter Tryd.func11, Tryd.ntmps11
    go_wp2_with (simp only [HA.out])
    refine (hD _).mono ?_
    rintro e w1 ⟨rfl, q, rfl⟩
    go_wp2_with fail
    refine (fmt_any o (by omega) _ (HT.out.drewN q)).mono ?_
    rintro e w2 ⟨rfl, hB⟩
    rw [← HY.out]
    have HB2 := Lib.hid ((below_dr HB.out q).trans ((hB.mono (by simp)) : Below w.heap.size _ w2))
    clear hB
    go_wp2
    go_ret
    exact ⟨congrArg (fun s => Ending.returned (Value.string s)) HR.out, HB2.out⟩
  · have hn : negD t o = decDigits t ++ decDigits o := by unfold negD; rw [if_neg h0]
    rw [hn]
    have hz : ((t : Int) != 0) = true := by simp; omega
    obtain ⟨X, hX⟩ : ∃ X : ByteArray, X = ⟨(decDigits t).toArray⟩ := ⟨_, rfl⟩
    have hXs : X.size ≤ 20 := by rw [hX]; exact ld t ht
    have hr : (⟨#[45]⟩ : ByteArray) ++ X ++ Y = ⟨(45 :: (decDigits t ++ decDigits o)).toArray⟩ := by
      rw [hX, hY, show (⟨#[45]⟩ : ByteArray) = ⟨[45].toArray⟩ from rfl, cat_of, cat_of]
      rfl
    have hs : ((⟨#[45]⟩ : ByteArray) ++ X).size ≤ 21 := by
      rw [ByteArray.size_append]
      show 1 + X.size ≤ 21
      omega
    obtain ⟨Z, hZ⟩ : ∃ Z : ByteArray, (⟨#[45]⟩ : ByteArray) ++ X = Z := ⟨_, rfl⟩
    rw [hZ] at hr hs
    have HR := Lib.hid hr
    have HX := Lib.hid hX
    have HY := Lib.hid hY
    have HZ := Lib.hid hZ
    clear hr hX hY hZ hn ld
    go_enter Tryd.func11, Tryd.ntmps11
    go_wp2_with (simp only [HA.out])
    refine (hD _).mono ?_
    rintro e w1 ⟨rfl, q, rfl⟩
    go_wp2_with fail
    refine (fmt_any t ht _ (HT.out.drewN q)).mono ?_
    rintro e w2 ⟨rfl, hB⟩
    rw [← HX.out]
    have HT2 := Lib.hid (Tab.below (w := ((w.alloc (.cells #[.bool true, .int .u64 u] 24)).drewN q)) (HT.out.drewN q) hB)
    have HB2 := Lib.hid ((below_dr HB.out q).trans ((hB.mono (by simp)) : Below w.heap.size _ w2))
    clear hB
    go_wp2_with fail
    refine (fmt_any o (by omega) _ HT2.out).mono ?_
    rintro e w3 ⟨rfl, hB⟩
    rw [← HY.out]
    have HB3 := Lib.hid (HB2.out.trans (hB.mono HB2.out.size))
    clear hB
    have hZ := HZ.out
    go_wp2
    go_ret
    exact ⟨congrArg (fun s => Ending.returned (Value.string s)) HR.out, HB3.out⟩
/-- PRINT. -/
theorem print_any (m : Bool) (u : Nat) (hu : u < 18446744073709551616) (w : World) (hT : Tab w) :
    Calls Tryd.prog 11 #[.agg #[.bool m, .int .u64 u]] w fun e w' => e = .returned (.string ⟨(printD (m, u)).toArray⟩) ∧ Below w.heap.size w w' := by
  cases m with
  | false => exact print_pos u hu w hT
  | true =>
    show Calls _ _ _ _ fun e w' => e = .returned (.string ⟨(45 :: decDigits (u + 1)).toArray⟩) ∧ _
    rw [← negD_eq]
    by_cases hm : u = 18446744073709551615
    · subst hm
      refine print_neg 18446744073709551615 0 1 ((18446744073709551615 + 1) / 10) ((18446744073709551615 + 1) % 10) (by decide) (by decide) w hT (fun W => run_add64 18446744073709551615 1 0 (by decide) W) fun W => ?_
      refine (div_big W).mono ?_
      rintro e w' ⟨rfl, rfl⟩
      exact ⟨rfl, 0, rfl⟩
    · refine print_neg u (u + 1) 0 ((u + 1) / 10) ((u + 1) % 10) (by omega) (by omega) w hT (fun W => ?_) fun W => div_small (u + 1) (by omega) W
      have h := run_add64 u 1 0 (by decide) W
      rw [show (u + 1 + 0) % 18446744073709551616 = u + 1 by omega, show (u + 1 + 0) / 18446744073709551616 = 0 by omega] at h
      exact h
end Go.Proofs.YtkaionchipljgaaDoor
