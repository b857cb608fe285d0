/-
  NO PROGRAM NEEDED: base64url as it is told: bits held, how many are in no sign yet; and what is left where all signs were read.
-/
import Derived.Test.YtbnlcacjldnnjaaBasePure
namespace Go.Proofs.Ytbnlcacjldnnjaa
open Go.Lib
/-- Signs of the bits that are held, as long as six are there. -/
def flushP (h : Nat) : Nat → List UInt8 → Nat × List UInt8
  | m, a => if m < 6 then (m, a) else flushP h (m - 6) (a ++ [sgn (h / 2 ^ (m - 6) % 64)])
termination_by m => m
theorem flush_lt (h m : Nat) (a : List UInt8) (hm : m < 6) : flushP h m a = (m, a) := by rw [flushP, if_pos hm]
theorem flush_ge (h m : Nat) (a : List UInt8) (hm : 6 ≤ m) : flushP h m a = flushP h (m - 6) (a ++ [sgn (h / 2 ^ (m - 6) % 64)]) := by rw [flushP, if_neg (by omega)]
def heldP (h : Nat) (b : UInt8) : Nat := h * 256 % 18446744073709551616 + b.toNat
def stepP (s : Nat × Nat × List UInt8) (b : UInt8) : Nat × Nat × List UInt8 := (heldP s.1 b, flushP (heldP s.1 b) (s.2.1 + 8) s.2.2)
def runP (s : Nat × Nat × List UInt8) (l : List UInt8) : Nat × Nat × List UInt8 := l.foldl stepP s
def endP (s : Nat × Nat × List UInt8) : List UInt8 := if 0 < s.2.1 then s.2.2 ++ [sgn (s.1 * 2 ^ (6 - s.2.1) % 64)] else s.2.2
theorem runP_snoc (s : Nat × Nat × List UInt8) (l : List UInt8) (b : UInt8) : runP s (l ++ [b]) = stepP (runP s l) b := by simp [runP]
theorem stepP0 (h : Nat) (a : List UInt8) (b : UInt8) : stepP (h, 0, a) b = (heldP h b, 2, a ++ [sgn (heldP h b / 4 % 64)]) := by
  show (heldP h b, flushP (heldP h b) 8 a) = _
  rw [flush_ge _ _ _ (by decide), flush_lt _ _ _ (by decide)]
theorem stepP2 (h : Nat) (a : List UInt8) (b : UInt8) : stepP (h, 2, a) b = (heldP h b, 4, a ++ [sgn (heldP h b / 16 % 64)]) := by
  show (heldP h b, flushP (heldP h b) 10 a) = _
  rw [flush_ge _ _ _ (by decide), flush_lt _ _ _ (by decide)]
theorem stepP4 (h : Nat) (a : List UInt8) (b : UInt8) : stepP (h, 4, a) b = (heldP h b, 0, a ++ [sgn (heldP h b / 64 % 64)] ++ [sgn (heldP h b / 1 % 64)]) := by
  show (heldP h b, flushP (heldP h b) 12 a) = _
  rw [flush_ge _ _ _ (by decide), flush_ge _ _ _ (by decide), flush_lt _ _ _ (by decide)]
theorem endP_run (l : List UInt8) : ∀ h a, endP (runP (h, 0, a) l) = a ++ putS l := by
  refine three_ind (P := fun l => ∀ h a, endP (runP (h, 0, a) l) = a ++ putS l) ?_ ?_ ?_ ?_ l
  · intro h a
    simp [runP, endP, putS]
  · intro x h a
    have hx := u8_lt x
    have e1 : heldP h x / 4 % 64 = x.toNat / 4 := by unfold heldP; omega
    have e2 : heldP h x * 2 ^ (6 - 2) % 64 = x.toNat % 4 * 16 := by unfold heldP; omega
    simp only [runP, List.foldl, stepP0, endP, putS, e1, e2]
    simp
  · intro x y h a
    have hx := u8_lt x
    have hy := u8_lt y
    have e1 : heldP h x / 4 % 64 = x.toNat / 4 := by unfold heldP; omega
    have e2 : heldP (heldP h x) y / 16 % 64 = x.toNat % 4 * 16 + y.toNat / 16 := by unfold heldP; omega
    have e3 : heldP (heldP h x) y * 2 ^ (6 - 4) % 64 = y.toNat % 16 * 4 := by unfold heldP; omega
    simp only [runP, List.foldl, stepP0, stepP2, endP, putS, e1, e2, e3]
    simp
  · intro x y z r ih h a
    have hx := u8_lt x
    have hy := u8_lt y
    have hz := u8_lt z
    have e1 : heldP h x / 4 % 64 = x.toNat / 4 := by unfold heldP; omega
    have e2 : heldP (heldP h x) y / 16 % 64 = x.toNat % 4 * 16 + y.toNat / 16 := by unfold heldP; omega
    have e3 : heldP (heldP (heldP h x) y) z / 64 % 64 = y.toNat % 16 * 4 + z.toNat / 64 := by unfold heldP; omega
    have e4 : heldP (heldP (heldP h x) y) z / 1 % 64 = z.toNat % 64 := by unfold heldP; omega
    have ih' := ih (heldP (heldP (heldP h x) y) z)
    simp only [runP] at ih'
    simp only [runP, List.foldl, stepP0, stepP2, stepP4, e1, e2, e3, e4, ih', putS]
    simp
/-- How many bits may be left. -/
theorem runP_n (l : List UInt8) : ∀ h n a, n < 6 → (runP (h, n, a) l).2.1 < 6 := by
  induction l with
  | nil => intro h n a hn; exact hn
  | cons b l ih =>
    intro h n a hn
    have hf : ∀ (m : Nat) (x : List UInt8) (k : Nat), m ≤ k → (flushP (heldP h b) m x).1 < 6 := by
      intro m x k
      induction k generalizing m x with
      | zero => intro hm; rw [flush_lt _ _ _ (by omega)]; show m < 6; omega
      | succ k ihk =>
        intro hm
        by_cases h6 : m < 6
        · rw [flush_lt _ _ _ h6]; exact h6
        · rw [flush_ge _ _ _ (by omega)]; exact ihk _ _ (by omega)
    exact ih _ _ _ (hf (n + 8) a (n + 8) (Nat.le_refl _))
/-- Four by four. -/
theorem four_ind {P : List UInt8 → Prop} (h0 : P []) (h1 : ∀ a, P [a]) (h2 : ∀ a b, P [a, b]) (h3 : ∀ a b c, P [a, b, c]) (h4 : ∀ a b c d r, P r → P (a :: b :: c :: d :: r)) : ∀ l, P l
  | [] => h0
  | [a] => h1 a
  | [a, b] => h2 a b
  | [a, b, c] => h3 a b c
  | a :: b :: c :: d :: r => h4 a b c d r (four_ind h0 h1 h2 h3 h4 r)
theorem runU_cons (s : Nat × Nat × List UInt8) (c : UInt8) (t : List UInt8) (z : Nat × Nat × List UInt8) (h : runU s (c :: t) = some z) : ∃ d, d < 64 ∧ c = sgn d ∧ runU (stepU s d) t = some z := by
  rw [runU] at h
  split at h
  · cases h
  · rename_i d hd
    exact ⟨d, (sgn_val _ _ hd).1, (sgn_of c d hd).symm, h⟩
theorem u8_nat (n : Nat) (h : n < 256) : (UInt8.ofNat n).toNat = n := by simp; omega
/-- Signs that were all read, with nothing left, are those of the bytes that they tell. -/
theorem runU_back (l : List UInt8) : ∀ out x n o, runU (0, 0, o) l = some (x, n, out) → n < 6 → x = 0 → ∃ b, out = o ++ b ∧ putS b = l := by
  refine four_ind (P := fun l => ∀ out x n o, runU (0, 0, o) l = some (x, n, out) → n < 6 → x = 0 → ∃ b, out = o ++ b ∧ putS b = l) ?_ ?_ ?_ ?_ ?_ l
  · intro out x n o h _ _
    simp only [runU, Option.some.injEq, Prod.mk.injEq] at h
    exact ⟨[], by simp [h.2.2], rfl⟩
  · intro a out x n o h hn _
    obtain ⟨d, hd, rfl, q1⟩ := runU_cons _ _ _ _ h
    simp only [runU, step0, Option.some.injEq, Prod.mk.injEq] at q1
    omega
  · intro a b out x n o h hn hx
    obtain ⟨d, hd, rfl, q1⟩ := runU_cons _ _ _ _ h
    obtain ⟨e, he, rfl, q2⟩ := runU_cons _ _ _ _ q1
    simp only [runU, step0, step6, Option.some.injEq, Prod.mk.injEq] at q2
    obtain ⟨h1, _, h2⟩ := q2
    refine ⟨[UInt8.ofNat (((0 * 64 + d) * 64 + e) / 16)], h2.symm, ?_⟩
    have e1 : (UInt8.ofNat (((0 * 64 + d) * 64 + e) / 16)).toNat = ((0 * 64 + d) * 64 + e) / 16 := u8_nat _ (by omega)
    rw [putS, e1]
    congr 2
    · omega
    · congr 1
      omega
  · intro a b c out x n o h hn hx
    obtain ⟨d, hd, rfl, q1⟩ := runU_cons _ _ _ _ h
    obtain ⟨e, he, rfl, q2⟩ := runU_cons _ _ _ _ q1
    obtain ⟨f, hf, rfl, q3⟩ := runU_cons _ _ _ _ q2
    simp only [runU, step0, step6, step4, Option.some.injEq, Prod.mk.injEq] at q3
    obtain ⟨h1, _, h2⟩ := q3
    refine ⟨[UInt8.ofNat (((0 * 64 + d) * 64 + e) / 16), UInt8.ofNat ((((0 * 64 + d) * 64 + e) % 16 * 64 + f) / 4)], by rw [← h2]; simp, ?_⟩
    have e1 : (UInt8.ofNat (((0 * 64 + d) * 64 + e) / 16)).toNat = ((0 * 64 + d) * 64 + e) / 16 := u8_nat _ (by omega)
    have e2 : (UInt8.ofNat ((((0 * 64 + d) * 64 + e) % 16 * 64 + f) / 4)).toNat = (((0 * 64 + d) * 64 + e) % 16 * 64 + f) / 4 := u8_nat _ (by omega)
    rw [putS, e1, e2, show ((0 * 64 + d) * 64 + e) / 16 / 4 = d by omega, show ((0 * 64 + d) * 64 + e) / 16 % 4 * 16 + (((0 * 64 + d) * 64 + e) % 16 * 64 + f) / 4 / 16 = e by omega, show (((0 * 64 + d) * 64 + e) % 16 * 64 + f) / 4 % 16 * 4 = f by omega]
  · intro a b c g r ih out x n o h hn hx
    obtain ⟨d, hd, rfl, q1⟩ := runU_cons _ _ _ _ h
    obtain ⟨e, he, rfl, q2⟩ := runU_cons _ _ _ _ q1
    obtain ⟨f, hf, rfl, q3⟩ := runU_cons _ _ _ _ q2
    obtain ⟨k, hk, rfl, q4⟩ := runU_cons _ _ _ _ q3
    simp only [step0, step6, step4, step2] at q4
    obtain ⟨t, ht, hp⟩ := ih _ _ _ _ q4 hn hx
    refine ⟨UInt8.ofNat (((0 * 64 + d) * 64 + e) / 16) :: UInt8.ofNat ((((0 * 64 + d) * 64 + e) % 16 * 64 + f) / 4) :: UInt8.ofNat ((((0 * 64 + d) * 64 + e) % 16 * 64 + f) % 4 * 64 + k) :: t, by rw [ht]; simp, ?_⟩
    have e1 : (UInt8.ofNat (((0 * 64 + d) * 64 + e) / 16)).toNat = ((0 * 64 + d) * 64 + e) / 16 := u8_nat _ (by omega)
    have e2 : (UInt8.ofNat ((((0 * 64 + d) * 64 + e) % 16 * 64 + f) / 4)).toNat = (((0 * 64 + d) * 64 + e) % 16 * 64 + f) / 4 := u8_nat _ (by omega)
    have e3 : (UInt8.ofNat ((((0 * 64 + d) * 64 + e) % 16 * 64 + f) % 4 * 64 + k)).toNat = (((0 * 64 + d) * 64 + e) % 16 * 64 + f) % 4 * 64 + k := u8_nat _ (by omega)
    rw [putS, e1, e2, e3, hp, show ((0 * 64 + d) * 64 + e) / 16 / 4 = d by omega, show ((0 * 64 + d) * 64 + e) / 16 % 4 * 16 + (((0 * 64 + d) * 64 + e) % 16 * 64 + f) / 4 / 16 = e by omega, show (((0 * 64 + d) * 64 + e) % 16 * 64 + f) / 4 % 16 * 4 + ((((0 * 64 + d) * 64 + e) % 16 * 64 + f) % 4 * 64 + k) / 64 = f by omega, show ((((0 * 64 + d) * 64 + e) % 16 * 64 + f) % 4 * 64 + k) % 64 = k by omega]
theorem getS_run (s out : List UInt8) (x n : Nat) (h : runU (0, 0, []) s = some (x, n, out)) : getS s = if 6 ≤ n ∨ x ≠ 0 then none else some out := by
  split
  · rename_i hc
    refine getS_none s fun b hb => ?_
    subst hb
    obtain ⟨y, m, h1⟩ := runU_put b []
    rw [h] at h1
    simp only [Option.some.injEq, Prod.mk.injEq] at h1
    obtain ⟨rfl, rfl, _⟩ := h1
    have key : ∀ l : List UInt8, ∀ o, ∃ y m out, runU (0, 0, o) (putS l) = some (y, m, out) ∧ m < 6 ∧ y = 0 := by
      intro l
      refine three_ind (P := fun l => ∀ o, ∃ y m out, runU (0, 0, o) (putS l) = some (y, m, out) ∧ m < 6 ∧ y = 0) ?_ ?_ ?_ ?_ l
      · intro o
        exact ⟨0, 0, o, rfl, by decide, rfl⟩
      · intro a o
        have ha := u8_lt a
        rw [putS, runU_sgn _ _ (by omega), runU_sgn _ _ (by omega), runU, step0, step6]
        exact ⟨_, _, _, rfl, by decide, by omega⟩
      · intro a b o
        have ha := u8_lt a
        have hb := u8_lt b
        rw [putS, runU_sgn _ _ (by omega), runU_sgn _ _ (by omega), runU_sgn _ _ (by omega), runU, step0, step6, step4]
        exact ⟨_, _, _, rfl, by decide, by omega⟩
      · intro a b c r ih o
        have ha := u8_lt a
        have hb := u8_lt b
        have hc := u8_lt c
        rw [putS, runU_sgn _ _ (by omega), runU_sgn _ _ (by omega), runU_sgn _ _ (by omega), runU_sgn _ _ (by omega), step0, step6, step4, step2]
        exact ih _
    obtain ⟨y, m, o, h2, h3, h4⟩ := key b []
    rw [h2] at h
    simp only [Option.some.injEq, Prod.mk.injEq] at h
    omega
  · rename_i hc
    obtain ⟨b, h1, h2⟩ := runU_back s out x n [] h (by omega) (by omega)
    rw [(getS_some s b).2 h2, h1]
    rfl
/-- What may be held between two signs. -/
theorem stepU_ok (x n d : Nat) (o : List UInt8) (hn : n = 0 ∨ n = 2 ∨ n = 4 ∨ n = 6) (hx : x < 2 ^ n) (hd : d < 64) :
    ((stepU (x, n, o) d).2.1 = 0 ∨ (stepU (x, n, o) d).2.1 = 2 ∨ (stepU (x, n, o) d).2.1 = 4 ∨ (stepU (x, n, o) d).2.1 = 6) ∧ (stepU (x, n, o) d).1 < 2 ^ (stepU (x, n, o) d).2.1 ∧ (stepU (x, n, o) d).2.2.length ≤ o.length + 1 := by
  rcases hn with rfl | rfl | rfl | rfl
  · rw [step0]
    refine ⟨.inr (.inr (.inr rfl)), ?_, by simp⟩
    show x * 64 + d < 64
    have : x < 1 := hx
    omega
  · rw [step2]
    exact ⟨.inl rfl, by show 0 < 1; decide, by simp⟩
  · rw [step4]
    refine ⟨.inr (.inl rfl), ?_, by simp⟩
    show (x * 64 + d) % 4 < 4
    omega
  · rw [step6]
    refine ⟨.inr (.inr (.inl rfl)), ?_, by simp⟩
    show (x * 64 + d) % 16 < 16
    omega
end Go.Proofs.Ytbnlcacjldnnjaa
