/-
  NO PROGRAM NEEDED: numbers as bytes, the highest first; heads (a kind, a number), the shortest ones; their order.
-/
import Derived.Test.YtkclpolgadlbhaaWin
import GoSem.Op.String
namespace Go.Proofs.Ytkclpolgadlbhaa
open Go.Lib
/-- The n last bytes of a number, the highest first. -/
def bigB : Nat → Nat → List UInt8
  | 0, _ => []
  | n + 1, v => UInt8.ofNat (v / 256 ^ n % 256) :: bigB n v
/-- The number that bytes are, behind another one. -/
def valB (a : Nat) : List UInt8 → Nat
  | [] => a
  | b :: t => valB (a * 256 + b.toNat) t
theorem bigB_length (n v : Nat) : (bigB n v).length = n := by
  induction n with
  | zero => rfl
  | succ n ih => simp [bigB, ih]
theorem byte_of (x : Nat) : (UInt8.ofNat (x % 256)).toNat = x % 256 := by simp
theorem byte_lt (b : UInt8) : b.toNat < 256 := b.toNat_lt
theorem valB_append (a : Nat) (l k : List UInt8) : valB a (l ++ k) = valB (valB a l) k := by
  induction l generalizing a with
  | nil => rfl
  | cons b t ih => simp [valB, ih]
theorem valB_eq (a : Nat) (l : List UInt8) : valB a l = a * 256 ^ l.length + valB 0 l := by
  induction l generalizing a with
  | nil => simp [valB]
  | cons b t ih =>
    simp only [valB, List.length_cons]
    rw [ih (a * 256 + b.toNat), ih (0 * 256 + b.toNat), Nat.pow_succ]
    have e1 : (a * 256 + b.toNat) * 256 ^ t.length = a * (256 ^ t.length * 256) + b.toNat * 256 ^ t.length := by
      rw [Nat.add_mul, Nat.mul_assoc, Nat.mul_comm 256]
    rw [e1]
    simp
    omega
theorem valB_lt (l : List UInt8) : valB 0 l < 256 ^ l.length := by
  induction l with
  | nil => simp [valB]
  | cons b t ih =>
    simp only [valB, List.length_cons]
    rw [valB_eq, Nat.pow_succ]
    have hb := byte_lt b
    have : (0 * 256 + b.toNat) * 256 ^ t.length ≤ 255 * 256 ^ t.length := Nat.mul_le_mul_right _ (by omega)
    omega
/-- Bytes of a number are its last ones. -/
theorem valB_big (n v : Nat) : valB 0 (bigB n v) = v % 256 ^ n := by
  induction n with
  | zero => simp [bigB, valB, Nat.mod_one]
  | succ n ih =>
    simp only [bigB, valB]
    rw [valB_eq, ih, bigB_length, byte_of, Nat.pow_succ]
    have h1 : v % (256 ^ n * 256) = v % 256 ^ n + 256 ^ n * (v / 256 ^ n % 256) := Nat.mod_mul
    rw [h1, Nat.mul_comm (256 ^ n)]
    simp
    omega
/-- Bytes that are a number of so many bytes are its bytes. -/
theorem big_valB (l : List UInt8) : bigB l.length (valB 0 l) = l := by
  suffices h : ∀ (l : List UInt8) (a : Nat), bigB l.length (valB a l) = l from h l 0
  intro l
  induction l with
  | nil => intro a; rfl
  | cons b t ih =>
    intro a
    simp only [List.length_cons, bigB, valB, ih]
    congr 1
    rw [valB_eq]
    have hp : 0 < 256 ^ t.length := Nat.pow_pos (by decide)
    have hl := valB_lt t
    rw [Nat.add_comm, Nat.add_mul_div_right _ _ hp, Nat.div_eq_of_lt hl]
    have hb := byte_lt b
    have : (0 + (a * 256 + b.toNat)) % 256 = b.toNat := by omega
    rw [this]
    simp
theorem bigB_add (n m v : Nat) : bigB n (v / 256 ^ m) ++ bigB m v = bigB (n + m) v := by
  induction n with
  | zero => simp [bigB]
  | succ n ih =>
    rw [show n + 1 + m = (n + m) + 1 by omega]
    simp only [bigB, List.cons_append, ih]
    congr 3
    rw [Nat.div_div_eq_div_mul, ← Nat.pow_add, Nat.add_comm m n]
theorem lessh_cons (a b : UInt8) (x y : List UInt8) : Op.bytesLess (a :: x) (b :: y) = true ↔ a.toNat < b.toNat ∨ (a = b ∧ Op.bytesLess x y = true) := by
  rw [Op.bytesLess]
  simp only [Bool.or_eq_true, Bool.and_eq_true, beq_iff_eq, decide_eq_true_eq]
  rfl
theorem lessh_irrefl (x : List UInt8) : ¬ Op.bytesLess x x = true := by
  induction x with
  | nil => simp [Op.bytesLess]
  | cons a t ih =>
    rw [lessh_cons]
    rintro (h | ⟨_, h⟩)
    · omega
    · exact ih h
/-- Bytes of one length go by the numbers that they are. -/
theorem less_val : ∀ x y : List UInt8, x.length = y.length → (Op.bytesLess x y = true ↔ valB 0 x < valB 0 y)
  | [], [], _ => by simp [Op.bytesLess, valB]
  | [], _ :: _, h => by simp at h
  | _ :: _, [], h => by simp at h
  | a :: x, b :: y, h => by
    have hl : x.length = y.length := by simpa using h
    have ih := less_val x y hl
    rw [lessh_cons, ih]
    simp only [valB]
    rw [valB_eq (0 * 256 + a.toNat) x, valB_eq (0 * 256 + b.toNat) y, hl]
    have h1 := valB_lt x
    have h2 := valB_lt y
    rw [hl] at h1
    generalize 256 ^ y.length = p at *
    generalize valB 0 x = u at *
    generalize valB 0 y = v at *
    simp only [Nat.zero_mul, Nat.zero_add]
    constructor
    · rintro (h | ⟨rfl, h⟩)
      · have : (a.toNat + 1) * p ≤ b.toNat * p := Nat.mul_le_mul_right _ h
        rw [Nat.add_mul] at this
        omega
      · omega
    · intro h
      by_cases hab : a.toNat < b.toNat
      · exact .inl hab
      · by_cases he : a.toNat = b.toNat
        · rw [he] at h
          exact .inr ⟨UInt8.toNat.inj he, by omega⟩
        · have : (b.toNat + 1) * p ≤ a.toNat * p := Nat.mul_le_mul_right _ (by omega)
          rw [Nat.add_mul] at this
          omega
/-- How many bytes follow the first one, and what its five lowest bits are. -/
def sizH (v : Nat) : Nat × Nat := if v < 24 then (0, v) else if v < 256 then (1, 24) else if v < 65536 then (2, 25) else if v < 4294967296 then (4, 26) else (8, 27)
/-- The shortest head of a number. -/
def headB (m v : Nat) : List UInt8 := UInt8.ofNat (m * 32 + (sizH v).2) :: bigB (sizH v).1 v
theorem sizH_cases (v : Nat) (hv : v < 18446744073709551616) : v < 24 ∧ sizH v = (0, v) ∨ (24 ≤ v ∧ v < 256) ∧ sizH v = (1, 24) ∨ (256 ≤ v ∧ v < 65536) ∧ sizH v = (2, 25) ∨ (65536 ≤ v ∧ v < 4294967296) ∧ sizH v = (4, 26) ∨ (4294967296 ≤ v ∧ v < 18446744073709551616) ∧ sizH v = (8, 27) := by
  unfold sizH
  by_cases h1 : v < 24
  · exact .inl ⟨h1, by rw [if_pos h1]⟩
  · by_cases h2 : v < 256
    · exact .inr (.inl ⟨by omega, by rw [if_neg h1, if_pos h2]⟩)
    · by_cases h3 : v < 65536
      · exact .inr (.inr (.inl ⟨by omega, by rw [if_neg h1, if_neg h2, if_pos h3]⟩))
      · by_cases h4 : v < 4294967296
        · exact .inr (.inr (.inr (.inl ⟨by omega, by rw [if_neg h1, if_neg h2, if_neg h3, if_pos h4]⟩)))
        · exact .inr (.inr (.inr (.inr ⟨by omega, by rw [if_neg h1, if_neg h2, if_neg h3, if_neg h4]⟩)))
theorem headB_length (m v : Nat) : (headB m v).length = 1 + (sizH v).1 := by
  unfold headB
  rw [List.length_cons, bigB_length]
  omega
theorem sizH_fits (v : Nat) (hv : v < 18446744073709551616) : 1 ≤ (sizH v).1 → v < 256 ^ (sizH v).1 := by
  rcases sizH_cases v hv with ⟨h, e⟩ | ⟨h, e⟩ | ⟨h, e⟩ | ⟨h, e⟩ | ⟨h, e⟩ <;> rw [e] <;> intro _ <;> simp only [] at * <;> omega
theorem sizH_low (v : Nat) (hv : v < 18446744073709551616) : (sizH v).2 < 28 := by
  rcases sizH_cases v hv with ⟨h, e⟩ | ⟨h, e⟩ | ⟨h, e⟩ | ⟨h, e⟩ | ⟨h, e⟩ <;> rw [e] <;> simp only [] <;> omega
/-- Heads of one kind go by their numbers. -/
theorem head_less (m a b : Nat) (hm : m < 8) (ha : a < 18446744073709551616) (hb : b < 18446744073709551616) : Op.bytesLess (headB m a) (headB m b) = true ↔ a < b := by
  have la := sizH_low a ha
  have lb := sizH_low b hb
  have fa := sizH_fits a ha
  have fb := sizH_fits b hb
  have ea : (UInt8.ofNat (m * 32 + (sizH a).2)).toNat = m * 32 + (sizH a).2 := by simp; omega
  have eb : (UInt8.ofNat (m * 32 + (sizH b).2)).toNat = m * 32 + (sizH b).2 := by simp; omega
  unfold headB
  rw [lessh_cons, ea, eb]
  have hbig : (sizH a).1 = (sizH b).1 → 1 ≤ (sizH a).1 → (Op.bytesLess (bigB (sizH a).1 a) (bigB (sizH b).1 b) = true ↔ a < b) := by
    intro h h1
    rw [less_val _ _ (by rw [bigB_length, bigB_length, h]), valB_big, valB_big, Nat.mod_eq_of_lt (fa h1), Nat.mod_eq_of_lt (fb (by omega))]
  have hz : (sizH a).1 = 0 → (sizH b).1 = 0 → ¬ Op.bytesLess (bigB (sizH a).1 a) (bigB (sizH b).1 b) = true := by
    intro h1 h2
    rw [h1, h2]
    simp [bigB, Op.bytesLess]
  have hiff : UInt8.ofNat (m * 32 + (sizH a).2) = UInt8.ofNat (m * 32 + (sizH b).2) ↔ (sizH a).2 = (sizH b).2 := by
    constructor
    · intro h
      have := congrArg UInt8.toNat h
      rw [ea, eb] at this
      omega
    · intro h; rw [h]
  rw [hiff]
  rcases sizH_cases a ha with ⟨h, e⟩ | ⟨h, e⟩ | ⟨h, e⟩ | ⟨h, e⟩ | ⟨h, e⟩ <;> rcases sizH_cases b hb with ⟨h', e'⟩ | ⟨h', e'⟩ | ⟨h', e'⟩ | ⟨h', e'⟩ | ⟨h', e'⟩ <;> rw [e, e'] at hbig hz ⊢
  all_goals first
    | (have hq := hbig rfl (by decide); dsimp only at hq ⊢; first | (rw [hq]; done) | (rw [hq]; omega) | (simp only [hq]; omega) | simp [hq])
    | (have hq := hz rfl rfl; simp only [] at hq ⊢; constructor; (rintro (h | ⟨_, h⟩); omega; exact absurd h hq); (intro h; exact .inl (by omega)))
    | (clear hbig hz; simp only []; constructor; (rintro (h | ⟨h, _⟩) <;> omega); (intro h; exact .inl (by omega)))
    | (clear hbig hz; simp only []; constructor; (rintro (h | ⟨h, _⟩) <;> omega); (intro h; omega))
/-- A Head: behind an error; new; with bytes to come; at its end (the last: open). -/
inductive Hd
  | bad (e : Nat)
  | new
  | mid (m n v : Nat)
  | fin (m v : Nat) (o : Bool)
def stepH : Hd → Nat → Hd
  | .bad e, _ => .bad e
  | .fin _ _ _, _ => .bad 14
  | .new, b => if b % 32 < 24 then .fin (b / 32) (b % 32) false else if b % 32 < 28 then .mid (b / 32) (2 ^ (b % 32 - 24)) 0 else if b % 32 = 31 then .fin (b / 32) 0 true else .bad 2
  | .mid m n v, b => if n = 1 then .fin m (v * 256 + b) false else .mid m (n - 1) (v * 256 + b)
def endH : Hd → Bool
  | .fin _ _ _ => true
  | _ => false
def errH : Hd → Nat
  | .bad e => e
  | _ => 0
def majH : Hd → Nat
  | .mid m _ _ => m
  | .fin m _ _ => m
  | _ => 0
def valH : Hd → Nat
  | .fin _ v _ => v
  | _ => 0
def opnH : Hd → Bool
  | .fin _ _ o => o
  | _ => false
def runH (s : Hd) (l : List UInt8) : Hd := l.foldl (fun s b => stepH s b.toNat) s
theorem runH_cons (s : Hd) (b : UInt8) (l : List UInt8) : runH s (b :: l) = runH (stepH s b.toNat) l := rfl
theorem runH_append (s : Hd) (l k : List UInt8) : runH s (l ++ k) = runH (runH s l) k := by unfold runH; rw [List.foldl_append]
theorem runH_mid (m : Nat) : ∀ (l : List UInt8) (a : Nat), l ≠ [] → runH (.mid m l.length a) l = .fin m (valB a l) false
  | [], _, h => absurd rfl h
  | [b], a, _ => by simp [runH, stepH, valB]
  | b :: c :: t, a, _ => by
    rw [runH_cons, show stepH (.mid m (b :: c :: t).length a) b.toNat = .mid m (c :: t).length (a * 256 + b.toNat) by simp [stepH], runH_mid m (c :: t) _ (by simp)]
    simp only [valB]
/-- On the way there is no end. -/
theorem runH_take (m : Nat) : ∀ (l : List UInt8) (a k : Nat), k < l.length → runH (.mid m l.length a) (l.take k) = .mid m (l.length - k) (valB a (l.take k))
  | [], _, _, h => by simp at h
  | b :: t, a, 0, _ => by simp [runH, valB]
  | b :: t, a, k + 1, h => by
    have ht : k < t.length := by simpa using h
    rw [List.take_succ_cons, runH_cons, show stepH (.mid m (b :: t).length a) b.toNat = .mid m t.length (a * 256 + b.toNat) by simp [stepH]; intro e; subst e; simp at ht, runH_take m t _ k ht]
    simp [valB]
theorem step_first (m l : Nat) (hm : m < 8) (hl : l < 32) : stepH .new (UInt8.ofNat (m * 32 + l)).toNat = if l < 24 then .fin m l false else if l < 28 then .mid m (2 ^ (l - 24)) 0 else if l = 31 then .fin m 0 true else .bad 2 := by
  have e : (UInt8.ofNat (m * 32 + l)).toNat = m * 32 + l := by simp; omega
  rw [e]
  simp only [stepH]
  rw [show (m * 32 + l) % 32 = l by omega, show (m * 32 + l) / 32 = m by omega]
/-- A number in 2 to the k bytes. -/
theorem run_long (m k v : Nat) (hm : m < 8) (hk : k < 4) (hv : v < 256 ^ 2 ^ k) : runH .new (UInt8.ofNat (m * 32 + (24 + k)) :: bigB (2 ^ k) v) = .fin m v false := by
  rw [runH_cons, step_first m (24 + k) hm (by omega), if_neg (by omega), if_pos (by omega), show 24 + k - 24 = k by omega]
  have hp : 0 < 2 ^ k := Nat.pow_pos (by decide)
  have := runH_mid m (bigB (2 ^ k) v) 0 (by intro h; have := congrArg List.length h; rw [bigB_length] at this; simp at this)
  rw [bigB_length] at this
  rw [this, valB_big, Nat.mod_eq_of_lt hv]
theorem run_head (m v : Nat) (hm : m < 8) (hv : v < 18446744073709551616) : runH .new (headB m v) = .fin m v false := by
  unfold headB
  rcases sizH_cases v hv with ⟨h, e⟩ | ⟨h, e⟩ | ⟨h, e⟩ | ⟨h, e⟩ | ⟨h, e⟩ <;> rw [e]
  · simp only [bigB]
    rw [runH_cons, step_first m v hm (by omega), if_pos h]
    rfl
  · exact run_long m 0 v hm (by decide) (by simp; omega)
  · exact run_long m 1 v hm (by decide) (by simp; omega)
  · exact run_long m 2 v hm (by decide) (by simp; omega)
  · exact run_long m 3 v hm (by decide) (by simp; omega)
end Go.Proofs.Ytkclpolgadlbhaa
