/-
  LAWS of chapter 7: what HeadTells reckons beside a Head (no program but three quiet contracts).
-/
import Derived.Test.YtkclpolgadlbhaaHeadLawsA
import Derived.Deep.DeepCutAuto
namespace Go.Proofs.Ytkclpolgadlbhaa
open Go.RowKit
open Go.Lib
theorem q_major {w : World} {b o : Nat} {s : Hd} (h : HAt w b o s) (q : Nat) : Calls Try.prog 11 #[.pointer (some ⟨b, o, none⟩)] (w.drewN q) fun e w' => e = .returned (.int .i64 (majH s)) ∧ w' = w.drewN q :=
  (major_at (h.drewN q)).mono fun _ _ h => ⟨h.1, h.2.symm⟩
theorem q_value {w : World} {b o : Nat} {s : Hd} (h : HAt w b o s) (q : Nat) : Calls Try.prog 12 #[.pointer (some ⟨b, o, none⟩)] (w.drewN q) fun e w' => e = .returned (.int .u64 (valH s)) ∧ w' = w.drewN q :=
  (value_at (h.drewN q)).mono fun _ _ h => ⟨h.1, h.2.symm⟩
theorem q_open {w : World} {b o : Nat} {s : Hd} (h : HAt w b o s) (q : Nat) : Calls Try.prog 13 #[.pointer (some ⟨b, o, none⟩)] (w.drewN q) fun e w' => e = .returned (.bool (opnH s)) ∧ w' = w.drewN q :=
  (open_at (h.drewN q)).mono fun _ _ h => ⟨h.1, h.2.symm⟩
theorem slice_byte (s : ByteArray) (k : Nat) (h : k < s.size) (x : UInt8) (hx : s[k]'h = x) (W : World) : (Instr.slice 9 (.string s) (some (.int .i64 (k : Int))) (some (.int .i64 ((k : Int) + 1))) none).run Try.prog W = .ok (.string ⟨#[x]⟩) W := by
  have := slice_str_lh s k (k + 1) (by omega) (by omega) W
  rw [show ((k + 1 : Nat) : Int) = (k : Int) + 1 by omega] at this
  rw [this]
  congr 2
  apply ByteArray.ext
  apply Array.toList_inj.1
  rw [ext_list, List.take_add_one, List.drop_append_of_le_length (by rw [List.length_take, size_list]; omega)]
  have hk : s.data.toList[k]? = some x := by
    rw [List.getElem?_eq_getElem (by simpa using h)]
    exact congrArg some hx
  rw [hk, List.drop_eq_nil_of_le (by rw [List.length_take]; omega)]
  rfl
theorem idx_any (D : ByteArray) (a : Nat) (h : a < D.size) (x : UInt8) (hx : D[a]'h = x) (W : World) : (Instr.index 9 (.string D) (.int .i64 (a : Int))).run Try.prog W = .ok (.int .u8 ((x.toNat : Nat) : Int)) W := by
  rw [run_index_string W 9 D .i64 (a : Int) Try.underlying9, dif_pos (by omega)]
  subst hx
  rfl
theorem val_next (l : List UInt8) (q : Nat) (y : UInt8) (h : q < l.length) (hy : l[q]'h = y) : valB 0 (l.take (q + 1)) = valB 0 (l.take q) * 256 + y.toNat := by
  rw [List.take_add_one, List.getElem?_eq_getElem h, hy, valB_append]
  rfl
theorem val_lt8 (l : List UInt8) (q : Nat) (h : q ≤ 8) : valB 0 (l.take q) < 18446744073709551616 := by
  have h1 := valB_lt (l.take q)
  have h2 : 256 ^ (l.take q).length ≤ 256 ^ 8 := Nat.pow_le_pow_right (by decide) (by rw [List.length_take]; omega)
  omega
/-- What the law holds beside a Head: the bytes so far, whether it is at its end, the first error. -/
def Beside (st : Hd) (own : List UInt8) (dn : Bool) (bd : Nat) : Prop :=
  match st with
  | .bad f => bd = f
  | .new => own = [] ∧ dn = false ∧ bd = 0
  | .fin _ _ _ => dn = true ∧ bd = 0
  | .mid m n v => bd = 0 ∧ dn = false ∧ ∃ (c : UInt8) (j : Nat) (t : List UInt8), own = c :: t ∧ j < 4 ∧ c.toNat = m * 32 + (24 + j) ∧ t.length + n = 2 ^ j ∧ 1 ≤ n ∧ valB 0 t = v
structure TMid (w : World) (b : Nat) (i : Nat) (st : Hd) (own : List UInt8) (dn : Bool) (bd : Nat) (wr : World) : Prop where
  at_ : HAt wr b 0 st
  bl : Below w.heap.size w wr
  le : w.heap.size ≤ b
  rel : Beside st own dn bd
  len : own.length ≤ i
/-- How many bytes a head has whose first one's lowest bits are low. -/
def needN (low : Nat) : Nat := if 24 ≤ low ∧ low ≤ 27 then 1 + 2 ^ (low - 24) else 1
/-- What the law reckons of the bytes so far. -/
def valN (low q : Nat) (t : List UInt8) : Nat := if low < 24 then low else valB 0 (t.take q)
/-- A step behind which there is no error. -/
structure Live (k : Nat) (st : Hd) (c : UInt8) (t : List UInt8) (low N : Nat) (d : Bool) : Prop where
  len : t.length ≤ k
  low_ : c.toNat % 32 = low
  form : low < 28 ∨ low = 31
  need : N = needN low
  done : d = decide (t.length + 1 = N)
  err : errH st = 0
  end_ : endH st = d
  maj : majH st = c.toNat / 32
  val : valH st = if d then valN low (N - 1) t else 0
  opn : opnH st = (d && low == 31)
  bes : Beside st (c :: t) d 0
theorem live_new (k : Nat) (x : UInt8) : (errH (stepH .new x.toNat) = 2 ∧ stepH .new x.toNat = .bad 2 ∧ (x.toNat % 32 = 28 ∨ x.toNat % 32 = 29 ∨ x.toNat % 32 = 30)) ∨ ∃ low N d, Live k (stepH .new x.toNat) x [] low N d := by
  have hx := byte_lt x
  have hn1 : ∀ l : Nat, ¬ (24 ≤ l ∧ l ≤ 27) → 1 = needN l := fun l h => by unfold needN; rw [if_neg h]
  by_cases h1 : x.toNat % 32 < 24
  · have h31 : (x.toNat % 32 == 31) = false := by rw [beq_eq_false_iff_ne]; omega
    have hv : valN (x.toNat % 32) (1 - 1) [] = x.toNat % 32 := by unfold valN; rw [if_pos h1]
    refine .inr ⟨_, 1, true, by simp, rfl, .inl (by omega), hn1 _ (by omega), rfl, ?_, ?_, ?_, ?_, ?_, ?_⟩
    all_goals simp only [stepH, if_pos h1, errH, endH, majH, valH, opnH, h31, hv, Beside, if_true, Bool.and_false]
    exact ⟨trivial, trivial⟩
  · by_cases h2 : x.toNat % 32 < 28
    · have hd : x.toNat % 32 = 24 ∨ x.toNat % 32 = 25 ∨ x.toNat % 32 = 26 ∨ x.toNat % 32 = 27 := by omega
      have hp : 0 < 2 ^ (x.toNat % 32 - 24) := Nat.pow_pos (by decide)
      have hnd : 1 + 2 ^ (x.toNat % 32 - 24) = needN (x.toNat % 32) := by unfold needN; rw [if_pos (by omega)]
      refine .inr ⟨_, 1 + 2 ^ (x.toNat % 32 - 24), false, by simp, rfl, .inl h2, hnd, ?_, ?_, ?_, ?_, ?_, ?_, ?_⟩
      · symm
        rw [decide_eq_false_iff_not]
        simp only [List.length_nil]
        omega
      all_goals simp only [stepH, if_neg h1, if_pos h2, errH, endH, majH, valH, opnH, Beside, Bool.false_and]
      · simp
      · refine ⟨trivial, trivial, x, x.toNat % 32 - 24, [], rfl, by omega, by omega, by simp, hp, rfl⟩
    · by_cases h3 : x.toNat % 32 = 31
      · have hv : valN (x.toNat % 32) (1 - 1) [] = 0 := by unfold valN; rw [if_neg h1]; rfl
        refine .inr ⟨_, 1, true, by simp, rfl, .inr h3, hn1 _ (by omega), rfl, ?_, ?_, ?_, ?_, ?_, ?_⟩
        all_goals simp only [stepH, if_neg h1, if_neg h2, if_pos h3, errH, endH, majH, valH, opnH, hv, Beside, if_true]
        · rw [h3]; rfl
        · exact ⟨trivial, trivial⟩
      · left
        have : stepH .new x.toNat = .bad 2 := by simp only [stepH, if_neg h1, if_neg h2, if_neg h3]
        rw [this]
        exact ⟨rfl, rfl, by omega⟩
theorem live_mid (k m n v : Nat) (own : List UInt8) (dn : Bool) (bd : Nat) (x : UInt8) (h : Beside (.mid m n v) own dn bd) (hk : own.length ≤ k) : ∃ c t low N d, own = c :: t ∧ Live k (stepH (.mid m n v) x.toNat) c (t ++ [x]) low N d := by
  obtain ⟨_, _, c, j, t, rfl, hj, hc, hl, hn, hv⟩ := h
  have hp8 : 2 ^ j ≤ 8 := by
    have := Nat.pow_le_pow_right (n := 2) (by decide) (show j ≤ 3 by omega)
    omega
  have hlow : c.toNat % 32 = 24 + j := by omega
  have hneed : needN (24 + j) = 1 + 2 ^ j := by
    unfold needN
    rw [if_pos (by omega), show 24 + j - 24 = j by omega]
  have hvx : valB 0 (t ++ [x]) = v * 256 + x.toNat := by rw [valB_append, hv]; rfl
  have hk' : (t ++ [x]).length ≤ k := by simp at hk ⊢; omega
  have h31 : (24 + j == 31) = false := by rw [beq_eq_false_iff_ne]; omega
  refine ⟨c, t, 24 + j, 1 + 2 ^ j, decide (n = 1), rfl, hk', hlow, .inl (by omega), hneed.symm, ?_, ?_, ?_, ?_, ?_, ?_, ?_⟩
  · rw [decide_eq_decide, List.length_append, List.length_singleton]
    omega
  all_goals
    by_cases h1 : n = 1
    · subst h1
      simp only [stepH, if_true, errH, endH, majH, valH, opnH, Beside, decide_true, Bool.true_and, h31]
      first
        | done
        | (exact ⟨trivial, trivial⟩)
        | omega
        | (unfold valN; rw [if_neg (by omega), List.take_of_length_le (by rw [List.length_append, List.length_singleton]; omega), hvx])
    · simp only [stepH, if_neg h1, errH, endH, majH, valH, opnH, Beside, decide_eq_false h1, Bool.false_and]
      first
        | done
        | omega
        | (exact if_neg (by decide))
        | (exact ⟨trivial, trivial, c, j, t ++ [x], rfl, hj, hc, by rw [List.length_append, List.length_singleton]; omega, by omega, hvx⟩)
        | simp
theorem valN_step (low q : Nat) (t : List UInt8) (y : UInt8) (h : q < t.length) (hy : t[q]'h = y) (hl : ¬ low < 24) : valN low (q + 1) t = valN low q t * 256 + y.toNat := by
  unfold valN
  rw [if_neg hl, if_neg hl]
  exact val_next t q y h hy
theorem valN_lt (low q : Nat) (t : List UInt8) (h : q ≤ 8) (hl : low < 32) : valN low q t < 18446744073709551616 := by
  unfold valN
  split
  · omega
  · exact val_lt8 t q h
theorem side_cases (k : Nat) (st : Hd) (own : List UInt8) (dn : Bool) (bd : Nat) (x : UInt8) (h : Beside st own dn bd) (hk : own.length ≤ k) (hw : WfH st) :
    (st = .bad bd ∧ (bd = 2 ∨ bd = 14)) ∨ (stepH st x.toNat = .bad 14 ∧ dn = true ∧ bd = 0) ∨ (own = [] ∧ dn = false ∧ bd = 0 ∧ stepH st x.toNat = .bad 2 ∧ (x.toNat % 32 = 28 ∨ x.toNat % 32 = 29 ∨ x.toNat % 32 = 30)) ∨
    (dn = false ∧ bd = 0 ∧ ∃ c t low N d, own ++ [x] = c :: t ∧ Live k (stepH st x.toNat) c t low N d) := by
  cases st with
  | bad f =>
    obtain rfl : bd = f := h
    exact .inl ⟨rfl, hw⟩
  | fin m v o => exact .inr (.inl ⟨rfl, h.1, h.2⟩)
  | new =>
    obtain ⟨rfl, rfl, rfl⟩ : own = [] ∧ dn = false ∧ bd = 0 := h
    rcases live_new k x with ⟨_, h2, h3⟩ | ⟨low, N, d, hL⟩
    · exact .inr (.inr (.inl ⟨rfl, rfl, rfl, h2, h3⟩))
    · exact .inr (.inr (.inr ⟨rfl, rfl, x, [], low, N, d, rfl, hL⟩))
  | mid m n v =>
    obtain ⟨c, t, low, N, d, ho, hL⟩ := live_mid k m n v own dn bd x h hk
    exact .inr (.inr (.inr ⟨h.2.1, h.1, c, t ++ [x], low, N, d, by rw [ho]; rfl, hL⟩))
theorem needN_le (low : Nat) : needN low ≤ 9 := by
  unfold needN
  split
  · have := Nat.pow_le_pow_right (n := 2) (by decide) (show low - 24 ≤ 3 by omega)
    omega
  · omega
theorem bigs_any (v : Nat) (y : Int) (hv : v < 18446744073709551616) : ∃ X : ByteArray, (∀ W, Calls Try.prog 16 #[.int .u64 v, .int .i64 y] W fun e w' => e = .returned (.string X) ∧ Below W.heap.size W w') ∧
    (∀ W, Calls Try.prog 17 #[.int .u64 v, .int .i64 y] W fun e w' => e = .returned (.string X) ∧ Below W.heap.size W w') := by
  by_cases h : y < 1 ∨ 8 < y
  · exact ⟨_, fun W => big_out v y h W, fun W => rbig_out v y h W⟩
  · obtain ⟨n, rfl⟩ : ∃ n : Nat, y = n := ⟨y.toNat, by omega⟩
    exact ⟨_, fun W => big_any v n (by omega) (by omega) W, fun W => rbig_any v n hv (by omega) (by omega) W⟩
theorem step_nil1 (w : World) : Calls Try.prog 10 #[.pointer none, .int .u8 1] w fun e w' => e = .returned (.tuple #[.bool false, .int .i64 14]) ∧ w = w' := (hd_nil w).2.2.2.2 1
end Go.Proofs.Ytkclpolgadlbhaa
