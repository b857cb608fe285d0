/-
  CONTRACT of escape.escapeOf: what is written in a rune's place.
-/
import Derived.Test.YtpcdajhcimcedaaEscF
namespace Go.Proofs.Ytpcdajhcimcedaa
open Go.RowKit
open Go.Lib
/-- What is written in a rune's place; nothing: it stays. -/
def escO (r : Nat) : List UInt8 :=
  if r = 34 then [92, 34] else if r = 92 then [92, 92] else if r = 8 then [92, 98] else if r = 12 then [92, 102] else if r = 10 then [92, 110] else if r = 13 then [92, 114] else if r = 9 then [92, 116]
  else if r < 32 then [92, 117, 48, 48, hexD (r / 16), hexD (r % 16)] else []
theorem escO_byte (b : UInt8) : escB b = if escO b.toNat = [] then [b] else escO b.toNat := by
  unfold escB escO
  by_cases h1 : b.toNat = 34
  · have : b = 34 := UInt8.toNat_inj.1 h1
    subst this
    rfl
  by_cases h2 : b.toNat = 92
  · have : b = 92 := UInt8.toNat_inj.1 h2
    subst this
    rfl
  rw [if_neg (by omega), if_neg h1, if_neg h2]
  repeat' split
  all_goals first | rfl | simp_all
theorem escO_high {r : Nat} (h : 128 ≤ r) : escO r = [] := by
  unfold escO
  rw [if_neg (by omega), if_neg (by omega), if_neg (by omega), if_neg (by omega), if_neg (by omega), if_neg (by omega), if_neg (by omega), if_neg (by omega)]
def hexS : ByteArray := ⟨#[48, 49, 50, 51, 52, 53, 54, 55, 56, 57, 97, 98, 99, 100, 101, 102]⟩
theorem hexS_at : ∀ n : Fin 16, hexS.extract n.val (n.val + 1) = ⟨#[hexD n.val]⟩ := by decide +kernel
theorem slice_hex (n : Nat) (h : n < 16) (W : World) : (Instr.slice 9 (.string hexS) (some (.int .i32 (n : Int))) (some (.int .i32 ((n : Int) + 1))) none).run Try.prog W = .ok (.string ⟨#[hexD n]⟩) W := by
  rw [run_slice_string W 9 hexS .i32 .i32 _ _ Try.underlying9 (by omega) (by omega) (by show ((n : Int) + 1) ≤ 16; omega)]
  have := hexS_at ⟨n, h⟩
  simp only [] at this
  rw [← this]
  congr 3
theorem and15 (r : Nat) (h : r < 2147483648) : bits .and .i32 (r : Int) 15 = ((r % 16 : Nat) : Int) := by
  have h1 : (BitVec.ofInt 32 (r : Int)).toNat = r := by
    rw [BitVec.ofInt_natCast, BitVec.toNat_ofNat]; exact Nat.mod_eq_of_lt (by omega)
  have h2 : (BitVec.ofInt 32 (15 : Int)).toNat = 15 := by decide
  show IntKind.i32.wrap ((BitVec.ofInt 32 (r : Int) &&& BitVec.ofInt 32 (15 : Int)).toNat : Int) = _
  rw [BitVec.toNat_and, h1, h2, show 15 = 2 ^ 4 - 1 by decide, Nat.and_two_pow_sub_one_eq_mod, IntKind.wrap_i32]
  omega
set_option maxRecDepth 100000 in
set_option maxHeartbeats 1600000 in
theorem escOf_ctl (r : Nat) (hr : r < 32) (h1 : r ≠ 8) (h2 : r ≠ 9) (h3 : r ≠ 10) (h4 : r ≠ 12) (h5 : r ≠ 13) (w : World) :
    Calls Try.prog 25 #[.int .i32 r] w fun e w' => e = .returned (.string ⟨#[92, 117, 48, 48, hexD (r / 16), hexD (r % 16)]⟩) ∧ ∃ q, w' = w.drewN q := by
  have z1 : ((r : Int) == 34) = false := by rw [beq_eq_false_iff_ne]; omega
  have z2 : ((r : Int) == 92) = false := by rw [beq_eq_false_iff_ne]; omega
  have z3 : ((r : Int) == 8) = false := by rw [beq_eq_false_iff_ne]; omega
  have z4 : ((r : Int) == 12) = false := by rw [beq_eq_false_iff_ne]; omega
  have z5 : ((r : Int) == 10) = false := by rw [beq_eq_false_iff_ne]; omega
  have z6 : ((r : Int) == 13) = false := by rw [beq_eq_false_iff_ne]; omega
  have z7 : ((r : Int) == 9) = false := by rw [beq_eq_false_iff_ne]; omega
  have z8 : ((r : Int) < 32) = True := by simp only [eq_iff_iff, iff_true]; omega
  have hS1 := slice_hex (r / 16) (by omega)
  have hS2 := slice_hex (r % 16) (by omega)
  have hb := and15 r (by omega)
  have hw1 : IntKind.i32.wrap ((r : Int) / 16 + 1) = (r : Int) / 16 + 1 := wrap32 _ (by omega) (by omega)
  have hw2 : IntKind.i32.wrap (((r % 16 : Nat) : Int) + 1) = ((r % 16 : Nat) : Int) + 1 := wrap32 _ (by omega) (by omega)
  rw [show ((r / 16 : Nat) : Int) = (r : Int) / 16 by omega] at hS1
  obtain ⟨m, hm⟩ : ∃ m : Int, ((r % 16 : Nat) : Int) = m := ⟨_, rfl⟩
  rw [hm] at hS2 hb hw2
  have hX : (⟨#[92, 117, 48, 48, hexD (r / 16), hexD (r % 16)]⟩ : ByteArray) = (⟨#[92, 117, 48, 48]⟩ ++ ⟨#[hexD (r / 16)]⟩) ++ ⟨#[hexD (r % 16)]⟩ := rfl
  rw [hX]
  obtain ⟨X1, hx1⟩ : ∃ X1 : ByteArray, (⟨#[hexD (r / 16)]⟩ : ByteArray) = X1 := ⟨_, rfl⟩
  obtain ⟨X2, hx2⟩ : ∃ X2 : ByteArray, (⟨#[hexD (r % 16)]⟩ : ByteArray) = X2 := ⟨_, rfl⟩
  have s1 : X1.size = 1 := by rw [← hx1]; rfl
  have s2 : X2.size = 1 := by rw [← hx2]; rfl
  rw [hx1] at hS1
  rw [hx2] at hS2
  rw [hx1, hx2]
  unfold hexS at hS1 hS2
  clear hx1 hx2 hX hm h1 h2 h3 h4 h5 hr
  go_enter Try.func25, Try.ntmps25
  go_wp2_with fail
  go_quiet (fail)
  go_wp2
  go_ret
  exact ⟨rfl, nq, rfl⟩
set_option maxRecDepth 100000 in
set_option maxHeartbeats 1600000 in
theorem escOf_any (r : Nat) (w : World) :
    Calls Try.prog 25 #[.int .i32 r] w fun e w' => e = .returned (.string ⟨(escO r).toArray⟩) ∧ ∃ q, w' = w.drewN q := by
  by_cases c0 : r = 34
  · subst c0
    go_enter Try.func25, Try.ntmps25
    go_wp2
    go_ret
    exact ⟨rfl, 0, rfl⟩
  by_cases c1 : r = 92
  · subst c1
    go_enter Try.func25, Try.ntmps25
    go_wp2
    go_ret
    exact ⟨rfl, 0, rfl⟩
  by_cases c2 : r = 8
  · subst c2
    go_enter Try.func25, Try.ntmps25
    go_wp2
    go_ret
    exact ⟨rfl, 0, rfl⟩
  by_cases c3 : r = 12
  · subst c3
    go_enter Try.func25, Try.ntmps25
    go_wp2
    go_ret
    exact ⟨rfl, 0, rfl⟩
  by_cases c4 : r = 10
  · subst c4
    go_enter Try.func25, Try.ntmps25
    go_wp2
    go_ret
    exact ⟨rfl, 0, rfl⟩
  by_cases c5 : r = 13
  · subst c5
    go_enter Try.func25, Try.ntmps25
    go_wp2
    go_ret
    exact ⟨rfl, 0, rfl⟩
  by_cases c6 : r = 9
  · subst c6
    go_enter Try.func25, Try.ntmps25
    go_wp2
    go_ret
    exact ⟨rfl, 0, rfl⟩
  by_cases c8 : r < 32
  · have he : escO r = [92, 117, 48, 48, hexD (r / 16), hexD (r % 16)] := by
      unfold escO
      rw [if_neg c0, if_neg c1, if_neg c2, if_neg c3, if_neg c4, if_neg c5, if_neg c6, if_pos c8]
    rw [he]
    exact escOf_ctl r c8 c2 c6 c4 c3 c5 w
  have he : escO r = [] := by
    unfold escO
    rw [if_neg c0, if_neg c1, if_neg c2, if_neg c3, if_neg c4, if_neg c5, if_neg c6, if_neg c8]
  rw [he]
  have z1 : ((r : Int) == 34) = false := by rw [beq_eq_false_iff_ne]; omega
  have z2 : ((r : Int) == 92) = false := by rw [beq_eq_false_iff_ne]; omega
  have z3 : ((r : Int) == 8) = false := by rw [beq_eq_false_iff_ne]; omega
  have z4 : ((r : Int) == 12) = false := by rw [beq_eq_false_iff_ne]; omega
  have z5 : ((r : Int) == 10) = false := by rw [beq_eq_false_iff_ne]; omega
  have z6 : ((r : Int) == 13) = false := by rw [beq_eq_false_iff_ne]; omega
  have z7 : ((r : Int) == 9) = false := by rw [beq_eq_false_iff_ne]; omega
  have z8 : ((r : Int) < 32) = False := by simp only [eq_iff_iff, iff_false]; omega
  clear c0 c1 c2 c3 c4 c5 c6 c8 he
  go_enter Try.func25, Try.ntmps25
  go_wp2
  go_ret
  exact ⟨rfl, 0, rfl⟩
theorem head_take {l : List UInt8} {n : Nat} {a : UInt8} {rest : List UInt8} (h : a :: rest = l.take n) : l.getD 0 0 = a := by
  match l, n, h with
  | [], n, h => simp at h
  | x :: t, 0, h => simp at h
  | x :: t, n + 1, h =>
    rw [List.take_succ_cons] at h
    injection h with h1 _
    exact h1.symm
/-- The bytes of a rune that is none of ASCII are none, either. -/
theorem hi_bytes (l : List UInt8) (hne : l ≠ []) (h0 : 128 ≤ (l.getD 0 0).toNat) : ∀ b ∈ l.take (decodeL l).2, 128 ≤ b.toNat := by
  by_cases hg : (decodeL l).1 = 65533 ∧ (decodeL l).2 = 1
  · rw [hg.2]
    match l, hne with
    | a :: t, _ =>
      intro b hb
      simp only [List.take_succ_cons, List.take_zero, List.mem_singleton] at hb
      subst hb
      exact h0
  · obtain ⟨hr, he, hl⟩ := enc_dec l hne hg
    rw [← he]
    obtain ⟨a, rest, hf, h⟩ := enc_form hr
    rw [hf] at he ⊢
    have ha : l.getD 0 0 = a := head_take he
    rw [ha] at h0
    rcases h with ⟨hr0, hn, hlt⟩ | ⟨hge, lo, hi, h1, h2, h3, h4, h5, h6, h7⟩
    · omega
    · intro b hb
      clear he hf ha
      rcases List.mem_cons.1 hb with e | hb
      · rw [e]; exact h0
      · exact (h7 b hb).1
theorem escW_high (l : List UInt8) (h : ∀ b ∈ l, 128 ≤ b.toNat) : escW l = l := by
  induction l with
  | nil => rfl
  | cons b t ih =>
    rw [escW_cons, esc_high (h b (by simp)), ih (fun c hc => h c (by simp [hc]))]
    rfl
end Go.Proofs.Ytpcdajhcimcedaa
