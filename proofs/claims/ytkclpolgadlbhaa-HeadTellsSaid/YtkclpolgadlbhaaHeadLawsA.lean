/-
  LAWS of chapter 7: a head byte by byte (no program); the first call (alive); HeadBack.
-/
import Derived.Test.YtkclpolgadlbhaaHeadPut
namespace Go.Proofs.Ytkclpolgadlbhaa
open Go.RowKit
open Go.Lib
/-- Bytes that are a head of a kind and a number: its end is their last one. -/
structure HOk (m v : Nat) (l : List UInt8) : Prop where
  ne : 0 < l.length
  le : l.length ≤ 9
  ok : ∀ k x, l[k]? = some x → errH (stepH (runH .new (l.take k)) x.toNat) = 0 ∧ endH (stepH (runH .new (l.take k)) x.toNat) = decide (k + 1 = l.length) ∧ runH .new (l.take (k + 1)) = stepH (runH .new (l.take k)) x.toNat ∧
    (k + 1 < l.length → valH (stepH (runH .new (l.take k)) x.toNat) = 0 ∧ opnH (stepH (runH .new (l.take k)) x.toNat) = false)
  fin : runH .new l = .fin m v false
theorem runH_snoc (s : Hd) (l : List UInt8) (k : Nat) (x : UInt8) (h : l[k]? = some x) : runH s (l.take (k + 1)) = stepH (runH s (l.take k)) x.toNat := by
  have hlt : k < l.length := (List.getElem?_eq_some_iff.1 h).1
  have e : l.take (k + 1) = l.take k ++ [x] := by
    rw [List.take_add_one, h]
    rfl
  rw [e, runH_append]
  rfl
theorem hok_one (m v : Nat) (hm : m < 8) (hv : v < 24) : HOk m v [UInt8.ofNat (m * 32 + v)] := by
  have hs := step_first m v hm (by omega)
  rw [if_pos hv] at hs
  have hf : runH .new [UInt8.ofNat (m * 32 + v)] = .fin m v false := by
    rw [runH_cons, hs]
    rfl
  refine ⟨by simp, by simp, fun k x hx => ?_, hf⟩
  have hk : k = 0 := by
    have := (List.getElem?_eq_some_iff.1 hx).1
    simp at this
    exact this
  subst hk
  have hx' : x = UInt8.ofNat (m * 32 + v) := by simpa using hx.symm
  subst hx'
  rw [runH_snoc _ _ _ _ hx]
  simp only [List.take_zero]
  rw [show runH .new [] = .new from rfl, hs]
  exact ⟨rfl, rfl, trivial, fun h => by simp at h⟩
theorem hok_long (m k v : Nat) (hm : m < 8) (hk : k < 4) (hv : v < 256 ^ 2 ^ k) : HOk m v (UInt8.ofNat (m * 32 + (24 + k)) :: bigB (2 ^ k) v) := by
  have hs := step_first m (24 + k) hm (by omega)
  rw [if_neg (by omega), if_pos (by omega), show 24 + k - 24 = k by omega] at hs
  have hp : 0 < 2 ^ k := Nat.pow_pos (by decide)
  have hp8 : 2 ^ k ≤ 8 := by
    have := Nat.pow_le_pow_right (n := 2) (by decide) (show k ≤ 3 by omega)
    omega
  obtain ⟨t, ht⟩ : ∃ t, bigB (2 ^ k) v = t := ⟨_, rfl⟩
  have hl : t.length = 2 ^ k := by rw [← ht, bigB_length]
  have hf := run_long m k v hm hk hv
  rw [ht] at hf ⊢
  refine ⟨by simp, by simp; omega, fun i x hx => ?_, hf⟩
  have hsn := runH_snoc .new _ i x hx
  rw [← hsn]
  have hi : i < t.length + 1 := by
    have := (List.getElem?_eq_some_iff.1 hx).1
    simpa using this
  have hR : runH .new (List.take (i + 1) (UInt8.ofNat (m * 32 + (24 + k)) :: t)) = if i < t.length then .mid m (t.length - i) (valB 0 (t.take i)) else .fin m v false := by
    by_cases h : i < t.length
    · rw [if_pos h, List.take_succ_cons, runH_cons, hs, ← hl]
      exact runH_take m t 0 i h
    · rw [if_neg h, List.take_of_length_le (by simp; omega)]
      exact hf
  rw [hR]
  by_cases h : i < t.length
  · rw [if_pos h]
    refine ⟨rfl, ?_, rfl, fun _ => ⟨rfl, rfl⟩⟩
    simp only [endH, List.length_cons]
    symm
    rw [decide_eq_false_iff_not]
    omega
  · rw [if_neg h]
    refine ⟨rfl, ?_, rfl, fun hq => absurd hq (by simp; omega)⟩
    simp only [endH, List.length_cons]
    symm
    rw [decide_eq_true_iff]
    omega
theorem hok_head (m v : Nat) (hm : m < 8) (hv : v < 18446744073709551616) : HOk m v (headB m v) := by
  unfold headB
  rcases sizH_cases v hv with ⟨h, e⟩ | ⟨h, e⟩ | ⟨h, e⟩ | ⟨h, e⟩ | ⟨h, e⟩ <;> rw [e]
  · exact hok_one m v hm h
  · exact hok_long m 0 v hm (by decide) (by simp; omega)
  · exact hok_long m 1 v hm (by decide) (by simp; omega)
  · exact hok_long m 2 v hm (by decide) (by simp; omega)
  · exact hok_long m 3 v hm (by decide) (by simp; omega)
/-- A new Head. -/
def hdZero : Array Value := #[.int .i64 0, .int .i64 0, .int .i64 0, .bool false, .int .i64 0, .int .u64 0]
theorem hat_new (w : World) : HAt (w.alloc (.cells hdZero 28)) w.heap.size 0 .new := by
  refine ⟨trivial, fun j u hj => ?_⟩
  have hb := heap_last w (.cells hdZero 28)
  have hu : hdZero[j]? = some u := by
    rw [← Array.getElem?_toList]
    exact hj
  refine ⟨?_, ?_⟩
  · simp only [World.cell?, hb, Nat.zero_add]
    exact hu
  · unfold World.frozen?
    rw [hb]
    simp
theorem big_lit (f n : Nat) (z y : Int) (hz : z = n) (hy : y = f) (h1 : 1 ≤ n) (h8 : n ≤ 8) (X : ByteArray) (h : X = ⟨(bigB n f).toArray⟩) (w : World) : Calls Try.prog 16 #[.int .u64 y, .int .i64 z] w fun e w' => e = .returned (.string X) ∧ Below w.heap.size w w' := by
  subst h hz hy
  exact big_any f n h1 h8 w
theorem put_lit (n : Int) (v : Nat) (y : Int) (hy : y = v) (hv : v < 18446744073709551616) (X : ByteArray) (h : X = ⟨(headB (n % 8).toNat v).toArray⟩) (w : World) : Calls Try.prog 14 #[.int .i64 n, .int .u64 y] w fun e w' => e = .returned (.string X) ∧ Below w.heap.size w w' := by
  subst h hy
  exact put_any n v hv w
theorem hstep_lit {w : World} {b o : Nat} {s : Hd} (h : HAt w b o s) (x : Nat) (y : Int) (hy : y = x) (hx : x < 256) (s' : Hd) (q : Bool) (e : Nat) (hs : stepH s x = s') (hq : endH s' = q) (he : errH s' = e) :
    Calls Try.prog 10 #[.pointer (some ⟨b, o, none⟩), .int .u8 y] w fun r w' => r = .returned (.tuple #[.bool q, .int .i64 e]) ∧ HPost w b o s' w' := by
  subst hy hs hq he
  exact hstep_at hx h
theorem HPost.below {w w' : World} {b o B : Nat} {s : Hd} (h : HPost w b o s w') (hB : B ≤ b) (hw : B ≤ w.heap.size) : Below B w w' := h.2.below hB hw
set_option maxRecDepth 100000 in
set_option maxHeartbeats 2000000 in
theorem alive_any (w : World) : Calls Try.prog 8 #[] w fun e w' => e = .returned (.bool true) ∧ Below w.heap.size w w' := by
  have HP := Lib.hid (fun W => put_lit 4 100 100 rfl (by omega) ⟨#[152, 100]⟩ (by decide) W)
  have HB := Lib.hid (fun W => big_lit 258 3 3 258 rfl rfl (by omega) (by omega) ⟨#[0, 1, 2]⟩ (by decide) W)
  have HS1 := Lib.hid (hstep_lit (hat_new w) 152 152 rfl (by omega) (.mid 4 1 0) false 0 rfl rfl rfl)
  go_enter Try.func8, Try.ntmps8
  go_wp2_with fail
  refine HS1.out.mono ?_
  rintro e w1 ⟨rfl, hP1⟩
  have B1 : Hid (Below w.heap.size w w1) := Lib.hid (((Below.refl _ w).alloc (Nat.le_refl _) _).trans (hP1.below (Nat.le_refl _) (by simp)))
  have HS2 := Lib.hid (hstep_lit hP1.1 100 100 rfl (by omega) (.fin 4 100 false) true 0 rfl rfl rfl)
  clear HS1 hP1
  go_wp2_with fail
  refine HS2.out.mono ?_
  rintro e w2 ⟨rfl, hP2⟩
  have B2 : Hid (Below w.heap.size w w2) := Lib.hid (B1.out.trans (hP2.below (Nat.le_refl _) B1.out.size))
  have H2 := Lib.hid hP2.1
  have hlt := hP2.1.lt
  clear HS2 hP2
  go_wp2_with fail
  refine (HP.out _).mono ?_
  rintro e w3 ⟨rfl, b3⟩
  have B3 := Lib.hid (B2.out.trans (b3.mono B2.out.size))
  have HM := Lib.hid (major_at (H2.out.below b3 hlt))
  have HV := Lib.hid (value_at (H2.out.below b3 hlt))
  have HO := Lib.hid (open_at (H2.out.below b3 hlt))
  clear b3 H2
  go_wp2_with fail
  refine HM.out.mono ?_
  rintro e w4 ⟨rfl, rfl⟩
  go_wp2_with fail
  refine HV.out.mono ?_
  rintro e w4 ⟨rfl, rfl⟩
  go_wp2_with fail
  refine HO.out.mono ?_
  rintro e w4 ⟨rfl, rfl⟩
  go_wp2_with fail
  refine (HB.out _).mono ?_
  rintro e w4 ⟨rfl, b4⟩
  have B4 := Lib.hid (B3.out.trans (b4.mono B3.out.size))
  go_wp2
  go_ret
  exact ⟨rfl, B4.out⟩
/-- Behind k bytes of a head. -/
structure HMid (w : World) (b : Nat) (l : List UInt8) (k : Nat) (wr : World) : Prop where
  at_ : HAt wr b 0 (runH .new (l.take k))
  bl : Below w.heap.size w wr
  le : w.heap.size ≤ b
theorem HMid.go {w wr w2 : World} {b k : Nat} {l : List UInt8} (h : HMid w b l k wr) (x : UInt8) (hx : l[k]? = some x) (hp : HPost wr b 0 (stepH (runH .new (l.take k)) x.toNat) w2) : HMid w b l (k + 1) w2 :=
  ⟨by rw [runH_snoc _ _ _ _ hx]; exact hp.1, h.bl.trans (hp.below h.le h.bl.size), h.le⟩
theorem str_at (l : List UInt8) (B : ByteArray) (hB : B = ⟨l.toArray⟩) (k : Nat) (h : k < B.size) : l[k]? = some (B[k]'h) := by
  subst hB
  have h' : k < l.length := h
  rw [List.getElem?_eq_getElem h']
  rfl
set_option maxRecDepth 100000 in
set_option maxHeartbeats 2000000 in
theorem back_core (n : Int) (v m : Nat) (hm : (n % 8).toNat = m) (l : List UInt8) (hO : HOk m v l) (B : ByteArray) (hB : B = ⟨l.toArray⟩) (hP : ∀ W, Calls Try.prog 14 #[.int .i64 n, .int .u64 v] W fun e w' => e = .returned (.string B) ∧ Below W.heap.size W w') (w : World) :
    Calls Try.prog 4 #[.int .i64 n, .int .u64 v] w fun e w' => e = .returned (.bool true) ∧ Below w.heap.size w w' := by
  have HO := Lib.hid hO
  have HP := Lib.hid hP
  have hsz : B.size = l.length := by rw [hB]; rfl
  have h9 : B.size ≤ 9 := by rw [hsz]; exact hO.le
  have h1 : 1 ≤ B.size := by rw [hsz]; exact hO.ne
  have HA := Lib.hid (str_at l B hB)
  have HZ := Lib.hid hsz
  have hmod := mod8_ref n
  rw [hm] at hmod
  clear hO hP hm hB hsz
  go_enter Try.func4, Try.ntmps4
  go_wp2_with fail
  refine (alive_any _).mono ?_
  rintro e w1 ⟨rfl, b1⟩
  have B1 := Lib.hid b1
  clear b1
  go_wp2_with fail
  refine (HP.out _).mono ?_
  rintro e w2 ⟨rfl, b2⟩
  have B2 := Lib.hid (B1.out.trans (b2.mono B1.out.size))
  clear b2 B1
  obtain ⟨b, hb⟩ : ∃ b, b = w2.heap.size := ⟨_, rfl⟩
  have H0 : Hid (HMid w b l 0 (w2.alloc (.cells hdZero 28))) := Lib.hid (by
    rw [hb]
    exact ⟨hat_new w2, B2.out.alloc B2.out.size _, B2.out.size⟩)
  have HBn := Lib.hid hb
  clear hb
  go_wp2
  rw [← HBn.out]
  go_loopw [7] (fun i wr => ∃ k : Nat, k ≤ B.size ∧ i = .int .i64 k ∧ Hid (HMid w b l k wr)) (fun i _ => B.size - (RowKit.intOf i).toNat)
  case atStart => exact ⟨0, Nat.zero_le _, rfl, H0⟩
  case round =>
    obtain ⟨k, hk, rfl, HE⟩ := hrel
    by_cases hlt : k < B.size
    · obtain ⟨x, hx⟩ : ∃ x, B[k]'hlt = x := ⟨_, rfl⟩
      have hlk := HA.out k hlt
      rw [hx] at hlk
      obtain ⟨o1, o2, _⟩ := HO.out.ok k x hlk
      have hS := hstep_at (byte_lt x) HE.out.at_
      have hdec : ((k : Int) == (B.size : Int) - 1) = decide (k + 1 = l.length) := by
        have := HZ.out
        rw [Bool.eq_iff_iff]
        simp only [beq_iff_eq, decide_eq_true_eq]
        omega
      rw [← hdec] at o2
      rw [o1, o2] at hS
      have HS := Lib.hid hS
      have HL := Lib.hid hlk
      clear hlk o1 o2 hS hdec
      obtain ⟨d, hd⟩ : ∃ d, ((k : Int) == (B.size : Int) - 1) = d := ⟨_, rfl⟩
      rw [hd] at HS
      go_wp2_with fail
      refine HS.out.mono ?_
      rintro e w3 ⟨rfl, hP⟩
      have HE2 := Lib.hid (HE.out.go x HL.out hP)
      clear hP HE HS HL
      have hdn : (d != d) = false := by cases d <;> rfl
      go_wp2
      go_roundw
      case rel => exact ⟨k + 1, by omega, by go_num, HE2⟩
      case measure => simp [RowKit.intOf]; omega
    · have hfin := HE.out.at_
      rw [List.take_of_length_le (by have := HZ.out; omega), HO.out.fin] at hfin
      have HV := Lib.hid (value_at hfin)
      have HM := Lib.hid (major_at hfin)
      have HQ := Lib.hid (open_at hfin)
      clear hfin
      go_wp2_with fail
      refine HV.out.mono ?_
      rintro e w3 ⟨rfl, rfl⟩
      go_wp2_with fail
      refine HM.out.mono ?_
      rintro e w3 ⟨rfl, rfl⟩
      go_wp2_with fail
      refine HQ.out.mono ?_
      rintro e w3 ⟨rfl, rfl⟩
      simp only [opnH]
      go_wp2
      go_ret
      exact ⟨rfl, HE.out.bl⟩
theorem back_any (n : Int) (v : Nat) (hv : v < 18446744073709551616) (w : World) :
    Calls Try.prog 4 #[.int .i64 n, .int .u64 v] w fun e w' => e = .returned (.bool true) ∧ Below w.heap.size w w' :=
  back_core n v _ rfl _ (hok_head _ v (by omega) hv) _ rfl (fun W => put_any n v hv W) w
end Go.Proofs.Ytkclpolgadlbhaa
