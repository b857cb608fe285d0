/-
  LAWS of chapter 5: the first call (alive), EscapeSigns, EscapeJoins.
-/
import Derived.Test.YtpcdajhcimcedaaEscH
namespace Go.Proofs.Ytpcdajhcimcedaa
open Go.RowKit
open Go.Lib
theorem read_lit (s : ByteArray) (w : World) (hs : s.size ≤ 1000000) (z : ByteArray) (e0 : Nat) (p : Ins × List UInt8) (hp : runI insT s.data.toList = p) (hz : z = ⟨(readT p).toArray⟩) (he : readE p = e0) :
    Calls Try.prog 13 #[.string s] w fun e w' => e = .returned (.tuple #[.string z, .int .i64 e0]) ∧ Below w.heap.size w w' := by
  subst hp hz he
  exact read_any s w hs
theorem write_lit (s : ByteArray) (w : World) (hs : s.size ≤ 1000000) (z : ByteArray) (hz : z = ⟨(escW s.data.toList).toArray⟩) :
    Calls Try.prog 14 #[.string s] w fun e w' => e = .returned (.string z) ∧ Below w.heap.size w w' := by
  subst hz
  exact write_any s w hs
theorem enc233 : encL 233 = [195, 169] := by
  rw [enc2 (by omega) (by omega)]
  decide
theorem alive_p1 : runI insT [97, 92, 117, 48, 48, 101, 57, 92, 110] = (insT, [97, 195, 169, 10]) := by
  have h1 : runI insT ([97] ++ (uL hexD 233 ++ [92, 110])) = (insT, [97, 195, 169, 10]) := by
    rw [runI_append, show runI insT [97] = (insT, [97]) by decide, runI_append, run_u hexD (fun n h => hexD_v ⟨n, h⟩) 233 (by omega), if_neg (by omega), if_neg (by omega), enc233]
    decide
  exact h1
theorem alive_p2 : runI insT [92, 117, 100, 56, 48, 48, 120] = (.bad true, []) := by
  have h1 := run_sur hexD (fun n h => hexD_v ⟨n, h⟩) 55296 (by omega)
  exact h1
theorem alive_p3 : escW [34, 1] = [92, 34, 92, 117, 48, 48, 48, 49] := by decide
set_option maxRecDepth 100000 in
set_option maxHeartbeats 1000000 in
theorem alive_any (w : World) : Calls Try.prog 9 #[] w fun e w' => e = .returned (.bool true) ∧ Below w.heap.size w w' := by
  have H1 := Lib.hid (fun W => read_lit ⟨#[97, 92, 117, 48, 48, 101, 57, 92, 110]⟩ W (by show 9 ≤ 1000000; decide) ⟨#[97, 195, 169, 10]⟩ 0 _ alive_p1 rfl rfl)
  have H2 := Lib.hid (fun W => read_lit ⟨#[92, 117, 100, 56, 48, 48, 120]⟩ W (by show 7 ≤ 1000000; decide) ⟨#[]⟩ 9 _ alive_p2 rfl rfl)
  have H3 := Lib.hid (fun W => write_lit ⟨#[34, 1]⟩ W (by show 2 ≤ 1000000; decide) ⟨#[92, 34, 92, 117, 48, 48, 48, 49]⟩ (by rw [alive_p3]))
  go_enter Try.func9, Try.ntmps9
  go_wp2_with fail
  refine (H1.out _).mono ?_
  rintro e w1 ⟨rfl, b1⟩
  have B1 := Lib.hid b1
  clear b1
  go_wp2_with fail
  refine (H2.out _).mono ?_
  rintro e w2 ⟨rfl, b2⟩
  have B2 := Lib.hid (B1.out.trans (b2.mono B1.out.size))
  clear b2
  go_wp2_with fail
  refine (H3.out _).mono ?_
  rintro e w3 ⟨rfl, b3⟩
  have B3 := Lib.hid (B2.out.trans (b3.mono B2.out.size))
  clear b3
  go_wp2
  go_ret
  exact ⟨rfl, B3.out⟩
theorem conv_one (x : UInt8) (c : Int) (hc : c = ((x.toNat : Nat) : Int)) (z : ByteArray) (hz : z = ⟨#[x]⟩) : ∀ W : World, (convert 40 9 (.slice (some ⟨W.heap.size, 0, none⟩) 1 1)).run Try.prog (W.alloc (.cells #[.int .u8 c] 5)) = .ok (.string z) (W.alloc (.cells #[.int .u8 c] 5)) := by
  subst hc hz
  exact fun W => conv_new W [x] _ 1 rfl rfl _ rfl
theorem esc_low' (x : UInt8) (h : x.toNat < 128) : runI insT (escB x) = (insT, [x]) := by
  have := esc_low ⟨x.toNat, h⟩
  simpa using this
theorem esc_len' (x : UInt8) (h : x.toNat < 128) : (escB x).length = if x.toNat = 34 ∨ x.toNat = 92 ∨ 8 ≤ x.toNat ∧ x.toNat ≤ 10 ∨ x.toNat = 12 ∨ x.toNat = 13 then 2 else if x.toNat < 32 then 6 else 1 := by
  have := esc_len ⟨x.toNat, h⟩
  simpa using this
/-- What the law meets of a byte of ASCII. -/
structure Sgn (c : Int) (z y : ByteArray) (n : Nat) : Prop where
  conv : ∀ W : World, (convert 40 9 (.slice (some ⟨W.heap.size, 0, none⟩) 1 1)).run Try.prog (W.alloc (.cells #[.int .u8 c] 5)) = .ok (.string z) (W.alloc (.cells #[.int .u8 c] 5))
  wr : ∀ w, Calls Try.prog 14 #[.string z] w fun e w' => e = .returned (.string y) ∧ Below w.heap.size w w'
  rd : ∀ w, Calls Try.prog 13 #[.string y] w fun e w' => e = .returned (.tuple #[.string z, .int .i64 0]) ∧ Below w.heap.size w w'
  len : y.size = n
theorem sgn_of (x : UInt8) (h : x.toNat < 128) (c : Int) (hc : c = ((x.toNat : Nat) : Int)) (n : Nat) (hn : (escB x).length = n) : ∃ z y, Sgn c z y n := by
  refine ⟨⟨#[x]⟩, ⟨(escB x).toArray⟩, conv_one x c hc _ rfl, fun w => write_lit _ w (by show 1 ≤ 1000000; decide) _ (by simp [escW]), fun w => ?_, ?_⟩
  · refine read_lit _ w ?_ _ 0 (insT, [x]) (esc_low' x h) rfl rfl
    have := escB_len x
    show (escB x).toArray.size ≤ 1000000
    simp
    omega
  · show (escB x).toArray.size = n
    simpa using hn
set_option maxRecDepth 100000 in
set_option maxHeartbeats 1000000 in
theorem signs_core (c : Int) (z y : ByteArray) (n : Nat) (h : Sgn c z y n) (hc : (128 ≤ c) = False) (w : World)
    (hn : c = 34 ∧ n = 2 ∨ c = 92 ∧ n = 2 ∨ c = 8 ∧ n = 2 ∨ c = 9 ∧ n = 2 ∨ c = 10 ∧ n = 2 ∨ c = 12 ∧ n = 2 ∨ c = 13 ∧ n = 2 ∨ (c < 32 ∧ n = 6 ∨ ¬ c < 32 ∧ n = 1) ∧ c ≠ 34 ∧ c ≠ 92 ∧ c ≠ 8 ∧ c ≠ 9 ∧ c ≠ 10 ∧ c ≠ 12 ∧ c ≠ 13) :
    Calls Try.prog 6 #[.int .u8 c] w fun e w' => e = .returned (.bool true) ∧ Below w.heap.size w w' := by
  obtain ⟨hcv, hwr, hrd, hln⟩ := h
  have HW := Lib.hid hwr
  have HR := Lib.hid hrd
  have hzz : (z.toList == z.toList) = true := by simp
  rcases hn with ⟨rfl, rfl⟩ | ⟨rfl, rfl⟩ | ⟨rfl, rfl⟩ | ⟨rfl, rfl⟩ | ⟨rfl, rfl⟩ | ⟨rfl, rfl⟩ | ⟨rfl, rfl⟩ | ⟨hn, n1, n2, n3, n4, n5, n6, n7⟩
  iterate 7
    · clear hc hwr hrd
      have hl : ((y.size : Int) == 2) = true := by rw [beq_iff_eq]; omega
      have HL := Lib.hid hl
      clear hln hl
      go_enter Try.func6, Try.ntmps6
      go_wp2_with fail
      refine (alive_any _).mono ?_
      rintro e w1 ⟨rfl, b1⟩
      have B1 := Lib.hid b1
      have hcw := hcv w1
      clear b1
      go_wp2_with fail
      refine (HW.out _).mono ?_
      rintro e w2 ⟨rfl, b2⟩
      have B2 := Lib.hid ((B1.out.alloc B1.out.size (.cells #[_] 5)).trans (b2.mono (by simp; have := B1.out.size; omega)))
      clear b2
      go_wp2_with fail
      refine (HR.out _).mono ?_
      rintro e w3 ⟨rfl, b3⟩
      have B3 := Lib.hid (B2.out.trans (b3.mono B2.out.size))
      have hl := HL.out
      clear b3
      go_wp2
      go_ret
      exact ⟨rfl, B3.out⟩
  have z1 : (c == 34) = false := by rw [beq_eq_false_iff_ne]; exact n1
  have z2 : (c == 92) = false := by rw [beq_eq_false_iff_ne]; exact n2
  have z3 : (c == 12) = false := by rw [beq_eq_false_iff_ne]; exact n6
  have z4 : (c == 13) = false := by rw [beq_eq_false_iff_ne]; exact n7
  clear n1 n2 n6 n7 hwr hrd
  rcases hn with ⟨h32, rfl⟩ | ⟨h32, rfl⟩
  · have HL : Hid (((y.size : Int) == 6) = true) := Lib.hid (by rw [beq_iff_eq]; omega)
    clear hln
    have a1 : (c < 32) = True := by simp only [eq_iff_iff, iff_true]; exact h32
    by_cases h8 : 8 ≤ c
    · have a2 : (8 ≤ c) = True := by simp only [eq_iff_iff, iff_true]; exact h8
      have a3 : (c ≤ 10) = False := by simp only [eq_iff_iff, iff_false]; omega
      clear h8 h32 n3 n4 n5
      go_enter Try.func6, Try.ntmps6
      go_wp2_with fail
      refine (alive_any _).mono ?_
      rintro e w1 ⟨rfl, b1⟩
      have B1 := Lib.hid b1
      have hcw := hcv w1
      clear b1
      go_wp2_with fail
      refine (HW.out _).mono ?_
      rintro e w2 ⟨rfl, b2⟩
      have B2 := Lib.hid ((B1.out.alloc B1.out.size (.cells #[_] 5)).trans (b2.mono (by simp; have := B1.out.size; omega)))
      clear b2
      go_wp2_with fail
      refine (HR.out _).mono ?_
      rintro e w3 ⟨rfl, b3⟩
      have B3 := Lib.hid (B2.out.trans (b3.mono B2.out.size))
      have hl := HL.out
      clear b3
      go_wp2
      go_ret
      exact ⟨rfl, B3.out⟩
    · have a2 : (8 ≤ c) = False := by simp only [eq_iff_iff, iff_false]; exact h8
      clear h8 h32 n3 n4 n5
      go_enter Try.func6, Try.ntmps6
      go_wp2_with fail
      refine (alive_any _).mono ?_
      rintro e w1 ⟨rfl, b1⟩
      have B1 := Lib.hid b1
      have hcw := hcv w1
      clear b1
      go_wp2_with fail
      refine (HW.out _).mono ?_
      rintro e w2 ⟨rfl, b2⟩
      have B2 := Lib.hid ((B1.out.alloc B1.out.size (.cells #[_] 5)).trans (b2.mono (by simp; have := B1.out.size; omega)))
      clear b2
      go_wp2_with fail
      refine (HR.out _).mono ?_
      rintro e w3 ⟨rfl, b3⟩
      have B3 := Lib.hid (B2.out.trans (b3.mono B2.out.size))
      have hl := HL.out
      clear b3
      go_wp2
      go_ret
      exact ⟨rfl, B3.out⟩
  · have HL : Hid (((y.size : Int) == 1) = true) := Lib.hid (by rw [beq_iff_eq]; omega)
    clear hln
    have a1 : (c < 32) = False := by simp only [eq_iff_iff, iff_false]; exact h32
    have a2 : (8 ≤ c) = True := by simp only [eq_iff_iff, iff_true]; omega
    have a3 : (c ≤ 10) = False := by simp only [eq_iff_iff, iff_false]; omega
    clear h32 n3 n4 n5
    go_enter Try.func6, Try.ntmps6
    go_wp2_with fail
    refine (alive_any _).mono ?_
    rintro e w1 ⟨rfl, b1⟩
    have B1 := Lib.hid b1
    have hcw := hcv w1
    clear b1
    go_wp2_with fail
    refine (HW.out _).mono ?_
    rintro e w2 ⟨rfl, b2⟩
    have B2 := Lib.hid ((B1.out.alloc B1.out.size (.cells #[_] 5)).trans (b2.mono (by simp; have := B1.out.size; omega)))
    clear b2
    go_wp2_with fail
    refine (HR.out _).mono ?_
    rintro e w3 ⟨rfl, b3⟩
    have B3 := Lib.hid (B2.out.trans (b3.mono B2.out.size))
    have hl := HL.out
    clear b3
    go_wp2
    go_ret
    exact ⟨rfl, B3.out⟩
theorem signs_any (n : Int) (w : World) (h : 0 ≤ n ∧ n ≤ 255) : Calls Try.prog 6 #[.int .u8 n] w fun e w' => e = .returned (.bool true) ∧ Below w.heap.size w w' := by
  by_cases hc : n < 128
  · obtain ⟨x, hx⟩ : ∃ x : UInt8, n = ((x.toNat : Nat) : Int) := ⟨UInt8.ofNat n.toNat, by rw [toNat_ofNat _ (by omega)]; omega⟩
    obtain ⟨z, y, hS⟩ := sgn_of x (by omega) n hx _ (esc_len' x (by omega))
    refine signs_core n z y _ hS (by simp only [eq_iff_iff, iff_false]; omega) w ?_
    by_cases q1 : x.toNat = 34 ∨ x.toNat = 92 ∨ 8 ≤ x.toNat ∧ x.toNat ≤ 10 ∨ x.toNat = 12 ∨ x.toNat = 13
    · rw [if_pos q1]; omega
    · rw [if_neg q1]
      by_cases q2 : x.toNat < 32
      · rw [if_pos q2]; omega
      · rw [if_neg q2]; omega
  · have hc' : (128 ≤ n) = True := by simp only [eq_iff_iff, iff_true]; omega
    clear hc h
    go_enter Try.func6, Try.ntmps6
    go_wp2_with fail
    refine (alive_any _).mono ?_
    rintro e w1 ⟨rfl, b1⟩
    go_wp2
    go_ret
    exact ⟨rfl, b1⟩
theorem wf_step (s : Ins) (x : UInt8) (h : WfI s) : WfI (stepI s x).1 := by
  match s with
  | .bad u => trivial
  | .back =>
    simp only [stepI]
    split
    · exact ⟨by omega, rfl, rfl⟩
    · split
      · exact ⟨by omega, by decide⟩
      · trivial
  | .text n lo hi =>
    simp only [stepI]
    split
    · trivial
    · split
      · trivial
      · cases hp : stepS (some (n, lo, hi)) x with
        | none => trivial
        | some p =>
          obtain ⟨m, lo', hi'⟩ := p
          refine ⟨?_, ?_⟩
          · cases n with
            | zero =>
              by_cases hb : x.toNat < 128
              · have : openS x.toNat = some (0, 0, 0) := by unfold openS; rw [if_pos hb]
                have hp' : openS x.toNat = some (m, lo', hi') := hp
                rw [this] at hp'
                injection hp' with hp'
                injection hp' with hp' _
                omega
              · have := openS_pos x.toNat m lo' hi' hp (by omega)
                omega
            | succ n =>
              have := h.1
              simp only [stepS] at hp
              split at hp
              · cases hp
              · split at hp
                · injection hp with hp
                  injection hp with hp _
                  omega
                · injection hp with hp
                  injection hp with hp _
                  omega
          · have := conts_step _ x h.2
            rw [hp] at this
            exact this
  | .hex k v =>
    obtain ⟨hk, hv⟩ := h
    cases hh : hexV x.toNat with
    | none => rw [step_hex_none hh]; trivial
    | some d =>
      have hd := (hexV_lt hh).1
      by_cases h3 : k < 3
      · rw [step_hex_mid hh h3]
        exact ⟨by omega, pow_lt hv hd⟩
      · have : k = 3 := by omega
        subst this
        rw [step_hex_end hh]
        generalize v * 16 + d = c at *
        unfold endI
        by_cases q1 : 56320 ≤ c ∧ c ≤ 57343
        · rw [if_pos q1]; trivial
        · rw [if_neg q1]
          by_cases q2 : 55296 ≤ c ∧ c ≤ 56319
          · rw [if_pos q2]; exact ⟨q2.1, q2.2, .inl ⟨by omega, rfl⟩⟩
          · rw [if_neg q2]
            generalize encL c = l
            exact ⟨by omega, rfl, rfl⟩
  | .high a k c =>
    obtain ⟨hh1, hh2, hkc⟩ := h
    by_cases hl : lowOk k x.toNat = false
    · rw [step_high_no hl]; trivial
    have hl' : lowOk k x.toNat = true := by simpa using hl
    obtain ⟨hx1, hx2, e0, e1, e2⟩ := lowOk_byte hl'
    by_cases k5 : k < 5
    · by_cases k0 : k = 0
      · subst k0
        rw [step_lt (w' := 0) hl' k5 (by simp [lowW])]
        exact ⟨hh1, hh2, .inl ⟨by omega, rfl⟩⟩
      by_cases k1 : k = 1
      · subst k1
        rw [step_lt (w' := 0) hl' k5 (by simp [lowW])]
        exact ⟨hh1, hh2, .inl ⟨by omega, rfl⟩⟩
      obtain ⟨d, hd⟩ := e2 (by omega)
      have hdl := (hexV_lt hd).1
      rw [step_lt hl' k5 (lowW_d (by omega) hd)]
      refine ⟨hh1, hh2, ?_⟩
      by_cases k2 : k = 2
      · subst k2
        have := low_two hl' hd
        omega
      by_cases k3 : k = 3
      · subst k3
        have := low_three hl' hd
        omega
      · omega
    · have hk : k = 5 := by omega
      subst hk
      obtain ⟨d, hd⟩ := e2 (by omega)
      rw [step_end hl' (lowW_d (by omega) hd)]
      generalize encL (pairN a (c * 16 + d)) = l
      exact ⟨by omega, rfl, rfl⟩
theorem run_le (s : Ins) (l : List UInt8) (h : WfI s) : (runI s l).2.length ≤ 4 * l.length := by
  induction l generalizing s with
  | nil => simp [runI]
  | cons b t ih =>
    rw [runI_cons]
    simp only [List.length_append, List.length_cons]
    have := ih (stepI s b).1 (wf_step s b h)
    have := step_len h b
    omega
theorem readT_le (l : List UInt8) : (readT (runI insT l)).length ≤ 4 * l.length := by
  have := run_le insT l ⟨by omega, rfl, rfl⟩
  unfold readT
  split
  · exact this
  · simp
/-- EscapeJoins: what is read, what is written of both. -/
theorem joins_facts (a b : List UInt8) (ha : readE (runI insT a) = 0) (hb : readE (runI insT b) = 0) : readE (runI insT (a ++ b)) = 0 ∧ readT (runI insT (a ++ b)) = readT (runI insT a) ++ readT (runI insT b) := by
  have hw : ∀ l, readE (runI insT l) = 0 → wholeI (runI insT l).1 = true := by
    intro l h
    unfold readE at h
    split at h
    · rename_i h1; exact absurd h h1
    · split at h
      · assumption
      · cases h
  have hj := runI_join a b (hw a ha)
  have he : readE (runI insT (a ++ b)) = 0 := by
    rw [hj]
    exact hb
  refine ⟨he, ?_⟩
  unfold readT
  rw [he, ha, hb, hj]
  simp
set_option maxRecDepth 100000 in
set_option maxHeartbeats 4000000 in
theorem joins_any (a b : ByteArray) (w : World) : Calls Try.prog 7 #[.string a, .string b] w fun e w' => e = .returned (.bool true) ∧ Below w.heap.size w w' := by
  by_cases h1 : (100 : Int) < (a.size : Int)
  · go_enter Try.func7, Try.ntmps7
    go_wp2_with fail
    refine (alive_any _).mono ?_
    rintro e w1 ⟨rfl, b1⟩
    go_wp2
    go_ret
    exact ⟨rfl, b1⟩
  by_cases h2 : (100 : Int) < (b.size : Int)
  · go_enter Try.func7, Try.ntmps7
    go_wp2_with fail
    refine (alive_any _).mono ?_
    rintro e w1 ⟨rfl, b1⟩
    go_wp2
    go_ret
    exact ⟨rfl, b1⟩
  have hab : (a ++ b).size = a.size + b.size := ByteArray.size_append
  have hlab : (a ++ b).data.toList = a.data.toList ++ b.data.toList := by simp
  have R1 := Lib.hid (fun W => read_any a W (by omega))
  have R2 := Lib.hid (fun W => read_any b W (by omega))
  have R3 := fun W => read_any (a ++ b) W (by omega)
  have W1 := fun W => write_any a W (by omega)
  have W2 := fun W => write_any b W (by omega)
  have W3 := fun W => write_any (a ++ b) W (by omega)
  have hs : (a ++ b).size ≤ 200 := by omega
  rw [hlab] at R3 W3
  have hJ := joins_facts a.data.toList b.data.toList
  have hW : (⟨(escW (a.data.toList ++ b.data.toList)).toArray⟩ : ByteArray) = ⟨(escW a.data.toList).toArray⟩ ++ ⟨(escW b.data.toList).toArray⟩ := by
    rw [escW_append, ba_append]
  have m1 := readT_le a.data.toList
  have m2 := readT_le b.data.toList
  rw [size_list] at m1 m2
  have l1 := escW_len a.data.toList
  have l2 := escW_len b.data.toList
  rw [size_list] at l1 l2
  generalize readE (runI insT a.data.toList) = e1 at *
  generalize readE (runI insT b.data.toList) = e2 at *
  generalize readE (runI insT (a.data.toList ++ b.data.toList)) = e3 at *
  generalize readT (runI insT a.data.toList) = t1 at *
  generalize readT (runI insT b.data.toList) = t2 at *
  generalize readT (runI insT (a.data.toList ++ b.data.toList)) = t3 at *
  obtain ⟨X1, hX1⟩ : ∃ X : ByteArray, X = ⟨t1.toArray⟩ := ⟨_, rfl⟩
  obtain ⟨X2, hX2⟩ : ∃ X : ByteArray, X = ⟨t2.toArray⟩ := ⟨_, rfl⟩
  obtain ⟨X3, hX3⟩ : ∃ X : ByteArray, X = ⟨t3.toArray⟩ := ⟨_, rfl⟩
  obtain ⟨Y1, hY1⟩ : ∃ X : ByteArray, X = ⟨(escW a.data.toList).toArray⟩ := ⟨_, rfl⟩
  obtain ⟨Y2, hY2⟩ : ∃ X : ByteArray, X = ⟨(escW b.data.toList).toArray⟩ := ⟨_, rfl⟩
  rw [hW, ← hY1, ← hY2] at W3
  rw [← hY1] at W1
  rw [← hY2] at W2
  rw [← hX1] at R1
  rw [← hX2] at R2
  rw [← hX3] at R3
  have hj : e1 = 0 → e2 = 0 → e3 = 0 ∧ X3 = X1 ++ X2 := fun q1 q2 => by
    obtain ⟨q3, q4⟩ := hJ q1 q2
    refine ⟨q3, ?_⟩
    rw [hX1, hX2, hX3, q4, ba_append]
  have s1 : Y1.size ≤ 600 := by rw [← size_list Y1, hY1]; show (escW a.data.toList).length ≤ 600; omega
  have s2 : Y2.size ≤ 600 := by rw [← size_list Y2, hY2]; show (escW b.data.toList).length ≤ 600; omega
  have s3 : X1.size ≤ 600 := by rw [← size_list X1, hX1]; show t1.length ≤ 600; omega
  have s4 : X2.size ≤ 600 := by rw [← size_list X2, hX2]; show t2.length ≤ 600; omega
  have g3 : (9223372036854775807 < X1.size + X2.size) = False := by simp only [eq_iff_iff, iff_false]; omega
  have hxe : ((X1 ++ X2).toList == (X1 ++ X2).toList) = true := by simp
  have g1 : (9223372036854775807 < a.size + b.size) = False := by simp only [eq_iff_iff, iff_false]; omega
  have g2 : (9223372036854775807 < Y1.size + Y2.size) = False := by simp only [eq_iff_iff, iff_false]; omega
  have hne : ((Y1 ++ Y2).toList != (Y1 ++ Y2).toList) = false := by simp
  have HJ := Lib.hid hj
  have H3 := Lib.hid R3
  have V1 := Lib.hid W1
  have V2 := Lib.hid W2
  have V3 := Lib.hid W3
  clear hX1 hX2 hX3 hY1 hY2 hJ hj l1 l2 hs hW R3 W1 W2 W3 hab hlab s1 s2 s3 s4 m1 m2
  go_enter Try.func7, Try.ntmps7
  go_wp2_with fail
  refine (alive_any _).mono ?_
  rintro e w1 ⟨rfl, b1⟩
  have B1 := Lib.hid b1
  clear b1
  go_wp2_with fail
  refine (R1.out _).mono ?_
  rintro e w2 ⟨rfl, b2⟩
  have B2 := Lib.hid (B1.out.trans (b2.mono B1.out.size))
  clear b2 B1
  go_wp2_with fail
  refine (R2.out _).mono ?_
  rintro e w3 ⟨rfl, b3⟩
  have B3 := Lib.hid (B2.out.trans (b3.mono B2.out.size))
  clear b3 B2
  go_wp2_with fail
  refine (H3.out _).mono ?_
  rintro e w4 ⟨rfl, b4⟩
  have B4 := Lib.hid (B3.out.trans (b4.mono B3.out.size))
  clear b4 B3
  go_wp2_with fail
  refine (V3.out _).mono ?_
  rintro e w5 ⟨rfl, b5⟩
  have B5 := Lib.hid (B4.out.trans (b5.mono B4.out.size))
  clear b5 B4
  go_wp2_with fail
  refine (V1.out _).mono ?_
  rintro e w6 ⟨rfl, b6⟩
  have B6 := Lib.hid (B5.out.trans (b6.mono B5.out.size))
  clear b6 B5
  go_wp2_with fail
  refine (V2.out _).mono ?_
  rintro e w7 ⟨rfl, b7⟩
  have B7 := Lib.hid (B6.out.trans (b7.mono B6.out.size))
  clear b7 B6
  by_cases c1 : e1 = 0
  · by_cases c2 : e2 = 0
    · obtain ⟨rfl, rfl⟩ := HJ.out c1 c2
      subst c1 c2
      go_wp2
      go_ret
      exact ⟨rfl, B7.out⟩
    · have z2 : ((e2 : Int) == 0) = false := by rw [beq_eq_false_iff_ne]; omega
      subst c1
      clear HJ
      go_wp2
      go_ret
      exact ⟨rfl, B7.out⟩
  · have z2 : ((e1 : Int) == 0) = false := by rw [beq_eq_false_iff_ne]; omega
    clear HJ
    go_wp2
    go_ret
    exact ⟨rfl, B7.out⟩
end Go.Proofs.Ytpcdajhcimcedaa
