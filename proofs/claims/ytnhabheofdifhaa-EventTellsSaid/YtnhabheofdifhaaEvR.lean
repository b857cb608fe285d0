/-
  LAWS of chapter 9: EventWraps.
-/
import Derived.Test.YtnhabheofdifhaaEvQ
namespace Go.Proofs.Ytnhabheofdifhaa
open Go.RowKit
open Go.Lib
theorem deep_succ (E : Nat → Ev) (j : Nat) : deepR (0, 0) (pre E (j + 1)) = deepS (deepR (0, 0) (pre E j)) (E j) := by
  rw [pre_succ]
  unfold deepR
  rw [List.foldl_append]
  rfl
theorem deep_bound (E : Nat → Ev) (j : Nat) : (-(j : Int) ≤ (deepR (0, 0) (pre E j)).1 ∧ (deepR (0, 0) (pre E j)).1 ≤ j) ∧ 0 ≤ (deepR (0, 0) (pre E j)).2 ∧ (deepR (0, 0) (pre E j)).2 ≤ j := by
  induction j with
  | zero => simp [pre, deepR]
  | succ j ih =>
    rw [deep_succ]
    unfold deepS
    split
    · simp only
      omega
    · split
      · simp only
        omega
      · omega
theorem wraps_long (A : Option Addr) (n cp : Nat) (c : Int) (w : World) (hn : ¬ n ≤ 60) :
    Calls Try.prog 5 #[.slice A n cp, .int .i64 c] w fun r w' => r = .returned (.bool true) ∧ Below w.heap.size w w' := by
  have h2 : ((60 : Int) < (n : Int)) = True := by simp; omega
  clear hn
  go_enter Try.func5, Try.ntmps5
  go_wp2_with fail
  refine (ev_alive _).mono ?_
  rintro e w1 ⟨rfl, b1⟩
  have B1 := Lib.hid b1
  clear b1
  go_wp2
  go_ret
  exact ⟨rfl, B1.out⟩
theorem wraps_none (A : Option Addr) (n cp : Nat) (E : Nat → Ev) (c : Int) (w : World) (hn : n ≤ 60) (hE : EvsAt w w.heap.size A n E) (hok : ∀ i, i < n → EvOk (E i)) (h0 : checkE (pre E n) ≠ 0) :
    Calls Try.prog 5 #[.slice A n cp, .int .i64 c] w fun r w' => r = .returned (.bool true) ∧ Below w.heap.size w w' := by
  have h2 : ((60 : Int) < (n : Int)) = False := by simp; omega
  have CK := Lib.hid (check_any A n cp E w (by omega) hE hok)
  have hz : (((checkE (pre E n) : Nat) : Int) != 0) = true := by simp; omega
  generalize checkE (pre E n) = Z at *
  clear hn hE hok h0
  go_enter Try.func5, Try.ntmps5
  go_wp2_with fail
  refine CK.out.mono ?_
  rintro e w1 ⟨rfl, b1⟩
  have B1 := Lib.hid b1
  clear b1
  go_wp2_with fail
  refine (ev_alive _).mono ?_
  rintro e w2 ⟨rfl, b2⟩
  have B2 := Lib.hid (up_trans B1.out b2)
  clear b2
  go_wp2
  go_ret
  exact ⟨rfl, B2.out⟩
/-- append, at an operation that a guard lets by. -/
theorem wpList_append_win_g {P : Program} {w : World} {e t : TypeId} {sz : Nat} {v : Value} {n : Nat} {xs : List Value} {ops : Array Oper} {rest : List Oper} {o : Oper} {a : Act} {Q : Exit → Act → World → Prop} (hwt : Region.wanted o (yielded ops a.tmps) = true) (sl x : Operand) (tx : TypeId)
    (ho : o.op = .call { callee := .builtin .append, args := #[sl, x], argTypes := #[t, tx] }) {z : Value} {bytes : Nat}
    (ht : P.underlying t = some (.slice e)) (hi : (P.info? e).map (fun i => (i.zero, i.size, i.bytes)) = some (some z, sz, bytes)) (hzs : z.cells.size = sz)
    (hs : a.eval sl = v) (h : Win w e sz v n xs) (X : Value) (hx : a.eval x = X) (m : Nat) (news : List Value) (hsrc : Src P sz tx X m news w) (h63 : n + m ≤ maxLen) (hbytes : (n + m) * bytes ≤ 140737488355328)
    (hk : ∀ v' w', Hid (Win w' e sz v' (n + m) (xs ++ news)) → Hid (w.grownBy w' v.ownBlock) → Hid (v'.ownBlock = v.ownBlock ∨ v'.ownBlock = some w.heap.size ∧ w.heap.size < w'.heap.size) → wpList P ops Q rest (a.put o.dst v') w') : wpList P ops Q (o :: rest) a w := by
  refine wpList_step fun K hK => ?_
  rw [if_pos hwt]
  cases hq : P.info? e with
  | none => simp [hq] at hi
  | some i =>
    simp only [hq, Option.map_some, Option.some.injEq, Prod.mk.injEq] at hi
    obtain ⟨v', w', hr, h2, h3, h4⟩ := h.append (ty := o.type) ht hq hi.1 hi.2.1 hi.2.2 hzs X m news hsrc h63 hbytes
    unfold Oper.wp execOp
    simp only [ho, resolve, invoke, builtin, Sem.run_bind, Sem.run_pure, Result.andThen_ok, List.map_toArray, List.map_cons, List.map_nil, hs, hx, hr]
    exact hK _ _ (hk v' w' h2 h3 h4)
/-- A list that a call wrote out. -/
theorem made_new {w wr : World} (h : Below w.heap.size w wr) (L : List Ev) (m : Nat) (hm : L.length = m) (h0 : m ≤ 900) : Made w (wr.alloc (.cells (evsC L).toArray 24)) (.slice (some ⟨wr.heap.size, 0, none⟩) m m) m L :=
  ⟨up_alloc h _, win_list wr L _ m hm h0, fun k hk => by simp [Value.owner] at hk; subst hk; exact h.size⟩
def evArr (c : Int) : Ev := ⟨5, false, 0, ⟨#[]⟩, c⟩
set_option maxHeartbeats 4000000 in
theorem wraps_doc (A : Option Addr) (n cp : Nat) (E : Nat → Ev) (c : Int) (w : World) (hn : n ≤ 60) (hc : -9223372036854775808 ≤ c ∧ c ≤ 9223372036854775807) (hE : EvsAt w w.heap.size A n E) (hok : ∀ i, i < n → EvOk (E i)) (h0 : checkE (pre E n) = 0) :
    Calls Try.prog 5 #[.slice A n cp, .int .i64 c] w fun r w' => r = .returned (.bool true) ∧ Below w.heap.size w w' := by
  have h2 : ((60 : Int) < (n : Int)) = False := by simp; omega
  have CK : Hid (∀ w', EvsAt w' w'.heap.size A n E → Calls Try.prog 20 #[.slice A n cp] w' fun r w2 => r = .returned (.int .i64 0) ∧ Below w'.heap.size w' w2) := Lib.hid fun w' h => by
    have := check_any A n cp E w' (by omega) h hok
    rwa [h0] at this
  have HE := Lib.hid hE
  have HOK := Lib.hid hok
  have HZ := Lib.hid h0
  have HN := Lib.hid hn
  have HC := Lib.hid hc
  clear hn hE hok h0 hc
  go_enter Try.func5, Try.ntmps5
  go_wp2_with fail
  refine (CK.out _ HE.out).mono ?_
  rintro e w1 ⟨rfl, b1⟩
  have B1 := Lib.hid b1
  have E1 := Lib.hid (HE.out.grow b1)
  clear b1
  go_wp2_with fail
  refine (ev_alive _).mono ?_
  rintro e w2 ⟨rfl, b2⟩
  have B2 := Lib.hid (up_trans B1.out b2)
  have E2 := Lib.hid (E1.out.grow b2)
  clear b2 B1 E1
  go_wp2
  go_loopw [5, 6, 26] (fun d m i wr => ∃ j : Nat, d = .int .i64 (deepR (0, 0) (pre E j)).1 ∧ m = .int .i64 (deepR (0, 0) (pre E j)).2 ∧ i = .int .i64 j ∧ j ≤ n ∧ Hid (Below w.heap.size w wr) ∧ Hid (EvsAt wr wr.heap.size A n E)) (fun _ _ i _ => n - (RowKit.intOf i).toNat)
  case atStart => exact ⟨0, rfl, rfl, rfl, by omega, B2, E2⟩
  case round =>
    obtain ⟨j, rfl, rfl, rfl, hjn, HB, HEr⟩ := hrel
    by_cases hlt : j < n
    · obtain ⟨b, off, rfl, hb, x0, x1, x2, x3, x4⟩ := HEr.out.cells hlt
      have hS := deep_succ E j
      have hbd := deep_bound E j
      have HRel : ∀ X, Hid (Below w.heap.size w (wr.alloc X) ∧ EvsAt (wr.alloc X) (wr.alloc X).heap.size (some ⟨b, off, none⟩) n E) := fun X => Lib.hid ⟨up_alloc HB.out _, HEr.out.grow (up_alloc (Below.refl _ _) _)⟩
      obtain ⟨⟨D, M⟩, hDM⟩ : ∃ P : Int × Int, deepR (0, 0) (pre E j) = P := ⟨_, rfl⟩
      rw [hDM] at hS hbd
      simp only [hDM]
      generalize hD2 : deepR (0, 0) (pre E (j + 1)) = P2 at hS
      generalize E j = e at x0 x1 x2 x3 x4 hS
      obtain ⟨k, y, m, t, c'⟩ := e
      simp only at x0 x1 x2 x3 x4 hbd
      have HD2 := Lib.hid hD2
      have HN2 := HN.out
      clear hDM hD2 HB HEr
      by_cases h5 : k = 5
      · subst h5
        have hp : P2 = (D + 1, max M (D + 1)) := by rw [hS]; simp [deepS]
        have HP := Lib.hid hp
        clear hS hp
        go_wp2
        go_roundw
        case rel => exact ⟨j + 1, by rw [HD2.out, HP.out], by rw [HD2.out, HP.out], rfl, hlt, Lib.hid (HRel _).out.1, Lib.hid (HRel _).out.2⟩
        case measure => simp [RowKit.intOf]; omega
      · have q5 : (k == 5) = false := by simpa using h5
        by_cases h6 : k = 6
        · subst h6
          clear h5
          have hp : P2 = (D + 1, max M (D + 1)) := by rw [hS]; simp [deepS]
          have HP := Lib.hid hp
          clear hS hp
          go_wp2
          go_roundw
          case rel => exact ⟨j + 1, by rw [HD2.out, HP.out], by rw [HD2.out, HP.out], rfl, hlt, Lib.hid (HRel _).out.1, Lib.hid (HRel _).out.2⟩
          case measure => simp [RowKit.intOf]; omega
        · have q6 : (k == 6) = false := by simpa using h6
          by_cases h7 : k = 7
          · subst h7
            clear h5 h6
            have hp : P2 = (D - 1, M) := by rw [hS]; simp [deepS]
            have HP := Lib.hid hp
            clear hS hp
            go_wp2
            go_roundw
            case rel => exact ⟨j + 1, by rw [HD2.out, HP.out], by rw [HD2.out, HP.out], rfl, hlt, Lib.hid (HRel _).out.1, Lib.hid (HRel _).out.2⟩
            case measure => simp [RowKit.intOf]; omega
          · have q7 : (k == 7) = false := by simpa using h7
            have hp : P2 = (D, M) := by rw [hS]; simp [deepS, h5, h6, h7]
            clear h5 h6 h7
            have HP := Lib.hid hp
            clear hS hp
            go_wp2
            go_roundw
            case rel => exact ⟨j + 1, by rw [HD2.out, HP.out], by rw [HD2.out, HP.out], rfl, hlt, Lib.hid (HRel _).out.1, Lib.hid (HRel _).out.2⟩
            case measure => simp [RowKit.intOf]; omega
    · obtain rfl : j = n := by omega
      obtain ⟨M, hM⟩ : ∃ M, (deepR (0, 0) (pre E j)).2 = M := ⟨_, rfl⟩
      simp only [hM]
      generalize (deepR (0, 0) (pre E j)).1 = D
      obtain ⟨V, hV⟩ : ∃ V : Int, V = if 16 ≤ M then 4 else if c ≠ 1 ∧ c ≠ -1 then 2 else 0 := ⟨_, rfl⟩
      have HM := Lib.hid hM
      have HV := Lib.hid hV
      clear hM hV
      go_upto_if 46 with fail
      go_cut [9] (fun z wx => z = .int .i64 V ∧ wr = wx)
      case first => as_aux_lemma =>
        by_cases h16 : 16 ≤ M
        · rw [decide_eq_true h16]
          have hv := Lib.hid (show V = 4 by rw [HV.out, if_pos h16])
          clear h16
          go_wp2
          go_meet
          exact ⟨by rw [hv.out], rfl⟩
        · rw [decide_eq_false h16]
          by_cases h1 : c = 1
          · subst h1
            have hv := Lib.hid (show V = 0 by rw [HV.out, if_neg h16, if_neg (by omega)])
            clear h16
            go_wp2
            go_meet
            exact ⟨by rw [hv.out], rfl⟩
          · have q1 : (c != 1) = true := by simpa using h1
            by_cases h3 : c = -1
            · subst h3
              have hv := Lib.hid (show V = 0 by rw [HV.out, if_neg h16, if_neg (by omega)])
              clear h16 h1
              go_wp2
              go_meet
              exact ⟨by rw [hv.out], rfl⟩
            · have q3 : (c != -1) = true := by simpa using h3
              have hv := Lib.hid (show V = 2 by rw [HV.out, if_neg h16, if_pos ⟨h1, h3⟩])
              clear h16 h1 h3
              go_wp2
              go_meet
              exact ⟨by rw [hv.out], rfl⟩
      case rest =>
        obtain ⟨rfl, rfl⟩ := hcut
        have hj60 := HN.out
        have M1 : Hid (Made w (wr.alloc (.cells (evsC [evArr c]).toArray 24)) (.slice (some ⟨wr.heap.size, 0, none⟩) 1 1) 1 [evArr c]) := Lib.hid (made_new HB.out [evArr c] 1 rfl (by omega))
        have E3 := Lib.hid (HEr.out.grow (up_alloc (Below.refl _ _) (.cells (evsC [evArr c]).toArray 24)))
        go_wp2_with (at_builtin; refine wpList_append_win rfl _ _ _ rfl Try.underlying38 info_ev rfl rfl M1.out.2.1 _ rfl j _ (E3.out.from Try.underlying38) ?e1 ?e2 ?_)
        case e1 => unfold maxLen; omega
        case e2 => omega
        intro v3 w3 hW3 hG3 hO3
        have hM3 : Made w w3 v3 (1 + j) ([evArr c] ++ pre E j) := made_more M1.out (Below.refl _ _) hW3.out hG3.out (by simpa using hO3.out)
        have M3 := Lib.hid hM3
        obtain ⟨a3, c3, rfl, _, _⟩ := hM3.2.1.slice_form
        clear hW3 hG3 hO3 hM3 M1 E3
        go_wp2_with (at_builtin; refine wpList_append_win rfl _ _ _ rfl Try.underlying38 info_ev rfl rfl (M3.out.2.1.alloc _) _ rfl 1 _ (src_new _ Try.underlying38 5 1 (evsC [evEnd]) 24 _ rfl (evsC_one _) (heap_alloc_new w3 _)) ?e1 ?e2 ?_)
        case e1 => unfold maxLen; omega
        case e2 => omega
        intro v4 w4 hW4 hG4 hO4
        have hM4 : Made w w4 v4 (1 + j + 1) ([evArr c] ++ pre E j ++ [evEnd]) := made_more M3.out (up_alloc (Below.refl _ _) _) hW4.out hG4.out (by simpa using hO4.out)
        have M4 := Lib.hid hM4
        obtain ⟨a4, c4, rfl, _, _⟩ := hM4.2.1.slice_form
        clear hW4 hG4 hO4 hM4 M3
        have hck := check_wrap c (evArr c) evEnd rfl rfl rfl (pre E j) HZ.out
        rw [HM.out] at hck
        have hCk := check_win M4.out.2.1 (by simp [pre_length]; omega) (by omega) (fun e he => by
          rw [List.mem_append, List.mem_append] at he
          rcases he with (he | he) | he
          · simp at he; subst he
            exact ⟨⟨by show _ ≤ (5 : Int); omega, by show (5 : Int) ≤ _; omega⟩, by show 0 < _; omega, ⟨HC.out.1, HC.out.2⟩, Nat.zero_le _⟩
          · simp only [pre, List.mem_map, List.mem_range] at he
            obtain ⟨i, hi, rfl⟩ := he
            exact HOK.out i hi
          · simp at he; subst he
            exact ok_small _ _ _ _ _ (by decide) (by decide) (by decide) (by decide))
        have E5 := Lib.hid (HE.out.grow M4.out.1)
        by_cases hc1 : c < -1
        · have hz : (c < -1) = True := by simp [hc1]
          rw [if_pos hc1] at hck
          rw [show ([evArr c] ++ pre E j ++ [evEnd]) = evArr c :: (pre E j ++ [evEnd]) by simp, hck] at hCk
          have CF := Lib.hid hCk
          clear hck hCk hc1
          go_wp2_with fail
          refine CF.out.mono ?_
          rintro e w5 ⟨rfl, b5⟩
          have B5 := Lib.hid (up_trans M4.out.1 b5)
          clear b5
          go_wp2
          go_ret
          exact ⟨rfl, B5.out⟩
        · have hz : (c < -1) = False := by simp; omega
          rw [if_neg hc1] at hck
          have hck2 : ((checkE (evArr c :: (pre E j ++ [evEnd])) : Nat) : Int) = V := by
            rw [hck, HV.out]
            split
            · rfl
            · split <;> rfl
          rw [show ([evArr c] ++ pre E j ++ [evEnd]) = evArr c :: (pre E j ++ [evEnd]) by simp, hck2] at hCk
          have CF := Lib.hid hCk
          have hVV : (V == V) = true := by simp
          clear hck hck2 hCk hc1
          go_wp2_with fail
          refine CF.out.mono ?_
          rintro e w5 ⟨rfl, b5⟩
          have B5 := Lib.hid (up_trans M4.out.1 b5)
          have E6 := Lib.hid (E5.out.grow b5)
          clear b5
          go_wp2_with (refine wpList_append_win_g rfl _ _ _ rfl Try.underlying38 info_ev rfl rfl (Win.nil_ _ _ _) _ rfl j _ (E6.out.from Try.underlying38) ?e1 ?e2 ?_)
          case e1 => unfold maxLen; omega
          case e2 => omega
          intro v6 w6 hW6 hG6 hO6
          have hM6 : Made w5 w6 v6 j (pre E j) := by
            have h := made_more (K := pre E j) (m := j) (made_nil w5) (Below.refl _ _) (by simpa [evsC] using hW6.out) hG6.out (by simpa using hO6.out)
            simpa using h
          have M6 := Lib.hid hM6
          obtain ⟨a6, c6, rfl, _, _⟩ := hM6.2.1.slice_form
          clear hW6 hG6 hO6 hM6
          go_wp2_with (refine wpList_append_win_g rfl _ _ _ rfl Try.underlying38 info_ev rfl rfl (M6.out.2.1.alloc _) _ rfl 1 _ (src_new _ Try.underlying38 5 1 (evsC [evZ]) 24 _ rfl (evsC_one _) (heap_alloc_new w6 _)) ?e1 ?e2 ?_)
          case e1 => unfold maxLen; omega
          case e2 => omega
          intro v7 w7 hW7 hG7 hO7
          have hM7 : Made w5 w7 v7 (j + 1) (pre E j ++ [evZ]) := made_more M6.out (up_alloc (Below.refl _ _) _) hW7.out hG7.out (by simpa using hO7.out)
          have M7 := Lib.hid hM7
          obtain ⟨a7, c7, rfl, _, _⟩ := hM7.2.1.slice_form
          clear hW7 hG7 hO7 hM7
          have hCm := check_win M7.out.2.1 (by simp [pre_length]) (by omega) (fun e he => by
            rw [List.mem_append] at he
            rcases he with he | he
            · simp only [pre, List.mem_map, List.mem_range] at he
              obtain ⟨i, hi, rfl⟩ := he
              exact HOK.out i hi
            · simp at he; subst he
              exact ok_small _ _ _ _ _ (by decide) (by decide) (by decide) (by decide))
          rw [check_more _ _ HZ.out] at hCm
          have CM := Lib.hid hCm
          clear hCm
          go_wp2_with fail
          refine CM.out.mono ?_
          rintro e w8 ⟨rfl, b8⟩
          have B8 := Lib.hid (up_trans (up_trans B5.out M7.out.1) b8)
          clear b8
          go_wp2
          go_ret
          exact ⟨rfl, B8.out⟩
theorem wraps_any (A : Option Addr) (n cp : Nat) (E : Nat → Ev) (c : Int) (w : World) (hc : -9223372036854775808 ≤ c ∧ c ≤ 9223372036854775807) (hE : EvsAt w w.heap.size A n E) (hok : ∀ i, i < n → EvOk (E i)) :
    Calls Try.prog 5 #[.slice A n cp, .int .i64 c] w fun r w' => r = .returned (.bool true) ∧ Below w.heap.size w w' := by
  by_cases hn : n ≤ 60
  · by_cases h0 : checkE (pre E n) = 0
    · exact wraps_doc A n cp E c w hn hc hE hok h0
    · exact wraps_none A n cp E c w hn hE hok h0
  · exact wraps_long A n cp c w hn
end Go.Proofs.Ytnhabheofdifhaa
