/-
  LAW of chapter 13: CborinCounts.
-/
import Derived.Test.YtgknpheefbfnlaaGj
import Derived.Test.YtgknpheefbfnlaaGi
import Derived.Test.YtgknpheefbfnlaaGk
import Derived.Test.YtgknpheefbfnlaaGa
/-
  LAWS of chapter 13, over CinAll and CinP: CborinCounts.
-/
namespace Go.Proofs.Ytgknpheefbfnlaa
open Go.RowKit
open Go.Lib
def itC (m : Bool) (N : Nat) : Nat := if m = true then 2 * N else N
/-- Where a reader is behind i parts of a container of a count. -/
def stC (m : Bool) (N i : Nat) : Ci := if i = itC m N then .item [] true else .item [⟨m, N, i⟩] false
theorem stC_err (m : Bool) (N i : Nat) : errCi (stC m N i) = 0 := by unfold stC; split <;> rfl
theorem stC_done (m : Bool) (N i : Nat) : doneCi (stC m N i) = decide (i = itC m N) := by
  unfold stC
  by_cases h : i = itC m N
  · rw [if_pos h, decide_eq_true h]; rfl
  · rw [if_neg h, decide_eq_false h]; rfl
theorem stC_sm (m : Bool) (N i : Nat) (hi : i ≤ 1000) : SmC (stC m N i) := by
  unfold stC
  split
  · intro x hx; simp [stkK] at hx
  · intro x hx
    simp only [stkK, List.mem_singleton] at hx
    subst hx
    exact Nat.le_trans hi (by omega)
theorem stC_step (m : Bool) (N i : Nat) (hi : i < itC m N) : (stepCi 2 (stC m N i) 96).1 = stC m N (i + 1) := by
  have h0 : 0 < N := by unfold itC at hi; split at hi <;> omega
  have := count_item m N i h0 hi
  unfold stC
  rw [if_neg (by omega), this]
  unfold itC
  split <;> (split <;> rfl)
theorem idx_list (l : List UInt8) (j : Nat) (hj : j < l.length) (W : World) : (Instr.index 9 (.string ⟨l.toArray⟩) (.int .i64 (j : Int))).run Try.prog W = .ok (.int .u8 (l[j].toNat : Int)) W := by
  rw [run_index_string W 9 ⟨l.toArray⟩ .i64 (j : Int) Try.underlying9, dif_pos (by show 0 ≤ (j : Int) ∧ (j : Int) < ((l.toArray.size : Nat) : Int); simp; omega)]
  rfl
set_option maxRecDepth 100000 in
set_option maxHeartbeats 16000000 in
theorem ccounts_f (H : CinAll) {PK : World → World → Nat → Nat → Ci → Prop} (P : CinP PK) (N g : Nat) (w : World) (hN : N ≤ 40) (hg : g < 18446744073709551616) :
    Calls Try.prog 10 #[.int .i64 N, .bool false, .int .u64 g] w fun r w' => r = .returned (.bool true) ∧ Below w.heap.size w w' := by
  have t1 : ((N : Int) < 0) = False := by simp
  have t2 : ((40 : Int) < (N : Int)) = False := by simp; omega
  have HA := Lib.hid (calive_any H w)
  have HN : Hid (∀ W, Calls Try.prog 20 #[.int .i64 2] W fun r w' => ∃ b, r = .returned (.pointer (some ⟨b, 0, none⟩)) ∧ PK W w' b 2 ci0) := Lib.hid (fun W => P.new_ 2 (by omega) W)
  have HH : Hid (∀ W, Calls Try.prog 24 #[.int .i64 4, .int .u64 N] W fun r w' => r = .returned (.string ⟨(headB 4 N).toArray⟩) ∧ Below W.heap.size W w') := Lib.hid (fun W => rhead_any 4 N (by omega) W)
  have HG : Hid (∀ W, Calls Try.prog 24 #[.int .i64 4, .int .u64 g] W fun r w' => r = .returned (.string ⟨(headB 4 g).toArray⟩) ∧ Below W.heap.size W w') := Lib.hid (fun W => rhead_any 4 g hg W)
  have hgl := headB_len 4 g
  have hJ : ∀ W, Calls Try.prog 14 #[.string ⟨(headB 4 g).toArray⟩, .int .i64 2] W fun r w' => ∃ u, r = .returned (.tuple #[u, .int .i64 (allCi 2 (headB 4 g)).2]) ∧ Made W w' u (allCi 2 (headB 4 g)).1.length (allCi 2 (headB 4 g)).1 := fun W => H (headB 4 g) 2 (by omega) (by omega) W
  have hcg : (allCi 2 (headB 4 g)).2 = if g = 0 then 0 else if 1000000 < g then 7 else 3 := count_great false g hg
  rw [hcg] at hJ
  have HJ := Lib.hid hJ
  have hst : (runCi 2 ci0 (headB 4 N)).1 = stC false N 0 := by
    have := count_head false N (by omega)
    simp only [Bool.false_eq_true, if_false] at this
    rw [this]
    unfold stC itC
    by_cases h0 : N = 0
    · subst h0; rfl
    · rw [if_neg h0, if_neg (by simp; omega)]
  have hS2 : ∀ (w0 W : World) (c i : Nat), i < N → PK w0 W c 2 (stC false N i) → Calls Try.prog 21 #[.pointer (some ⟨c, 0, none⟩), .int .u8 96] W fun r w' =>
    (∃ v, r = .returned (.tuple #[v, .int .i64 0])) ∧ PK w0 w' c 2 (stC false N (i + 1)) := fun w0 W c i hi h => by
      have hx := stC_step false N i (by simpa [itC] using hi)
      refine (P.step w0 W c 2 _ 96 h (stC_sm _ N i (by omega))).mono ?_
      rintro r w' ⟨⟨v, rfl, _⟩, hP⟩
      rw [hx] at hP ⊢
      refine ⟨⟨v, ?_⟩, hP⟩
      rw [stC_err]
      rfl
  have hD2 : ∀ (w0 W : World) (c i : Nat), PK w0 W c 2 (stC false N i) → Calls Try.prog 23 #[.pointer (some ⟨c, 0, none⟩)] W fun r w' => r = .returned (.bool (decide (i = N))) ∧ W = w' := fun w0 W c i h => by
      have := P.done w0 W c 2 _ h
      rwa [stC_done, show itC false N = N from rfl] at this
  have hS1 : ∀ (w0 W : World) (c j : Nat) (hj : j < (headB 4 N).length), PK w0 W c 2 (runCi 2 ci0 ((headB 4 N).take j)).1 → Calls Try.prog 21 #[.pointer (some ⟨c, 0, none⟩), .int .u8 ((headB 4 N)[j]).toNat] W fun r w' =>
    (∃ v, r = .returned (.tuple #[v, .int .i64 0])) ∧ PK w0 w' c 2 (runCi 2 ci0 ((headB 4 N).take (j + 1))).1 := fun w0 W c j hj h => by
      have he := err_take 2 ci0 (headB 4 N) (by rw [hst, stC_err]) (j + 1)
      have hr := congrArg Prod.fst (runCi_snoc 2 ci0 (headB 4 N) j hj)
      simp only at hr
      refine (P.step w0 W c 2 _ _ h (sm_run 2 (by omega) _ (by have := List.length_take_le j (headB 4 N); have := headB_len 4 N; simp only [List.length_take]; omega))).mono ?_
      rintro r w' ⟨⟨v, rfl, _⟩, hP⟩
      rw [← hr] at hP ⊢
      refine ⟨⟨v, ?_⟩, hP⟩
      rw [he]
      rfl
  have hB := Lib.hid (fun (w0 W : World) (c : Nat) (s : Ci) (h : PK w0 W c 2 s) => P.bel w0 W c 2 s h)
  have hlen := headB_len 4 N
  have HST := Lib.hid hst
  have HI := Lib.hid (idx_list (headB 4 N))
  have hsz : (⟨(headB 4 N).toArray⟩ : ByteArray).size = (headB 4 N).length := size_of _
  have HS1 := Lib.hid hS1
  have HS2 := Lib.hid hS2
  have HD2 := Lib.hid hD2
  have HT : Hid ((headB 4 N).take (headB 4 N).length = headB 4 N) := Lib.hid List.take_length
  have hT0 : Hid ((headB 4 N).take 0 = []) := Lib.hid rfl
  obtain ⟨E, hE⟩ : ∃ E : Nat, (if g = 0 then 0 else if 1000000 < g then 7 else 3) = E := ⟨_, rfl⟩
  rw [hE] at HJ
  have hg3 : (((g : Int) == 0) = true ∧ E = 0) ∨ (((g : Int) == 0) = false ∧ ((1000000 : Int) < (g : Int)) = True ∧ E = 7) ∨ (((g : Int) == 0) = false ∧ ((1000000 : Int) < (g : Int)) = False ∧ E = 3) := by
    subst hE
    by_cases h0 : g = 0
    · exact .inl ⟨by simp; omega, by rw [if_pos h0]⟩
    by_cases h1 : 1000000 < g
    · exact .inr (.inl ⟨by simp; omega, by simp; omega, by rw [if_neg h0, if_pos h1]⟩)
    · exact .inr (.inr ⟨by simp; omega, by simp; omega, by rw [if_neg h0, if_neg h1]⟩)
  have HG3 := Lib.hid hg3
  clear hS1 hS2 hD2 hst hJ hcg hE hg3
  generalize (⟨(headB 4 g).toArray⟩ : ByteArray) = G at *
  generalize headB 4 N = Z at *
  generalize (⟨Z.toArray⟩ : ByteArray) = S at *
  obtain ⟨zl, hzl⟩ : ∃ zl, Z.length = zl := ⟨_, rfl⟩
  rw [hzl] at hsz hlen
  have HZ := Lib.hid hzl
  have HSZ : (S.size : Int) = (zl : Int) := by omega
  clear hzl hgl hsz hg
  have hun : IntKind.u64.wrap (N : Int) = (N : Int) := wrapI_u64 _ (by omega) (by omega)
  go_enter Try.func10, Try.ntmps10
  go_wp2_with fail
  refine HA.out.mono ?_
  rintro r w1 ⟨rfl, b1⟩
  have B1 := Lib.hid b1
  clear b1
  go_wp2_with fail
  refine (HH.out _).mono ?_
  rintro r w2 ⟨rfl, b2⟩
  have B2 := Lib.hid (up_trans B1.out b2)
  clear b2
  go_wp2_with fail
  refine (HN.out _).mono ?_
  rintro r w3 ⟨p, rfl, hP3⟩
  have HP3 : Hid (PK w2 w3 p 2 (runCi 2 ci0 (Z.take 0)).1) := Lib.hid (by rw [hT0.out]; exact hP3)
  clear hP3
  go_wp2
  go_loopw [11, 12, 13] (fun i _ _ wr => ∃ j : Nat, i = .int .i64 j ∧ j ≤ zl ∧ Hid (PK w2 wr p 2 (runCi 2 ci0 (Z.take j)).1)) (fun i _ _ _ => zl - (RowKit.intOf i).toNat)
  case atStart => exact ⟨0, rfl, by omega, HP3⟩
  case round =>
    obtain ⟨j, rfl, hj, HP⟩ := hrel
    clear HP3
    by_cases hlt : j < zl
    · have hjz : j < Z.length := by rw [HZ.out]; exact hlt
      have HS := Lib.hid (HS1.out w2 wr p j hjz HP.out)
      have hI := fun W => HI.out j hjz W
      have hcmp : ((j : Int) < (S.size : Int)) = True := by simp; omega
      have hsz2 : j < S.size := by omega
      generalize (Z[j].toNat : Int) = c at *
      clear hjz HSZ
      go_wp2_with fail
      refine HS.out.mono ?_
      rintro r w4 ⟨⟨v, rfl⟩, hP⟩
      have HP4 := Lib.hid hP
      clear hP
      go_wp2
      go_roundw
      case rel => exact ⟨j + 1, rfl, hlt, HP4⟩
      case measure => simp [RowKit.intOf]; omega
    · obtain rfl : j = zl := by omega
      have HPz : Hid (PK w2 wr p 2 (stC false N 0)) := Lib.hid (by
        have h1 := HP.out
        rw [← HZ.out, HT.out, HST.out] at h1
        exact h1)
      have hcmp : ((j : Int) < (S.size : Int)) = False := by simp; omega
      have hd0 : decide (0 = N) = ((N : Int) == 0) := by 
        by_cases h : N = 0
        · rw [decide_eq_true h.symm]; symm; simp; omega
        · rw [decide_eq_false (fun h' => h h'.symm)]; symm; simp; omega
      have HD0 := Lib.hid (HD2.out w2 wr p 0 HPz.out)
      rw [hd0] at HD0
      clear hd0 HP
      go_wp2_with fail
      refine HD0.out.mono ?_
      rintro r w4 ⟨rfl, rfl⟩
      clear hcmp HSZ HD0
      go_wp2
      go_loopw [14, 15, 16] (fun i _ _ wq => ∃ q : Nat, i = .int .i64 q ∧ q ≤ N ∧ Hid (PK w2 wq p 2 (stC false N q))) (fun i _ _ _ => N - (RowKit.intOf i).toNat)
      case atStart => exact ⟨0, rfl, by omega, HPz⟩
      case round =>
        obtain ⟨q, rfl, hq, HQ⟩ := hrel
        clear HPz
        by_cases hlq : q < N
        · have HS := Lib.hid (HS2.out w2 wr p q hlq HQ.out)
          have hdq : decide (q + 1 = N) = ((q : Int) == (N : Int) - 1) := by
            by_cases h : q + 1 = N
            · rw [decide_eq_true h]; symm; simp; omega
            · rw [decide_eq_false h]; symm; simp; omega
          have HDQ : Hid (∀ W, PK w2 W p 2 (stC false N (q + 1)) → Calls Try.prog 23 #[.pointer (some ⟨p, 0, none⟩)] W fun r w' => r = .returned (.bool ((q : Int) == (N : Int) - 1)) ∧ W = w') := Lib.hid (fun W h => by
            have := HD2.out w2 W p (q + 1) h
            rwa [hdq] at this)
          have hwr : wrap64 ((N : Int) - 1) = (N : Int) - 1 := by unfold wrap64; omega
          clear hdq
          go_wp2_with fail
          refine HS.out.mono ?_
          rintro r w4 ⟨⟨v, rfl⟩, hP⟩
          have HP4 := Lib.hid hP
          clear hP
          go_wp2_with fail
          refine (HDQ.out _ HP4.out).mono ?_
          rintro r w5 ⟨rfl, rfl⟩
          go_wp2
          go_roundw
          case rel => exact ⟨q + 1, rfl, hlq, HP4⟩
          case measure => simp [RowKit.intOf]; omega
        · obtain rfl : q = N := by omega
          have B4 := Lib.hid (up_trans B2.out (hB.out _ _ _ _ HQ.out))
          clear HQ
          go_wp2_with fail
          refine (HG.out _).mono ?_
          rintro r w5 ⟨rfl, b5⟩
          have B5 := Lib.hid (up_trans B4.out b5)
          clear b5
          go_wp2_with fail
          refine (HJ.out _).mono ?_
          rintro r w6 ⟨u, rfl, hM⟩
          have B6 := Lib.hid (up_trans B5.out hM.1)
          clear hM
          rcases HG3.out with ⟨g1, rfl⟩ | ⟨g1, g2, rfl⟩ | ⟨g1, g2, rfl⟩
          all_goals
            go_wp2
            go_ret
            exact ⟨rfl, B6.out⟩
set_option maxRecDepth 100000 in
set_option maxHeartbeats 16000000 in
theorem ccounts_t (H : CinAll) {PK : World → World → Nat → Nat → Ci → Prop} (P : CinP PK) (N g : Nat) (w : World) (hN : N ≤ 40) (hg : g < 18446744073709551616) :
    Calls Try.prog 10 #[.int .i64 N, .bool true, .int .u64 g] w fun r w' => r = .returned (.bool true) ∧ Below w.heap.size w w' := by
  have t1 : ((N : Int) < 0) = False := by simp
  have t2 : ((40 : Int) < (N : Int)) = False := by simp; omega
  have HA := Lib.hid (calive_any H w)
  have HN : Hid (∀ W, Calls Try.prog 20 #[.int .i64 2] W fun r w' => ∃ b, r = .returned (.pointer (some ⟨b, 0, none⟩)) ∧ PK W w' b 2 ci0) := Lib.hid (fun W => P.new_ 2 (by omega) W)
  have HH : Hid (∀ W, Calls Try.prog 24 #[.int .i64 5, .int .u64 N] W fun r w' => r = .returned (.string ⟨(headB 5 N).toArray⟩) ∧ Below W.heap.size W w') := Lib.hid (fun W => rhead_any 5 N (by omega) W)
  have HG : Hid (∀ W, Calls Try.prog 24 #[.int .i64 5, .int .u64 g] W fun r w' => r = .returned (.string ⟨(headB 5 g).toArray⟩) ∧ Below W.heap.size W w') := Lib.hid (fun W => rhead_any 5 g hg W)
  have hgl := headB_len 5 g
  have hJ : ∀ W, Calls Try.prog 14 #[.string ⟨(headB 5 g).toArray⟩, .int .i64 2] W fun r w' => ∃ u, r = .returned (.tuple #[u, .int .i64 (allCi 2 (headB 5 g)).2]) ∧ Made W w' u (allCi 2 (headB 5 g)).1.length (allCi 2 (headB 5 g)).1 := fun W => H (headB 5 g) 2 (by omega) (by omega) W
  have hcg : (allCi 2 (headB 5 g)).2 = if g = 0 then 0 else if 1000000 < g then 7 else 3 := count_great true g hg
  rw [hcg] at hJ
  have HJ := Lib.hid hJ
  have hst : (runCi 2 ci0 (headB 5 N)).1 = stC true N 0 := by
    have := count_head true N (by omega)
    simp only [if_true] at this
    rw [this]
    unfold stC itC
    by_cases h0 : N = 0
    · subst h0; rfl
    · rw [if_neg h0, if_neg (by simp; omega)]
  have hS2 : ∀ (w0 W : World) (c i : Nat), i < 2 * N → PK w0 W c 2 (stC true N i) → Calls Try.prog 21 #[.pointer (some ⟨c, 0, none⟩), .int .u8 96] W fun r w' =>
    (∃ v, r = .returned (.tuple #[v, .int .i64 0])) ∧ PK w0 w' c 2 (stC true N (i + 1)) := fun w0 W c i hi h => by
      have hx := stC_step true N i (by simpa [itC] using hi)
      refine (P.step w0 W c 2 _ 96 h (stC_sm _ N i (by omega))).mono ?_
      rintro r w' ⟨⟨v, rfl, _⟩, hP⟩
      rw [hx] at hP ⊢
      refine ⟨⟨v, ?_⟩, hP⟩
      rw [stC_err]
      rfl
  have hD2 : ∀ (w0 W : World) (c i : Nat), PK w0 W c 2 (stC true N i) → Calls Try.prog 23 #[.pointer (some ⟨c, 0, none⟩)] W fun r w' => r = .returned (.bool (decide (i = 2 * N))) ∧ W = w' := fun w0 W c i h => by
      have := P.done w0 W c 2 _ h
      rwa [stC_done, show itC true N = 2 * N from rfl] at this
  have hS1 : ∀ (w0 W : World) (c j : Nat) (hj : j < (headB 5 N).length), PK w0 W c 2 (runCi 2 ci0 ((headB 5 N).take j)).1 → Calls Try.prog 21 #[.pointer (some ⟨c, 0, none⟩), .int .u8 ((headB 5 N)[j]).toNat] W fun r w' =>
    (∃ v, r = .returned (.tuple #[v, .int .i64 0])) ∧ PK w0 w' c 2 (runCi 2 ci0 ((headB 5 N).take (j + 1))).1 := fun w0 W c j hj h => by
      have he := err_take 2 ci0 (headB 5 N) (by rw [hst, stC_err]) (j + 1)
      have hr := congrArg Prod.fst (runCi_snoc 2 ci0 (headB 5 N) j hj)
      simp only at hr
      refine (P.step w0 W c 2 _ _ h (sm_run 2 (by omega) _ (by have := List.length_take_le j (headB 5 N); have := headB_len 5 N; simp only [List.length_take]; omega))).mono ?_
      rintro r w' ⟨⟨v, rfl, _⟩, hP⟩
      rw [← hr] at hP ⊢
      refine ⟨⟨v, ?_⟩, hP⟩
      rw [he]
      rfl
  have hB := Lib.hid (fun (w0 W : World) (c : Nat) (s : Ci) (h : PK w0 W c 2 s) => P.bel w0 W c 2 s h)
  have hlen := headB_len 5 N
  have HST := Lib.hid hst
  have HI := Lib.hid (idx_list (headB 5 N))
  have hsz : (⟨(headB 5 N).toArray⟩ : ByteArray).size = (headB 5 N).length := size_of _
  have HS1 := Lib.hid hS1
  have HS2 := Lib.hid hS2
  have HD2 := Lib.hid hD2
  have HT : Hid ((headB 5 N).take (headB 5 N).length = headB 5 N) := Lib.hid List.take_length
  have hT0 : Hid ((headB 5 N).take 0 = []) := Lib.hid rfl
  obtain ⟨E, hE⟩ : ∃ E : Nat, (if g = 0 then 0 else if 1000000 < g then 7 else 3) = E := ⟨_, rfl⟩
  rw [hE] at HJ
  have hg3 : (((g : Int) == 0) = true ∧ E = 0) ∨ (((g : Int) == 0) = false ∧ ((1000000 : Int) < (g : Int)) = True ∧ E = 7) ∨ (((g : Int) == 0) = false ∧ ((1000000 : Int) < (g : Int)) = False ∧ E = 3) := by
    subst hE
    by_cases h0 : g = 0
    · exact .inl ⟨by simp; omega, by rw [if_pos h0]⟩
    by_cases h1 : 1000000 < g
    · exact .inr (.inl ⟨by simp; omega, by simp; omega, by rw [if_neg h0, if_pos h1]⟩)
    · exact .inr (.inr ⟨by simp; omega, by simp; omega, by rw [if_neg h0, if_neg h1]⟩)
  have HG3 := Lib.hid hg3
  clear hS1 hS2 hD2 hst hJ hcg hE hg3
  generalize (⟨(headB 5 g).toArray⟩ : ByteArray) = G at *
  generalize headB 5 N = Z at *
  generalize (⟨Z.toArray⟩ : ByteArray) = S at *
  obtain ⟨zl, hzl⟩ : ∃ zl, Z.length = zl := ⟨_, rfl⟩
  rw [hzl] at hsz hlen
  have HZ := Lib.hid hzl
  have HSZ : (S.size : Int) = (zl : Int) := by omega
  clear hzl hgl hsz hg
  obtain ⟨I, hI0⟩ : ∃ I : Nat, 2 * N = I := ⟨_, rfl⟩
  rw [hI0] at HS2 HD2
  have hI80 : I ≤ 80 := by omega
  have HI0 := Lib.hid hI0
  have hit : 2 * (N : Int) = (I : Int) := by omega
  clear hI0
  have hun : IntKind.u64.wrap (N : Int) = (N : Int) := wrapI_u64 _ (by omega) (by omega)
  go_enter Try.func10, Try.ntmps10
  go_wp2_with fail
  refine HA.out.mono ?_
  rintro r w1 ⟨rfl, b1⟩
  have B1 := Lib.hid b1
  clear b1
  go_wp2_with fail
  refine (HH.out _).mono ?_
  rintro r w2 ⟨rfl, b2⟩
  have B2 := Lib.hid (up_trans B1.out b2)
  clear b2
  go_wp2_with fail
  refine (HN.out _).mono ?_
  rintro r w3 ⟨p, rfl, hP3⟩
  have HP3 : Hid (PK w2 w3 p 2 (runCi 2 ci0 (Z.take 0)).1) := Lib.hid (by rw [hT0.out]; exact hP3)
  clear hP3
  go_wp2
  go_loopw [11, 12, 13] (fun i _ _ wr => ∃ j : Nat, i = .int .i64 j ∧ j ≤ zl ∧ Hid (PK w2 wr p 2 (runCi 2 ci0 (Z.take j)).1)) (fun i _ _ _ => zl - (RowKit.intOf i).toNat)
  case atStart => exact ⟨0, rfl, by omega, HP3⟩
  case round =>
    obtain ⟨j, rfl, hj, HP⟩ := hrel
    clear HP3
    by_cases hlt : j < zl
    · have hjz : j < Z.length := by rw [HZ.out]; exact hlt
      have HS := Lib.hid (HS1.out w2 wr p j hjz HP.out)
      have hI := fun W => HI.out j hjz W
      have hcmp : ((j : Int) < (S.size : Int)) = True := by simp; omega
      have hsz2 : j < S.size := by omega
      generalize (Z[j].toNat : Int) = c at *
      clear hjz HSZ
      go_wp2_with fail
      refine HS.out.mono ?_
      rintro r w4 ⟨⟨v, rfl⟩, hP⟩
      have HP4 := Lib.hid hP
      clear hP
      go_wp2
      go_roundw
      case rel => exact ⟨j + 1, rfl, hlt, HP4⟩
      case measure => simp [RowKit.intOf]; omega
    · obtain rfl : j = zl := by omega
      have HPz : Hid (PK w2 wr p 2 (stC true N 0)) := Lib.hid (by
        have h1 := HP.out
        rw [← HZ.out, HT.out, HST.out] at h1
        exact h1)
      have hcmp : ((j : Int) < (S.size : Int)) = False := by simp; omega
      have hd0 : decide (0 = I) = ((N : Int) == 0) := by 
        have hI0 := HI0.out
        by_cases h : N = 0
        · rw [decide_eq_true (by omega)]; symm; simp; omega
        · rw [decide_eq_false (by omega)]; symm; simp; omega
      have HD0 := Lib.hid (HD2.out w2 wr p 0 HPz.out)
      rw [hd0] at HD0
      clear hd0 HP
      go_wp2_with fail
      refine HD0.out.mono ?_
      rintro r w4 ⟨rfl, rfl⟩
      clear hcmp HSZ HD0
      go_wp2
      go_loopw [14, 15, 16] (fun i _ _ wq => ∃ q : Nat, i = .int .i64 q ∧ q ≤ I ∧ Hid (PK w2 wq p 2 (stC true N q))) (fun i _ _ _ => I - (RowKit.intOf i).toNat)
      case atStart => exact ⟨0, rfl, by omega, HPz⟩
      case round =>
        obtain ⟨q, rfl, hq, HQ⟩ := hrel
        clear HPz
        by_cases hlq : q < I
        · have HS := Lib.hid (HS2.out w2 wr p q hlq HQ.out)
          have hdq : decide (q + 1 = I) = ((q : Int) == (I : Int) - 1) := by
            by_cases h : q + 1 = I
            · rw [decide_eq_true h]; symm; simp; omega
            · rw [decide_eq_false h]; symm; simp; omega
          have HDQ : Hid (∀ W, PK w2 W p 2 (stC true N (q + 1)) → Calls Try.prog 23 #[.pointer (some ⟨p, 0, none⟩)] W fun r w' => r = .returned (.bool ((q : Int) == (I : Int) - 1)) ∧ W = w') := Lib.hid (fun W h => by
            have := HD2.out w2 W p (q + 1) h
            rwa [hdq] at this)
          have hwr : wrap64 ((I : Int) - 1) = (I : Int) - 1 := by unfold wrap64; omega
          clear hdq
          go_wp2_with fail
          refine HS.out.mono ?_
          rintro r w4 ⟨⟨v, rfl⟩, hP⟩
          have HP4 := Lib.hid hP
          clear hP
          go_wp2_with fail
          refine (HDQ.out _ HP4.out).mono ?_
          rintro r w5 ⟨rfl, rfl⟩
          go_wp2
          go_roundw
          case rel => exact ⟨q + 1, rfl, hlq, HP4⟩
          case measure => simp [RowKit.intOf]; omega
        · obtain rfl : q = I := by omega
          have B4 := Lib.hid (up_trans B2.out (hB.out _ _ _ _ HQ.out))
          clear HQ
          go_wp2_with fail
          refine (HG.out _).mono ?_
          rintro r w5 ⟨rfl, b5⟩
          have B5 := Lib.hid (up_trans B4.out b5)
          clear b5
          go_wp2_with fail
          refine (HJ.out _).mono ?_
          rintro r w6 ⟨u, rfl, hM⟩
          have B6 := Lib.hid (up_trans B5.out hM.1)
          clear hM
          rcases HG3.out with ⟨g1, rfl⟩ | ⟨g1, g2, rfl⟩ | ⟨g1, g2, rfl⟩
          all_goals
            go_wp2
            go_ret
            exact ⟨rfl, B6.out⟩
set_option maxRecDepth 100000 in
set_option maxHeartbeats 4000000 in
theorem ccounts_out (H : CinAll) (n : Int) (m : Bool) (g : Nat) (w : World) (h : ¬ (0 ≤ n ∧ n ≤ 40)) :
    Calls Try.prog 10 #[.int .i64 n, .bool m, .int .u64 g] w fun r w' => r = .returned (.bool true) ∧ Below w.heap.size w w' := by
  have hc : (n < 0) = True ∨ (n < 0) = False ∧ ((40 : Int) < n) = True := by
    by_cases h0 : n < 0
    · exact .inl (eq_true h0)
    · exact .inr ⟨eq_false h0, eq_true (by omega)⟩
  have HA := Lib.hid (calive_any H w)
  clear h
  rcases hc with t1 | ⟨t1, t2⟩
  all_goals
    go_enter Try.func10, Try.ntmps10
    go_wp2_with fail
    refine HA.out.mono ?_
    rintro r w1 ⟨rfl, b1⟩
    have B1 := Lib.hid b1
    clear b1
    go_wp2
    go_ret
    exact ⟨rfl, B1.out⟩
theorem ccounts_row (H : CinAll) {PK : World → World → Nat → Nat → Ci → Prop} (P : CinP PK) (n : Int) (m : Bool) (g : Nat) (hg : g < 18446744073709551616) (w : World) :
    Calls Try.prog 10 #[.int .i64 n, .bool m, .int .u64 g] w fun r w' => r = .returned (.bool true) ∧ Below w.heap.size w w' := by
  by_cases h : 0 ≤ n ∧ n ≤ 40
  · obtain ⟨N, rfl⟩ : ∃ N : Nat, n = N := ⟨n.toNat, by omega⟩
    cases m
    · exact ccounts_f H P N g w (by omega) hg
    · exact ccounts_t H P N g w (by omega) hg
  · exact ccounts_out H n m g w h
end Go.Proofs.Ytgknpheefbfnlaa
