/-
  CONTRACT of event.Check; LAW of chapter 13: CborinChecks.
-/
import Derived.Test.YtgknpheefbfnlaaGp
import Derived.Test.YtgknpheefbfnlaaEc
import Derived.Deep.Light
import Derived.Test.YtgknpheefbfnlaaGj
import Derived.Test.YtgknpheefbfnlaaGc
/-
  CONTRACT of event.Check: what the machine of EvPure tells of all parts.
-/
namespace Go.Proofs.Ytgknpheefbfnlaa
open Go.RowKit
open Go.Lib
theorem CkAt.go {M B : Nat} {w w' : World} {d : Nat} {st : Ck} (h : CkAt M B w d st) (k : Below w.heap.size w w') : CkAt M B w' d st := by
  cases st with
  | bad f => exact h
  | live s => obtain ⟨v, h⟩ := h; exact ⟨v, h.go k⟩
  | done => obtain ⟨v, h⟩ := h; exact ⟨v, h.go k⟩
theorem run_succ (E : Nat → Ev) (s : Ck) (j : Nat) : runC s (pre E (j + 1)) = stepC (runC s (pre E j)) (E j) := by
  rw [pre_succ, runC_append]
  rfl
theorem ck_bad_at (E : Nat → Ev) (s : Ck) {j n f : Nat} (hj : j ≤ n) (h : runC s (pre E j) = .bad f) : runC s (pre E n) = .bad f := by
  obtain ⟨r, hr⟩ := pre_split E j (n - j)
  rw [Nat.add_sub_cancel' hj] at hr
  rw [hr, runC_append, h, runC_bad]
/-- take: whatever the part, wherever the machine stands. -/
theorem take_any (M B : Nat) (w : World) (d : Nat) (st : Ck) (h : CkAt M B w d st) (e : Ev) (he : EvOk e) (hM : M + 1 ≤ 1000) :
    Calls Try.prog 29 #[.pointer (some ⟨d, 0, none⟩), evV e] w fun r w' => r = .returned (.int .i64 (errS (stepC st e) : Nat)) ∧ Below B w w' ∧ ((∃ f, stepC st e = .bad f) ∨ CkAt (M + 1) B w' d (stepC st e)) := by
  obtain ⟨k, y, m, t, c⟩ := e
  have hc : -9223372036854775808 ≤ c ∧ c ≤ 9223372036854775807 := he.2.2.1
  by_cases hm : mayE ⟨k, y, m, t, c⟩
  · have hO := fun w => of_any ⟨k, y, m, t, c⟩ w
    simp only [if_pos hm, decide_eq_true hm] at hO
    cases st with
    | bad f => exact absurd h id
    | done =>
      obtain ⟨v, h⟩ := h
      exact (take_over M B w d [] v h k y m t c _ hO).mono fun r w' ⟨h1, h2⟩ => ⟨h1, h2, .inl ⟨2, rfl⟩⟩
    | live s =>
      obtain ⟨v, h⟩ := h
      have hnm : ¬ ¬ mayE ⟨k, y, m, t, c⟩ := fun hh => hh hm
      by_cases h7 : k = 7
      · subst h7
        cases s with
        | nil =>
          have hs : stepC (.live []) ⟨7, y, m, t, c⟩ = .bad 2 := by simp only [stepC]; rw [if_neg hnm, if_pos trivial]
          rw [hs]
          refine (takes_end M B w d [] v h y m t c _ hO 2 (fun _ => True) fun w1 hw1 => ?_).mono fun r w' ⟨h1, h2, _⟩ => ⟨h1, h2, .inl ⟨2, rfl⟩⟩
          exact (ends_none M B w1 d false v (h.go hw1)).mono fun r w' ⟨h1, h2⟩ => ⟨h1, h2.mono (h.go hw1).lt, trivial⟩
        | cons b r =>
          have hs : stepC (.live (b :: r)) ⟨7, y, m, t, c⟩ = if shutB b then .bad 2 else if r = [] then .done else .live r := by simp only [stepC]; rw [if_neg hnm, if_pos trivial]
          rw [hs]
          by_cases hb : shutB b
          · rw [if_pos hb]
            refine (takes_end M B w d (b :: r) v h y m t c _ hO 2 (fun _ => True) fun w1 hw1 => ?_).mono fun r w' ⟨h1, h2, _⟩ => ⟨h1, h2, .inl ⟨2, rfl⟩⟩
            exact (end_shut M B w1 d b r false v (h.go hw1) hb).mono fun r w' ⟨h1, h2⟩ => ⟨h1, h2.mono (h.go hw1).lt, trivial⟩
          · rw [if_neg hb]
            refine (takes_end M B w d (b :: r) v h y m t c _ hO 0 (fun w' => ∃ v', Doc M B w' d r (decide (r = [])) v') fun w1 hw1 => ?_).mono fun x w' ⟨h1, h2, h3⟩ => ?_
            · exact (end_ok M B w1 d b r false v (h.go hw1) hb)
            · obtain ⟨v', h3⟩ := h3
              by_cases hr : r = []
              · subst hr
                rw [if_pos rfl]
                exact ⟨h1, h2, .inr ⟨v', h3.up hM⟩⟩
              · rw [if_neg hr]
                rw [decide_eq_false hr] at h3
                exact ⟨h1, h2, .inr ⟨v', h3.up hM⟩⟩
      · by_cases hk : keyB s = true ∧ k ≠ 3
        · have hs : stepC (.live s) ⟨k, y, m, t, c⟩ = .bad 8 := by simp only [stepC]; rw [if_neg hnm, if_neg h7, if_pos hk]
          rw [hs]
          exact (take_key M B w d s v h k y m t c _ hO h7 hk.2 hk.1).mono fun r w' ⟨h1, h2⟩ => ⟨h1, h2, .inl ⟨8, rfl⟩⟩
        · by_cases h56 : k = 5 ∨ k = 6
          · have hs : stepC (.live s) ⟨k, y, m, t, c⟩ = if 16 ≤ s.length then .bad 4 else .live (⟨decide (k = 6), c, 0⟩ :: incB s) := by
              simp only [stepC]; rw [if_neg hnm, if_neg h7, if_neg hk, if_pos h56]
            have hks : keyB s = false := by
              cases hq : keyB s with
              | false => rfl
              | true => exact absurd ⟨hq, by omega⟩ hk
            have hcc : -1 ≤ c ∧ c ≤ 9223372036854775807 := ⟨hm.2.2 h56, hc.2⟩
            rw [hs]
            by_cases h16 : 16 ≤ s.length
            · have h16' : s.length = 16 := by have := h.deep; omega
              rw [if_pos h16]
              rcases h56 with rfl | rfl
              · exact (take_deep_5 M B w d s v h y m t c _ hO hks h16').mono fun r w' ⟨h1, h2⟩ => ⟨h1, h2, .inl ⟨4, rfl⟩⟩
              · exact (take_deep_6 M B w d s v h y m t c _ hO hks h16').mono fun r w' ⟨h1, h2⟩ => ⟨h1, h2, .inl ⟨4, rfl⟩⟩
            · rw [if_neg h16]
              cases s with
              | nil =>
                rcases h56 with rfl | rfl
                · exact (take_open_5 M B w d v h y m t c _ hO hM hcc).mono fun r w' ⟨h1, h2, h3⟩ => ⟨h1, h2, .inr h3⟩
                · exact (take_open_6 M B w d v h y m t c _ hO hM hcc).mono fun r w' ⟨h1, h2, h3⟩ => ⟨h1, h2, .inr h3⟩
              | cons b l =>
                have hl : l.length + 1 < 16 := by simp at h16; omega
                rcases h56 with rfl | rfl
                · exact (take_more_5 M B w d b l v h y m t c _ hO hM hcc hks hl).mono fun r w' ⟨h1, h2, h3⟩ => ⟨h1, h2, .inr h3⟩
                · exact (take_more_6 M B w d b l v h y m t c _ hO hM hcc hks hl).mono fun r w' ⟨h1, h2, h3⟩ => ⟨h1, h2, .inr h3⟩
          · have hs : stepC (.live s) ⟨k, y, m, t, c⟩ = if s = [] then .done else .live (incB s) := by
              simp only [stepC]; rw [if_neg hnm, if_neg h7, if_neg hk, if_neg h56]
            rw [hs]
            have h5 : k ≠ 5 := fun h => h56 (.inl h)
            have h6 : k ≠ 6 := fun h => h56 (.inr h)
            by_cases h3 : k = 3
            · subst h3
              cases s with
              | nil => exact (take_text_nil M B w d v h y m t c _ hO hM).mono fun r w' ⟨h1, h2, h3⟩ => ⟨h1, h2, .inr h3⟩
              | cons b l => exact (take_text_in M B w d b l v h y m t c _ hO hM).mono fun r w' ⟨h1, h2, h3⟩ => ⟨h1, h2, .inr h3⟩
            · have hks : keyB s = false := by
                cases hq : keyB s with
                | false => rfl
                | true => exact absurd ⟨hq, h3⟩ hk
              cases s with
              | nil => exact (take_other_nil M B w d v h k y m t c _ hO h7 h3 h5 h6 hks hM).mono fun r w' ⟨h1, h2, h3⟩ => ⟨h1, h2, .inr h3⟩
              | cons b l => exact (take_other_in M B w d b l v h k y m t c _ hO h7 h3 h5 h6 hks hM).mono fun r w' ⟨h1, h2, h3⟩ => ⟨h1, h2, .inr h3⟩
  · have hO := fun w => of_any ⟨k, y, m, t, c⟩ w
    simp only [if_neg hm, decide_eq_false hm] at hO
    cases st with
    | bad f => exact absurd h id
    | done =>
      obtain ⟨v, h⟩ := h
      exact (takes_none M B w d [] true v h k y m t c _ hO).mono fun r w' ⟨h1, h2⟩ => ⟨h1, h2, .inl ⟨2, rfl⟩⟩
    | live s =>
      obtain ⟨v, h⟩ := h
      have hs : stepC (.live s) ⟨k, y, m, t, c⟩ = .bad 2 := by simp only [stepC]; rw [if_pos hm]
      rw [hs]
      exact (takes_none M B w d s false v h k y m t c _ hO).mono fun r w' ⟨h1, h2⟩ => ⟨h1, h2, .inl ⟨2, rfl⟩⟩
theorem errS_bad {s : Ck} (h : WfC s) {f : Nat} (hs : s = .bad f) : ((f : Int) != 0) = true := by
  subst hs
  rcases h with rfl | rfl | rfl <;> rfl
set_option maxHeartbeats 1000000 in
theorem check_any (A : Option Addr) (n cp : Nat) (E : Nat → Ev) (w : World) (hn : n ≤ 900) (hE : EvsAt w w.heap.size A n E) (hok : ∀ i, i < n → EvOk (E i)) :
    Calls Try.prog 15 #[.slice A n cp] w fun r w' => r = .returned (.int .i64 (checkE (pre E n) : Nat)) ∧ Below w.heap.size w w' := by
  obtain ⟨Z, hZ⟩ : ∃ Z : Nat, Z = checkE (pre E n) := ⟨_, rfl⟩
  rw [← hZ]
  have HZ := Lib.hid hZ
  have HE := Lib.hid hE
  have HOK := Lib.hid hok
  have HNN := Lib.hid hn
  have h0 : CkAt 0 w.heap.size (w.alloc (.cells #[.slice none 0 0, .bool false] 68)) w.heap.size (.live []) :=
    ⟨_, blk_new w _ _, Win.nil_ _ _ _, Nat.le_refl _, fun k hk => by simp [Value.owner] at hk, fun b hb => by simp at hb, by simp, by omega⟩
  have H0 := Lib.hid h0
  clear h0 hZ hE hok
  go_enter Try.func15, Try.ntmps15
  go_wp2
  go_loopw [9] (fun i wr => ∃ j : Nat, i = .int .i64 j ∧ j ≤ n ∧ Hid (CkAt j w.heap.size wr w.heap.size (runC (.live []) (pre E j))) ∧ Hid (Below w.heap.size w wr) ∧ w.heap.size < wr.heap.size) (fun i _ => n - (RowKit.intOf i).toNat)
  case atStart => exact ⟨0, rfl, by omega, H0, Lib.hid (up_alloc (Below.refl _ _) _), by simp⟩
  case round =>
    obtain ⟨j, rfl, hjn, HC, HB, hwl⟩ := hrel
    by_cases hlt : j < n
    · obtain ⟨b, off, rfl, hb, x0, x1, x2, x3, x4⟩ := (HE.out.below HB.out).cells hlt
      have hS := run_succ E (.live []) j
      have hO := HOK.out j hlt
      have hwf := wf_runC (pre E (j + 1)) (.live []) trivial
      have hbad : ∀ f, runC (.live []) (pre E (j + 1)) = .bad f → Z = f := fun f hf => by
        rw [HZ.out, checkE, ck_bad_at E _ (show j + 1 ≤ n by omega) hf]
        rfl
      generalize hs2 : runC (.live []) (pre E (j + 1)) = s2 at hS hwf hbad
      generalize runC (.live []) (pre E j) = s1 at HC hS
      generalize E j = e at x0 x1 x2 x3 x4 hS hO
      have TK := Lib.hid fun X => take_any j w.heap.size (wr.alloc X) w.heap.size s1 (HC.out.go (up_alloc (Below.refl _ _) X)) e hO (by have := HNN.out; omega)
      have HB1 : ∀ X, Hid (Below w.heap.size w (wr.alloc X)) := fun X => Lib.hid (up_alloc HB.out X)
      rw [← hS] at TK
      have HS2 := Lib.hid hs2
      obtain ⟨k, y, m, t, c⟩ := e
      simp only [evV] at TK x0 x1 x2 x3 x4
      clear hS hO hs2 hn HC HB
      by_cases hq : ∃ f, s2 = .bad f
      · obtain ⟨f, rfl⟩ := hq
        obtain rfl := hbad f rfl
        have hz := errS_bad hwf rfl
        clear hwf hbad
        simp only [errS] at TK
        go_wp2_with fail
        refine (TK.out _).mono ?_
        rintro e w2 ⟨rfl, hb2, _⟩
        have HB2 := Lib.hid ((HB1 _).out.trans hb2)
        clear hb2 TK
        go_wp2
        go_ret
        exact ⟨rfl, HB2.out⟩
      · have h0 : errS s2 = 0 := by
          cases s2 with
          | bad f => exact absurd ⟨f, rfl⟩ hq
          | live s => rfl
          | done => rfl
        have HQ := Lib.hid hq
        clear hwf hbad hq
        rw [h0] at TK
        go_wp2_with fail
        refine (TK.out _).mono ?_
        rintro e w2 ⟨rfl, hb2, hc2⟩
        have HB2 := Lib.hid ((HB1 _).out.trans hb2)
        have hlw : w.heap.size < w2.heap.size := Nat.lt_of_lt_of_le hwl (Nat.le_trans (by simp) hb2.size)
        have HC2 : Hid (CkAt (j + 1) w.heap.size w2 w.heap.size s2) := Lib.hid (hc2.resolve_left HQ.out)
        clear hb2 hc2 TK
        go_wp2
        go_roundw
        case rel => exact ⟨j + 1, by rw [wrap_succ (by have := HNN.out; omega)]; rfl, hlt, by rw [HS2.out]; exact HC2, HB2, hlw⟩
        case measure => rw [wrap_succ (by have := HNN.out; omega)]; simp [RowKit.intOf]; omega
    · obtain rfl : j = n := by omega
      have hz : Z = errC (runC (.live []) (pre E j)) := HZ.out
      generalize runC (.live []) (pre E j) = s1 at HC hz
      cases s1 with
      | bad f => exact absurd HC.out id
      | live s =>
        obtain ⟨v, hD⟩ := HC.out
        have c1 := hD.own.cell 1
        obtain rfl : Z = 3 := hz
        clear hD
        go_wp2
        go_ret
        exact ⟨rfl, HB.out⟩
      | done =>
        obtain ⟨v, hD⟩ := HC.out
        have c1 := hD.own.cell 1
        obtain rfl : Z = 0 := hz
        clear hD
        go_wp2
        go_ret
        exact ⟨rfl, HB.out⟩
end Go.Proofs.Ytgknpheefbfnlaa
/-
  CHECK of a list of parts that a call made.
-/
namespace Go.Proofs.Ytgknpheefbfnlaa
open Go.RowKit
open Go.Lib
/-- Check, of a list that a call made. -/
theorem check_win {w : World} {a : Option Addr} {m cap : Nat} {T : TypeId} {L : List Ev} (h : Win w T 5 (.slice a m cap) m (evsC L)) (hm : L.length = m) (hn : m ≤ 900) (hok : ∀ e ∈ L, EvOk e) :
    Calls Try.prog 15 #[.slice a m cap] w fun r w' => r = .returned (.int .i64 (checkE L : Nat)) ∧ Below w.heap.size w w' := by
  have := check_any a m cap (getE L) w hn (evs_win h (by omega)) (fun i hi => ok_getE hok i (by omega))
  rwa [← hm, pre_getE, hm] at this
end Go.Proofs.Ytgknpheefbfnlaa
/-
  LAWS of chapter 13, over CinAll: CborinChecks.
-/
namespace Go.Proofs.Ytgknpheefbfnlaa
open Go.RowKit
open Go.Lib
/-! ### CborinChecks -/
set_option maxRecDepth 100000 in
set_option maxHeartbeats 2000000 in
theorem cchecks_out (H : CinAll) (x : ByteArray) (d : Int) (w : World) (h : ¬ (x.size ≤ 300 ∧ 1 ≤ d ∧ d ≤ 16)) :
    Calls Try.prog 3 #[.string x, .int .i64 d] w fun r w' => r = .returned (.bool true) ∧ Below w.heap.size w w' := by
  have HA := Lib.hid (calive_any H w)
  by_cases h1 : x.size ≤ 300
  · have h1' : ((300 : Int) < (x.size : Int)) = False := by simp; omega
    by_cases h2 : 1 ≤ d
    · have h2' : (d < 1) = False := by simp; omega
      have h3' : ((16 : Int) < d) = True := by simp; omega
      clear h h1 h2
      go_enter Try.func3, Try.ntmps3
      go_wp2_with fail
      refine HA.out.mono ?_
      rintro r w1 ⟨rfl, b1⟩
      have B1 := Lib.hid b1
      clear b1
      go_wp2
      go_ret
      exact ⟨rfl, B1.out⟩
    · have h2' : (d < 1) = True := by simp; omega
      clear h h1 h2
      go_enter Try.func3, Try.ntmps3
      go_wp2_with fail
      refine HA.out.mono ?_
      rintro r w1 ⟨rfl, b1⟩
      have B1 := Lib.hid b1
      clear b1
      go_wp2
      go_ret
      exact ⟨rfl, B1.out⟩
  · have h1' : ((300 : Int) < (x.size : Int)) = True := by simp; omega
    clear h h1
    go_enter Try.func3, Try.ntmps3
    go_wp2_with fail
    refine HA.out.mono ?_
    rintro r w1 ⟨rfl, b1⟩
    have B1 := Lib.hid b1
    clear b1
    go_wp2
    go_ret
    exact ⟨rfl, B1.out⟩
set_option maxRecDepth 100000 in
set_option maxHeartbeats 2000000 in
theorem cchecks_in (H : CinAll) (x : ByteArray) (D : Nat) (w : World) (hx : x.size ≤ 300) (hD : 1 ≤ D ∧ D ≤ 16) :
    Calls Try.prog 3 #[.string x, .int .i64 D] w fun r w' => r = .returned (.bool true) ∧ Below w.heap.size w w' := by
  have h1 : ((300 : Int) < (x.size : Int)) = False := by simp; omega
  have h2 : ((D : Int) < 1) = False := by simp; omega
  have h3 : ((16 : Int) < (D : Int)) = False := by simp; omega
  have HA := Lib.hid (calive_any H w)
  have HJ := Lib.hid (fun W => call_str H x D hD (by omega) W)
  have hc : ((allCi D x.data.toList).2 = 0 → checkE (allCi D x.data.toList).1 = 0) ∧ (checkE (allCi D x.data.toList).1 = 3 ∨ (checkE (allCi D x.data.toList).1 = 0 ∧ (allCi D x.data.toList).2 ≠ 3)) := by
    have h1 := all_checkC D hD.2 x.data.toList
    have h3 := all_moreC D hD.2 x.data.toList
    refine ⟨h1.1, ?_⟩
    by_cases he : (allCi D x.data.toList).2 = 3
    · exact .inl (h3 he)
    · rcases h1.2 with h | h
      · exact .inr ⟨h, he⟩
      · exact .inl h
  have HT := Lib.hid (all_told D x.data.toList).1
  have hl := (all_told D x.data.toList).2
  simp only [Array.length_toList] at hl
  have hl2 : (allCi D x.data.toList).1.length ≤ 900 := by
    have : x.data.size = x.size := rfl
    omega
  clear hx hD hl
  generalize allCi D x.data.toList = R at *
  obtain ⟨L, e⟩ := R
  simp only at hc HJ HT hl2
  have HC := Lib.hid hc
  obtain ⟨n, hn⟩ : ∃ n, L.length = n := ⟨_, rfl⟩
  rw [hn] at HJ hl2
  have HL := Lib.hid (And.intro hn hl2)
  clear hc hn hl2
  have key : ∀ c : Nat, checkE L = c → (e = 0 → c = 0) → (c = 3 ∨ (c = 0 ∧ e ≠ 3)) → Calls Try.prog 3 #[.string x, .int .i64 D] w fun r w' => r = .returned (.bool true) ∧ Below w.heap.size w w' := by
    intro c hc h0 hcc
    by_cases he : e = 0
    · subst he
      obtain rfl := h0 rfl
      have HCC := Lib.hid hc
      clear hc h0 hcc
      go_enter Try.func3, Try.ntmps3
      go_wp2_with fail
      refine HA.out.mono ?_
      rintro r w1 ⟨rfl, b1⟩
      have B1 := Lib.hid b1
      clear b1
      go_wp2_with fail
      refine (HJ.out _).mono ?_
      rintro r w2 ⟨u, rfl, hM⟩
      obtain ⟨a, cp, rfl, _, _⟩ := hM.2.1.slice_form
      have HM := Lib.hid hM
      have CK := Lib.hid (check_win hM.2.1 HL.out.1 HL.out.2 (fun e he => (HT.out e he).2.2.1))
      rw [HCC.out] at CK
      clear hM
      go_wp2_with fail
      refine CK.out.mono ?_
      rintro r w3 ⟨rfl, b3⟩
      have B3 := Lib.hid (up_trans (up_trans B1.out HM.out.1) b3)
      clear b3
      go_wp2
      go_ret
      exact ⟨rfl, B3.out⟩
    · have hz : ((e : Int) == 0) = false := by simp; omega
      have HCC := Lib.hid hc
      clear hc h0 he
      have hz3 : c = 3 ∨ (c = 0 ∧ ((e : Int) == 3) = false ∧ ((e : Int) != 3) = true ∧ ¬ (e = 3) ∧ ¬ ((e : Int) = 3)) := by
        rcases hcc with h | ⟨h, h'⟩
        · exact .inl h
        · exact .inr ⟨h, by simp; omega, by simp; omega, h', by omega⟩
      clear hcc
      rcases hz3 with rfl | ⟨rfl, hz3, hz4, hz5, hz6⟩
      all_goals
        go_enter Try.func3, Try.ntmps3
        go_wp2_with fail
        refine HA.out.mono ?_
        rintro r w1 ⟨rfl, b1⟩
        have B1 := Lib.hid b1
        clear b1
        go_wp2_with fail
        refine (HJ.out _).mono ?_
        rintro r w2 ⟨u, rfl, hM⟩
        obtain ⟨a, cp, rfl, _, _⟩ := hM.2.1.slice_form
        have HM := Lib.hid hM
        have CK := Lib.hid (check_win hM.2.1 HL.out.1 HL.out.2 (fun e he => (HT.out e he).2.2.1))
        rw [HCC.out] at CK
        clear hM
        go_wp2_with fail
        refine CK.out.mono ?_
        rintro r w3 ⟨rfl, b3⟩
        have B3 := Lib.hid (up_trans (up_trans B1.out HM.out.1) b3)
        clear b3
        go_wp2
        go_ret
        exact ⟨rfl, B3.out⟩
  exact key _ rfl HC.out.1 HC.out.2
theorem cchecks_row (H : CinAll) (x : ByteArray) (d : Int) (w : World) :
    Calls Try.prog 3 #[.string x, .int .i64 d] w fun r w' => r = .returned (.bool true) ∧ Below w.heap.size w w' := by
  by_cases h : x.size ≤ 300 ∧ 1 ≤ d ∧ d ≤ 16
  · obtain ⟨D, rfl⟩ : ∃ D : Nat, d = D := ⟨d.toNat, by omega⟩
    exact cchecks_in H x D w h.1 (by omega)
  · exact cchecks_out H x d w h
end Go.Proofs.Ytgknpheefbfnlaa
