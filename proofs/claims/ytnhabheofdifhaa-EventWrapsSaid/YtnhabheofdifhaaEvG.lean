/-
  CONTRACT of the document's own Check (truchmanref1.Check): what the machine of EvPure tells of all parts.
-/
import Derived.Test.YtnhabheofdifhaaEvF
namespace Go.Proofs.Ytnhabheofdifhaa
open Go.RowKit
open Go.Lib
/-- The open containers, as a list of boxes. -/
structure Stk (M B : Nat) (w : World) (s : List Bx) (v : Value) : Prop where
  win : Win w 63 3 v s.length (bxsL s)
  vB : ∀ k ∈ Value.owner v, B ≤ k
  ok : ∀ b ∈ s, (-1 ≤ b.c ∧ b.c ≤ 9223372036854775807) ∧ b.have_ ≤ M
  deep : s.length ≤ 16
  most : M ≤ 1000
def RefAt (M B : Nat) (w : World) (o dn : Value) : Ck → Prop
  | .bad _ => False
  | .live s => dn = .bool false ∧ Stk M B w s o
  | .done => dn = .bool true ∧ Stk M B w [] o
theorem Stk.go {M B : Nat} {w w' : World} {s : List Bx} {v : Value} (h : Stk M B w s v) (k : Below w.heap.size w w') : Stk M B w' s v :=
  ⟨h.win.keep fun g hg => k.block g (h.win.lt g hg), h.vB, h.ok, h.deep, h.most⟩
theorem Stk.last {M B : Nat} {w : World} {b : Bx} {r : List Bx} {v : Value} (h : Stk M B w (b :: r) v) :
    ∃ g off N cap, v = .slice (some ⟨g, off, none⟩) N cap ∧ N = r.length + 1 ∧ N ≤ 9223372036854775807 ∧
      (w.cell? ⟨g, off + r.length * 3, none⟩ = some (.bool b.map) ∧ w.cell? ⟨g, off + r.length * 3 + 1, none⟩ = some (.int .i64 b.c) ∧ w.cell? ⟨g, off + r.length * 3 + 2, none⟩ = some (.int .i64 (b.have_ : Int))) ∧
      (w.frozen? ⟨g, off + r.length * 3, none⟩ = false ∧ w.frozen? ⟨g, off + r.length * 3 + 1, none⟩ = false ∧ w.frozen? ⟨g, off + r.length * 3 + 2, none⟩ = false) := by
  obtain ⟨g, off, cap, rfl, h1, h2, _, _, h3⟩ := h.win.form (by simp)
  have hl := bxsL_length r
  have hx : ∀ j u, (bxL b)[j]? = some u → w.cell? ⟨g, off + (r.length * 3 + j), none⟩ = some u ∧ w.frozen? ⟨g, off + (r.length * 3 + j), none⟩ = false := fun j u hu => by
    refine h3 _ u ?_
    rw [bxsL, ← hl, List.getElem?_append_right (by omega), Nat.add_sub_cancel_left]
    exact hu
  have x0 := hx 0 _ rfl
  have x1 := hx 1 _ rfl
  have x2 := hx 2 _ rfl
  simp only [← Nat.add_assoc, Nat.add_zero] at x0 x1 x2
  refine ⟨g, off, _, cap, rfl, by simp, ?_, ⟨x0.1, x1.1, x2.1⟩, ⟨x0.2, x1.2, x2.2⟩⟩
  unfold maxLen at h2
  simp only [List.length_cons] at h1 ⊢
  omega
theorem Stk.up {M B : Nat} {w : World} {s : List Bx} {v : Value} (h : Stk M B w s v) (hM : M + 1 ≤ 1000) : Stk (M + 1) B w s v :=
  ⟨h.win, h.vB, fun b hb => ⟨(h.ok b hb).1, Nat.le_succ_of_le (h.ok b hb).2⟩, h.deep, hM⟩
theorem Stk.inc {M B : Nat} {w : World} {b : Bx} {r : List Bx} {g off cap N : Nat} (h : Stk M B w (b :: r) (.slice (some ⟨g, off, none⟩) N cap)) (hM : M + 1 ≤ 1000) (hN : N = r.length + 1) :
    Stk (M + 1) B (w.setCell ⟨g, off + r.length * 3 + 2, none⟩ (.int .i64 ((b.have_ : Int) + 1))) (incB (b :: r)) (.slice (some ⟨g, off, none⟩) N cap) ∧ B ≤ g := by
  subst hN
  have hw := h.win.store (r.length * 3 + 2) (by rw [bxsL_length]; simp; omega) (.int .i64 ((b.have_ : Int) + 1))
  have hx : (bxsL (b :: r)).set (r.length * 3 + 2) (.int .i64 ((b.have_ : Int) + 1)) = bxsL (incB (b :: r)) := by
    simp only [bxsL, incB]
    rw [← bxsL_length, List.set_append, if_neg (by omega), Nat.add_sub_cancel_left]
    rfl
  rw [hx, ← Nat.add_assoc] at hw
  refine ⟨⟨hw, h.vB, fun x hx => ?_, h.deep, hM⟩, h.vB g (by simp [Value.owner])⟩
  simp only [incB, List.mem_cons] at hx
  rcases hx with rfl | hx
  · have := h.ok b (by simp)
    exact ⟨this.1, by simp only; omega⟩
  · have := h.ok x (List.mem_cons_of_mem _ hx)
    exact ⟨this.1, by omega⟩
/-- A slice that append made of old elements and new ones. -/
theorem stk_new {M B : Nat} {w w2 : World} {s : List Bx} {v v' : Value} (hB : B ≤ w.heap.size) (hv : ∀ k ∈ Value.owner v, B ≤ k) {n : Nat} {xs : List Value} (hn : n = s.length) (hx : xs = bxsL s)
    (hW : Win w2 63 3 v' n xs) (hG : w.grownBy w2 v.ownBlock) (hO : v'.ownBlock = v.ownBlock ∨ v'.ownBlock = some w.heap.size ∧ w.heap.size < w2.heap.size)
    (ok : ∀ b ∈ s, (-1 ≤ b.c ∧ b.c ≤ 9223372036854775807) ∧ b.have_ ≤ M) (deep : s.length ≤ 16) (most : M ≤ 1000) : Stk M B w2 s v' ∧ Below B w w2 := by
  subst hn hx
  refine ⟨⟨hW, fun k hk => ?_, ok, deep, most⟩, (Below.refl B w).grown hG hB fun k hk => hv k ((ob_iff _ _).1 hk)⟩
  rcases hO with e | ⟨e, _⟩
  · exact hv k ((ob_iff _ _).1 (e ▸ (ob_iff _ _).2 hk))
  · have := (ob_iff _ _).2 hk
    rw [e] at this
    cases this
    exact hB
theorem info_rbox : (Try.prog.info? 63).map (fun i => (i.zero, i.size, i.bytes)) = some (some (.agg #[.bool false, .int .i64 0, .int .i64 0]), 3, 24) := by kernel_rfl
set_option maxHeartbeats 4000000 in
set_option maxRecDepth 100000 in
theorem rcheck_any (A : Option Addr) (n cp : Nat) (E : Nat → Ev) (w : World) (hn : n ≤ 900) (hE : EvsAt w w.heap.size A n E) (hok : ∀ i, i < n → EvOk (E i)) :
    Calls Try.prog 21 #[.slice A n cp] w fun r w' => r = .returned (.int .i64 (checkE (pre E n) : Nat)) ∧ Below w.heap.size w w' := by
  obtain ⟨Z, hZ⟩ : ∃ Z : Nat, Z = checkE (pre E n) := ⟨_, rfl⟩
  rw [← hZ]
  have HZ := Lib.hid hZ
  have HE := Lib.hid hE
  have HOK := Lib.hid hok
  have HNN := Lib.hid hn
  have h0 : RefAt 0 w.heap.size w (.slice none 0 0) (.bool false) (runC (.live []) (pre E 0)) :=
    ⟨rfl, Win.nil_ _ _ _, fun k hk => by simp [Value.owner] at hk, fun b hb => by simp at hb, by simp, by omega⟩
  have H0 := Lib.hid h0
  clear h0 hZ hE hok
  go_enter Try.func21, Try.ntmps21
  go_wp2
  go_loopw [3, 4, 5] (fun o dn i wr => ∃ (j : Nat) (a : Option Addr) (l cap : Nat) (dd : Bool), o = .slice a l cap ∧ dn = .bool dd ∧ i = .int .i64 j ∧ j ≤ n ∧ Hid (RefAt j w.heap.size wr o dn (runC (.live []) (pre E j))) ∧ Hid (Below w.heap.size w wr)) (fun _ _ i _ => n - (RowKit.intOf i).toNat)
  case atStart => exact ⟨0, none, 0, 0, false, rfl, rfl, rfl, by omega, H0, Lib.hid (Below.refl _ _)⟩
  case round =>
    obtain ⟨j, a, l, cap, dd, rfl, rfl, rfl, hjn, HC, HB⟩ := hrel
    by_cases hlt : j < n
    · obtain ⟨b, off, rfl, hb, x0, x1, x2, x3, x4⟩ := (HE.out.below HB.out).cells hlt
      have hS := run_succ E (.live []) j
      have hO := HOK.out j hlt
      have hbad : ∀ f, runC (.live []) (pre E (j + 1)) = .bad f → Z = f := fun f hf => by
        rw [HZ.out, checkE, ck_bad_at E _ (show j + 1 ≤ n by omega) hf]
        rfl
      generalize hs2 : runC (.live []) (pre E (j + 1)) = s2 at hS hbad
      generalize runC (.live []) (pre E j) = s1 at HC hS
      generalize E j = e at x0 x1 x2 x3 x4 hS hO
      have HM := Lib.hid fun X => may_any e (wr.alloc X)
      have HS2 := Lib.hid hs2
      have HSS := Lib.hid hS
      have HBAD := Lib.hid hbad
      obtain ⟨k, y, m, t, c⟩ := e
      have hc : -9223372036854775808 ≤ c ∧ c ≤ 9223372036854775807 := hO.2.2.1
      have HCB := Lib.hid hc
      simp only [evV] at HM x0 x1 x2 x3 x4
      clear hO hs2 hn hS hbad hc
      by_cases hm : mayE ⟨k, y, m, t, c⟩
      · simp only [decide_eq_true hm] at HM
        cases s1 with
        | bad f => exact absurd HC.out id
        | done =>
          obtain ⟨hdd, hD⟩ := HC.out
          obtain rfl : dd = true := by cases hdd; rfl
          clear hdd
          obtain rfl : Z = 2 := HBAD.out 2 HSS.out
          clear hD hm
          go_wp2_with fail
          refine (HM.out _).mono ?_
          rintro e w1 ⟨rfl, hb1⟩
          have HB1 := Lib.hid (HB.out.trans ((up_trans (up_alloc (Below.refl _ _) _) hb1).mono HB.out.size))
          clear hb1
          go_wp2
          go_ret
          exact ⟨rfl, HB1.out⟩
        | live s =>
          obtain ⟨hdd, hD⟩ := HC.out
          obtain rfl : dd = false := by cases hdd; rfl
          clear hdd HC
          have hnm : ¬ ¬ mayE ⟨k, y, m, t, c⟩ := fun hh => hh hm
          by_cases h7 : k = 7
          · subst h7
            cases s with
            | nil =>
              obtain ⟨rfl, _⟩ : l = 0 ∧ True := by
                obtain ⟨a', cap', hv, _, _⟩ := hD.win.slice_form
                cases hv
                exact ⟨rfl, trivial⟩
              obtain rfl : Z = 2 := HBAD.out 2 (HSS.out.trans (by simp only [stepC]; rw [if_neg hnm, if_pos trivial]))
              clear hnm hm
              go_wp2_with fail
              refine (HM.out _).mono ?_
              rintro e w1 ⟨rfl, hb1⟩
              have E1 := Lib.hid ((blk_new wr _ _).go hb1)
              obtain ⟨⟨e0, e1, e2, e3, e4⟩, ef⟩ := E1.out.ev
              have D1 := Lib.hid ((hD.go (up_alloc (Below.refl _ _) _)).go hb1)
              have HB1 := Lib.hid (HB.out.trans ((up_trans (up_alloc (Below.refl _ _) _) hb1).mono HB.out.size))
              clear hb1 hD ef
              go_wp2
              go_ret
              exact ⟨rfl, HB1.out⟩
            | cons bx r =>
              have hs : stepC (.live (bx :: r)) ⟨7, y, m, t, c⟩ = if shutB bx then .bad 2 else if r = [] then .done else .live r := by simp only [stepC]; rw [if_neg hnm, if_pos trivial]
              rw [hs] at HSS
              clear hnm hm hs
              obtain ⟨g, off', N, cap', hv, hN, hN2, _, _⟩ := hD.last
              cases hv
              have hl : (l : Int) - 1 = (r.length : Int) := by omega
              have hl3 : r.length < l := by omega
              have hl4 : ((l : Int) == 0) = false := by rw [beq_eq_false_iff_ne]; omega
              have HN := Lib.hid hN
              clear hN
              go_wp2_with fail
              refine (HM.out _).mono ?_
              rintro e w1 ⟨rfl, hb1⟩
              have E1 := Lib.hid ((blk_new wr _ _).go hb1)
              obtain ⟨⟨e0, e1, e2, e3, e4⟩, ef⟩ := E1.out.ev
              have D1 := Lib.hid ((hD.go (up_alloc (Below.refl _ _) _)).go hb1)
              have HB1 := Lib.hid (HB.out.trans ((up_trans (up_alloc (Below.refl _ _) _) hb1).mono HB.out.size))
              clear hb1 hD ef
              obtain ⟨_, _, _, _, hv, hNa, hNb, ⟨y0, y1, y2⟩, ⟨z0, z1, z2⟩⟩ := D1.out.last
              simp only [Value.slice.injEq, Option.some.injEq, Addr.mk.injEq, and_true] at hv
              obtain ⟨⟨rfl, rfl⟩, rfl, rfl⟩ := hv
              clear hNa hNb
              have hok := D1.out.ok bx (by simp)
              obtain ⟨bm, bc, bh⟩ := bx
              simp only at y0 y1 y2 z0 z1 z2 hok
              have hbh : bh ≤ 1000 := Nat.le_trans hok.2 D1.out.most
              have HOKB := Lib.hid hok
              clear hok
              generalize hn' : r.length = n' at *
              have HNN' := Lib.hid hn'
              clear hn'
              cases bm
              · go_upto_region 17 with fail
                go_cut [72] (fun z wx => z = .bool (decide (shutB ⟨false, bc, bh⟩)) ∧ (w1.alloc (.cells #[.bool false, .int .i64 bc, .int .i64 (bh : Int)] 63)) = wx)
                case first => as_aux_lemma =>
                  have hs : shutB ⟨false, bc, bh⟩ ↔ (0 ≤ bc ∧ (bh : Int) ≠ bc) := by unfold shutB; simp
                  have hbc := HOKB.out.1.1
                  by_cases h1 : bc = -1
                  · subst h1
                    have hdc := Lib.hid (decide_eq_false (fun h => by rw [hs] at h; omega : ¬ shutB ⟨false, -1, bh⟩))
                    clear hs hbc
                    go_wp2
                    go_meet
                    exact ⟨by rw [hdc.out], rfl⟩
                  · have hz : (0 ≤ bc) = True := by simp; omega
                    by_cases h2 : (bh : Int) = bc
                    · have hdc := Lib.hid (decide_eq_false (fun h => by rw [hs] at h; omega : ¬ shutB ⟨false, bc, bh⟩))
                      have hz2 : ((bh : Int) != bc) = false := by simp [h2]
                      clear hs hbc h1 h2
                      go_wp2
                      go_meet
                      exact ⟨by rw [hdc.out], rfl⟩
                    · have hdc := Lib.hid (decide_eq_true (hs.2 ⟨by omega, h2⟩))
                      have hz2 : ((bh : Int) != bc) = true := by simp [h2]
                      clear hs hbc h1 h2
                      go_wp2
                      go_meet
                      exact ⟨by rw [hdc.out], rfl⟩
                case rest => as_aux_lemma =>
                  obtain ⟨rfl, rfl⟩ := hcut
                  by_cases hsh : shutB ⟨false, bc, bh⟩
                  · obtain rfl : Z = 2 := HBAD.out 2 (HSS.out.trans (if_pos hsh))
                    rw [decide_eq_true hsh]
                    have HSH := Lib.hid hsh
                    clear hsh
                    go_wp2
                    go_ret
                    exact ⟨rfl, up_alloc HB1.out _⟩
                  · rw [decide_eq_false hsh]
                    have hnx := HSS.out
                    rw [if_neg hsh] at hnx
                    have HNX := Lib.hid hnx
                    clear hsh hnx
                    obtain ⟨v', hsl, hw', ho'⟩ := D1.out.win.hi (P := Try.prog) (t := 61) Try.underlying61 (fun w => by kernel_rfl) r.length (by simp)
                    rw [bxsL, ← bxsL_length, List.take_left, HNN'.out] at hw'
                    rw [HNN'.out] at hsl
                    obtain ⟨a', cap', rfl, _, _⟩ := hw'.slice_form
                    have HW := Lib.hid (hw'.alloc (.cells #[.bool false, .int .i64 bc, .int .i64 (bh : Int)] 63))
                    have hn15 : n' ≤ 15 := by have h1 := D1.out.deep; have h2 := HNN'.out; simp only [List.length_cons] at h1; omega
                    have hl1 : ((l : Int) == 1) = decide (r = []) := by
                      have h1 := HNN'.out
                      have h2 := HN.out
                      cases r with
                      | nil => simp at h1; subst h1; subst h2; rfl
                      | cons x r => simp at h1; simp; omega
                    generalize hR : decide (r = []) = R at hl1
                    have HR := Lib.hid hR
                    clear hw' ho' hR
                    go_wp2_with (at_builtin; refine wpList_append_win rfl _ _ _ rfl Try.underlying61 info_rbox rfl rfl (Win.nil_ _ _ _) _ rfl n' _ (Win.src HW.out Try.underlying61 (bxsL_one _)) ?e1 ?e2 ?_)
                    case e1 => unfold maxLen; omega
                    case e2 => omega
                    intro v3 w3 hW3 hG3 hO3
                    have hW3' := hW3.out
                    have HK := Lib.hid (stk_new (M := j) (B := w.heap.size) (s := r) (by simp; have := HB1.out.size; omega) (by simp [Value.owner]) (by rw [HNN'.out]) (List.nil_append _) hW3' hG3.out (by simpa using hO3.out) (fun x hx => D1.out.ok x (List.mem_cons_of_mem _ hx)) (by rw [HNN'.out]; omega) D1.out.most)
                    obtain ⟨a3, c3, rfl, _, _⟩ := Win.slice_form hW3'
                    clear hW3 hG3 hO3 hW3'
                    go_wp2
                    go_roundw
                    case rel =>
                      refine ⟨j + 1, a3, n', c3, R, rfl, rfl, by rw [wrap_succ (by have := HNN.out; omega)]; rfl, hlt, ?_, Lib.hid ((up_alloc HB1.out _).trans HK.out.2)⟩
                      rw [HS2.out, HNX.out]
                      have hU := HK.out.1.up (by have := HNN.out; omega)
                      cases r with
                      | nil => rw [if_pos rfl]; exact Lib.hid ⟨by rw [← HR.out]; rfl, hU⟩
                      | cons x r => rw [if_neg (by simp)]; exact Lib.hid ⟨by rw [← HR.out]; rfl, hU⟩
                    case measure => rw [wrap_succ (by have := HNN.out; omega)]; simp [RowKit.intOf]; omega
              · go_upto_region 17 with fail
                go_cut [72] (fun z wx => z = .bool (decide (shutB ⟨true, bc, bh⟩)) ∧ (w1.alloc (.cells #[.bool true, .int .i64 bc, .int .i64 (bh : Int)] 63)) = wx)
                case first => as_aux_lemma =>
                  have hs : shutB ⟨true, bc, bh⟩ ↔ (0 ≤ bc ∧ (bh : Int) ≠ 2 * bc) ∨ bh % 2 = 1 := by unfold shutB; simp
                  have hbc := HOKB.out.1.1
                  by_cases h1 : bc = -1
                  · subst h1
                    have hm2 : (((bh : Int) % 2) != 0) = decide (bh % 2 = 1) := by rw [Bool.eq_iff_iff, bne_iff_ne, decide_eq_true_iff]; omega
                    have hdc : Hid (decide (shutB ⟨true, -1, bh⟩) = decide (bh % 2 = 1)) := Lib.hid (decide_eq_decide.2 (by rw [hs]; omega))
                    generalize decide (bh % 2 = 1) = D2 at hm2 hdc
                    clear hs hbc
                    go_wp2
                    go_meet
                    exact ⟨by rw [hdc.out], rfl⟩
                  · have hz : (0 ≤ bc) = True := by simp; omega
                    by_cases h6 : bc ≤ 2305843009213693952
                    · have hw : RowKit.wrap64 (2 * bc) = 2 * bc := by unfold RowKit.wrap64; omega
                      have hg : (2305843009213693952 < bc) = False := by simp; omega
                      by_cases h2 : (bh : Int) = 2 * bc
                      · have hdc := Lib.hid (decide_eq_false (fun h => by rw [hs] at h; omega : ¬ shutB ⟨true, bc, bh⟩))
                        have hz2 : ((bh : Int) != RowKit.wrap64 (2 * bc)) = false := by rw [hw]; simp [h2]
                        have hz3 : (((bh : Int) % 2) != 0) = false := by simp; omega
                        clear hs hbc h1 h2 h6 hw
                        go_wp2
                        go_meet
                        exact ⟨by rw [hdc.out], rfl⟩
                      · have hdc := Lib.hid (decide_eq_true (hs.2 (.inl ⟨by omega, h2⟩)))
                        have hz2 : ((bh : Int) != RowKit.wrap64 (2 * bc)) = true := by rw [hw]; simp [h2]
                        clear hs hbc h1 h2 h6 hw
                        go_wp2
                        go_meet
                        exact ⟨by rw [hdc.out], rfl⟩
                    · have hg : (2305843009213693952 < bc) = True := by simp; omega
                      have hdc := Lib.hid (decide_eq_true (hs.2 (.inl ⟨by omega, by omega⟩)))
                      generalize hq : ((bh : Int) != RowKit.wrap64 (2 * bc)) = Q
                      clear hs hbc h1 h6
                      cases Q
                      · go_wp2
                        go_meet
                        exact ⟨by rw [hdc.out], rfl⟩
                      · go_wp2
                        go_meet
                        exact ⟨by rw [hdc.out], rfl⟩
                case rest => as_aux_lemma =>
                  obtain ⟨rfl, rfl⟩ := hcut
                  by_cases hsh : shutB ⟨true, bc, bh⟩
                  · obtain rfl : Z = 2 := HBAD.out 2 (HSS.out.trans (if_pos hsh))
                    rw [decide_eq_true hsh]
                    have HSH := Lib.hid hsh
                    clear hsh
                    go_wp2
                    go_ret
                    exact ⟨rfl, up_alloc HB1.out _⟩
                  · rw [decide_eq_false hsh]
                    have hnx := HSS.out
                    rw [if_neg hsh] at hnx
                    have HNX := Lib.hid hnx
                    clear hsh hnx
                    obtain ⟨v', hsl, hw', ho'⟩ := D1.out.win.hi (P := Try.prog) (t := 61) Try.underlying61 (fun w => by kernel_rfl) r.length (by simp)
                    rw [bxsL, ← bxsL_length, List.take_left, HNN'.out] at hw'
                    rw [HNN'.out] at hsl
                    obtain ⟨a', cap', rfl, _, _⟩ := hw'.slice_form
                    have HW := Lib.hid (hw'.alloc (.cells #[.bool true, .int .i64 bc, .int .i64 (bh : Int)] 63))
                    have hn15 : n' ≤ 15 := by have h1 := D1.out.deep; have h2 := HNN'.out; simp only [List.length_cons] at h1; omega
                    have hl1 : ((l : Int) == 1) = decide (r = []) := by
                      have h1 := HNN'.out
                      have h2 := HN.out
                      cases r with
                      | nil => simp at h1; subst h1; subst h2; rfl
                      | cons x r => simp at h1; simp; omega
                    generalize hR : decide (r = []) = R at hl1
                    have HR := Lib.hid hR
                    clear hw' ho' hR
                    go_wp2_with (at_builtin; refine wpList_append_win rfl _ _ _ rfl Try.underlying61 info_rbox rfl rfl (Win.nil_ _ _ _) _ rfl n' _ (Win.src HW.out Try.underlying61 (bxsL_one _)) ?e1 ?e2 ?_)
                    case e1 => unfold maxLen; omega
                    case e2 => omega
                    intro v3 w3 hW3 hG3 hO3
                    have hW3' := hW3.out
                    have HK := Lib.hid (stk_new (M := j) (B := w.heap.size) (s := r) (by simp; have := HB1.out.size; omega) (by simp [Value.owner]) (by rw [HNN'.out]) (List.nil_append _) hW3' hG3.out (by simpa using hO3.out) (fun x hx => D1.out.ok x (List.mem_cons_of_mem _ hx)) (by rw [HNN'.out]; omega) D1.out.most)
                    obtain ⟨a3, c3, rfl, _, _⟩ := Win.slice_form hW3'
                    clear hW3 hG3 hO3 hW3'
                    go_wp2
                    go_roundw
                    case rel =>
                      refine ⟨j + 1, a3, n', c3, R, rfl, rfl, by rw [wrap_succ (by have := HNN.out; omega)]; rfl, hlt, ?_, Lib.hid ((up_alloc HB1.out _).trans HK.out.2)⟩
                      rw [HS2.out, HNX.out]
                      have hU := HK.out.1.up (by have := HNN.out; omega)
                      cases r with
                      | nil => rw [if_pos rfl]; exact Lib.hid ⟨by rw [← HR.out]; rfl, hU⟩
                      | cons x r => rw [if_neg (by simp)]; exact Lib.hid ⟨by rw [← HR.out]; rfl, hU⟩
                    case measure => rw [wrap_succ (by have := HNN.out; omega)]; simp [RowKit.intOf]; omega
          · cases s with
            | nil =>
              obtain ⟨rfl, _⟩ : l = 0 ∧ True := by
                obtain ⟨a', cap', hv, _, _⟩ := hD.win.slice_form
                cases hv
                exact ⟨rfl, trivial⟩
              have hs : stepC (.live []) ⟨k, y, m, t, c⟩ = if k = 5 ∨ k = 6 then .live [⟨decide (k = 6), c, 0⟩] else .done := by simp only [stepC]; rw [if_neg hnm, if_neg h7, if_neg (by simp [keyB])]; rfl
              rw [hs] at HSS
              have hcc : k = 5 ∨ k = 6 → -1 ≤ c := hm.2.2
              have hj1 : j + 1 ≤ 1000 := by have := HNN.out; omega
              have HJ := Lib.hid hj1
              clear hnm hm hs hj1
              have q7 : (k == 7) = false := by simpa using h7
              by_cases h5 : k = 5
              · subst h5
                clear h7 q7
                have hnx := HSS.out
                rw [if_pos (.inl rfl), show decide ((5 : Int) = 6) = false from rfl] at hnx
                have HNX := Lib.hid hnx
                have HCC : Hid (-1 ≤ c ∧ c ≤ 9223372036854775807) := Lib.hid ⟨hcc (.inl rfl), HCB.out.2⟩
                clear hnx hcc HSS
                go_wp2_with fail
                refine (HM.out _).mono ?_
                rintro e w1 ⟨rfl, hb1⟩
                have E1 := Lib.hid ((blk_new wr _ _).go hb1)
                obtain ⟨⟨e0, e1, e2, e3, e4⟩, ef⟩ := E1.out.ev
                have D1 := Lib.hid ((hD.go (up_alloc (Below.refl _ _) _)).go hb1)
                have HB1 := Lib.hid (HB.out.trans ((up_trans (up_alloc (Below.refl _ _) _) hb1).mono HB.out.size))
                clear hb1 hD ef
                go_wp2_with (at_builtin; refine wpList_append_win rfl _ _ _ rfl Try.underlying61 info_rbox rfl rfl (D1.out.win.alloc _) _ rfl 1 _ (src_new _ Try.underlying61 3 1 (bxL ⟨false, c, 0⟩) 63 _ rfl (bxsL_one [⟨false, c, 0⟩]) (heap_alloc_new w1 _)) ?e1 ?e2 ?_)
                case e1 => unfold maxLen; simp
                case e2 => simp
                intro v3 w3 hW3 hG3 hO3
                have HK := Lib.hid (stk_new (M := j + 1) (B := w.heap.size) (s := [⟨false, c, 0⟩]) (by simp; have := HB1.out.size; omega) D1.out.vB rfl rfl hW3.out hG3.out (by simpa using hO3.out) (fun x hx => by simp at hx; subst hx; exact ⟨HCC.out, Nat.zero_le _⟩) (by simp) HJ.out)
                obtain ⟨a3, c3, rfl, _, _⟩ := Win.slice_form hW3.out
                clear hW3 hG3 hO3
                go_wp2
                go_roundw
                case rel => exact ⟨j + 1, _, _, _, _, rfl, rfl, by rw [wrap_succ (by have := HNN.out; omega)]; rfl, hlt, by rw [HS2.out, HNX.out]; exact Lib.hid ⟨rfl, HK.out.1⟩, Lib.hid ((up_alloc HB1.out _).trans HK.out.2)⟩
                case measure => rw [wrap_succ (by have := HNN.out; omega)]; simp [RowKit.intOf]; omega
              · by_cases h6 : k = 6
                · subst h6
                  clear h7 q7 h5
                  have hnx := HSS.out
                  rw [if_pos (.inr rfl), show decide ((6 : Int) = 6) = true from rfl] at hnx
                  have HNX := Lib.hid hnx
                  have HCC : Hid (-1 ≤ c ∧ c ≤ 9223372036854775807) := Lib.hid ⟨hcc (.inr rfl), HCB.out.2⟩
                  clear hnx hcc HSS
                  go_wp2_with fail
                  refine (HM.out _).mono ?_
                  rintro e w1 ⟨rfl, hb1⟩
                  have E1 := Lib.hid ((blk_new wr _ _).go hb1)
                  obtain ⟨⟨e0, e1, e2, e3, e4⟩, ef⟩ := E1.out.ev
                  have D1 := Lib.hid ((hD.go (up_alloc (Below.refl _ _) _)).go hb1)
                  have HB1 := Lib.hid (HB.out.trans ((up_trans (up_alloc (Below.refl _ _) _) hb1).mono HB.out.size))
                  clear hb1 hD ef
                  go_wp2_with (at_builtin; refine wpList_append_win rfl _ _ _ rfl Try.underlying61 info_rbox rfl rfl (D1.out.win.alloc _) _ rfl 1 _ (src_new _ Try.underlying61 3 1 (bxL ⟨true, c, 0⟩) 63 _ rfl (bxsL_one [⟨true, c, 0⟩]) (heap_alloc_new w1 _)) ?e1 ?e2 ?_)
                  case e1 => unfold maxLen; simp
                  case e2 => simp
                  intro v3 w3 hW3 hG3 hO3
                  have HK := Lib.hid (stk_new (M := j + 1) (B := w.heap.size) (s := [⟨true, c, 0⟩]) (by simp; have := HB1.out.size; omega) D1.out.vB rfl rfl hW3.out hG3.out (by simpa using hO3.out) (fun x hx => by simp at hx; subst hx; exact ⟨HCC.out, Nat.zero_le _⟩) (by simp) HJ.out)
                  obtain ⟨a3, c3, rfl, _, _⟩ := Win.slice_form hW3.out
                  clear hW3 hG3 hO3
                  go_wp2
                  go_roundw
                  case rel => exact ⟨j + 1, _, _, _, _, rfl, rfl, by rw [wrap_succ (by have := HNN.out; omega)]; rfl, hlt, by rw [HS2.out, HNX.out]; exact Lib.hid ⟨rfl, HK.out.1⟩, Lib.hid ((up_alloc HB1.out _).trans HK.out.2)⟩
                  case measure => rw [wrap_succ (by have := HNN.out; omega)]; simp [RowKit.intOf]; omega
                · have q5 : (k == 5) = false := by simpa using h5
                  have q6 : (k == 6) = false := by simpa using h6
                  have hnx := HSS.out
                  rw [if_neg (by omega)] at hnx
                  have HNX := Lib.hid hnx
                  clear hnx hcc HSS h5 h6 h7
                  go_wp2_with fail
                  refine (HM.out _).mono ?_
                  rintro e w1 ⟨rfl, hb1⟩
                  have E1 := Lib.hid ((blk_new wr _ _).go hb1)
                  obtain ⟨⟨e0, e1, e2, e3, e4⟩, ef⟩ := E1.out.ev
                  have D1 := Lib.hid ((hD.go (up_alloc (Below.refl _ _) _)).go hb1)
                  have HB1 := Lib.hid (HB.out.trans ((up_trans (up_alloc (Below.refl _ _) _) hb1).mono HB.out.size))
                  clear hb1 hD ef
                  go_wp2
                  go_roundw
                  case rel => exact ⟨j + 1, _, _, _, _, rfl, rfl, by rw [wrap_succ (by have := HNN.out; omega)]; rfl, hlt, by rw [HS2.out, HNX.out]; exact Lib.hid ⟨rfl, D1.out.up HJ.out⟩, Lib.hid HB1.out⟩
                  case measure => rw [wrap_succ (by have := HNN.out; omega)]; simp [RowKit.intOf]; omega
            | cons bx r =>
              have hs : stepC (.live (bx :: r)) ⟨k, y, m, t, c⟩ = if keyB (bx :: r) = true ∧ k ≠ 3 then .bad 8 else if k = 5 ∨ k = 6 then (if 16 ≤ r.length + 1 then .bad 4 else .live (⟨decide (k = 6), c, 0⟩ :: incB (bx :: r))) else .live (incB (bx :: r)) := by simp only [stepC]; rw [if_neg hnm, if_neg h7]; rfl
              rw [hs] at HSS
              have hcc : k = 5 ∨ k = 6 → -1 ≤ c := hm.2.2
              have hj1 : j + 1 ≤ 1000 := by have := HNN.out; omega
              have HJ := Lib.hid hj1
              have HC5 := Lib.hid hcc
              clear hnm hm hs hj1 hcc
              have q7 : (k == 7) = false := by simpa using h7
              obtain ⟨g, off', N, cap', hv, hN, hN2, _, _⟩ := hD.last
              cases hv
              have hl : (l : Int) - 1 = (r.length : Int) := by omega
              have hl3 : r.length < l := by omega
              have hl4 : ((l : Int) == 0) = false := by rw [beq_eq_false_iff_ne]; omega
              have hl5 : (0 < (l : Int)) = True := by simp; omega
              have HN := Lib.hid hN
              clear hN h7
              go_wp2_with fail
              refine (HM.out _).mono ?_
              rintro e w1 ⟨rfl, hb1⟩
              have E1 := Lib.hid ((blk_new wr _ _).go hb1)
              obtain ⟨⟨e0, e1, e2, e3, e4⟩, ef⟩ := E1.out.ev
              have D1 := Lib.hid ((hD.go (up_alloc (Below.refl _ _) _)).go hb1)
              have HB1 := Lib.hid (HB.out.trans ((up_trans (up_alloc (Below.refl _ _) _) hb1).mono HB.out.size))
              clear hb1 hD ef
              obtain ⟨_, _, _, _, hv, hNa, hNb, ⟨y0, y1, y2⟩, ⟨z0, z1, z2⟩⟩ := D1.out.last
              simp only [Value.slice.injEq, Option.some.injEq, Addr.mk.injEq, and_true] at hv
              obtain ⟨⟨rfl, rfl⟩, rfl, rfl⟩ := hv
              clear hNa hNb
              have hok := D1.out.ok bx (by simp)
              have hkey : keyB (bx :: r) = (bx.map && (bx.have_ % 2 == 0)) := rfl
              rw [hkey] at HSS
              obtain ⟨S, hS⟩ : ∃ S, S = incB (bx :: r) := ⟨_, rfl⟩
              rw [← hS] at HSS
              have HIN := Lib.hid hS
              obtain ⟨bm, bc, bh⟩ := bx
              simp only at y0 y1 y2 z0 z1 z2 hok HSS
              have hbh : (bh : Int) ≤ 1000 := by have := Nat.le_trans hok.2 D1.out.most; omega
              have HOKB := Lib.hid hok
              clear hok hkey hS
              generalize hn' : r.length = n' at *
              have HNN' := Lib.hid hn'
              clear hn'
              go_upto_region 23 with fail
              go_cut [99] (fun z wx => z = .bool (decide ((bm && (bh % 2 == 0)) = true ∧ k ≠ 3)) ∧ (w1.alloc (.cells #[.bool bm, .int .i64 bc, .int .i64 (bh : Int)] 63)) = wx)
              case first => as_aux_lemma =>
                have hwl := E1.out.lt
                cases bm
                · go_wp2
                  go_meet
                  exact ⟨rfl, rfl⟩
                · by_cases h2 : bh % 2 = 0
                  · have hm2 : (((bh : Int) % 2) == 0) = true := by rw [beq_iff_eq]; omega
                    have HB2 : Hid ((bh % 2 == 0) = true) := Lib.hid (by simp [h2])
                    clear h2
                    by_cases h3 : k = 3
                    · subst h3
                      go_wp2
                      go_meet
                      exact ⟨by simp, rfl⟩
                    · have hz : (k != 3) = true := by simpa using h3
                      have HD3 := Lib.hid h3
                      clear h3
                      go_wp2
                      go_meet
                      exact ⟨by rw [decide_eq_true ⟨by rw [HB2.out]; rfl, HD3.out⟩], rfl⟩
                  · have hm2 : (((bh : Int) % 2) == 0) = false := by rw [beq_eq_false_iff_ne]; omega
                    have HB2 : Hid ((bh % 2 == 0) = false) := Lib.hid (by simp [h2])
                    clear h2
                    go_wp2
                    go_meet
                    exact ⟨by rw [HB2.out]; simp, rfl⟩
              case rest => as_aux_lemma =>
                obtain ⟨rfl, rfl⟩ := hcut
                by_cases hkv : (bm && (bh % 2 == 0)) = true ∧ k ≠ 3
                · obtain rfl : Z = 8 := HBAD.out 8 (HSS.out.trans (if_pos hkv))
                  rw [decide_eq_true hkv]
                  clear hkv
                  go_wp2
                  go_ret
                  exact ⟨rfl, up_alloc HB1.out _⟩
                · rw [decide_eq_false hkv]
                  have hnx := HSS.out
                  rw [if_neg hkv] at hnx
                  have HNX := Lib.hid hnx
                  have hn15 : n' ≤ 15 := by have h1 := D1.out.deep; have h2 := HNN'.out; simp only [List.length_cons] at h1; omega
                  clear hkv hnx
                  have hlen : l = n' + 1 := HN.out
                  have HW0 : Hid (Win w1 63 3 (.slice (some ⟨g, off', none⟩) l cap) l (bxsL (⟨bm, bc, bh⟩ :: r))) := Lib.hid (by have h := D1.out.win; rw [show (⟨bm, bc, bh⟩ :: r : List Bx).length = l by rw [hlen]; simp [HNN'.out]] at h; exact h)
                  have hl16 : l ≤ 16 := by omega
                  clear hlen
                  have EB := Lib.hid (E1.out.alloc (.cells #[.bool bm, .int .i64 bc, .int .i64 (bh : Int)] 63))
                  go_wp2_with (at_builtin; refine wpList_append_win rfl _ _ _ rfl Try.underlying61 info_rbox rfl rfl (Win.nil_ _ _ _) _ rfl l _ (Win.src (HW0.out.alloc _) Try.underlying61 (bxsL_one _)) ?e1 ?e2 ?_)
                  case e1 => unfold maxLen; omega
                  case e2 => omega
                  intro v3 w3 hW3 hG3 hO3
                  have hlen2 : l = (⟨bm, bc, bh⟩ :: r : List Bx).length := by rw [HN.out]; simp [HNN'.out]
                  have hK := stk_new (M := j) (B := w.heap.size) (s := ⟨bm, bc, bh⟩ :: r) (by simp; have := HB1.out.size; omega) (by simp [Value.owner]) hlen2 rfl hW3.out hG3.out (by simpa using hO3.out) D1.out.ok D1.out.deep D1.out.most
                  have hb3 : Below (w1.alloc (.cells #[.bool bm, .int .i64 bc, .int .i64 (bh : Int)] 63)).heap.size (w1.alloc (.cells #[.bool bm, .int .i64 bc, .int .i64 (bh : Int)] 63)) w3 := (Below.refl _ _).grown hG3.out (Nat.le_refl _) (fun k hk => by simp [Value.ownBlock] at hk)
                  obtain ⟨g3, off3, N3, cap3, rfl, hN3, hN4, ⟨p0, p1, p2⟩, ⟨r0, r1, r2⟩⟩ := hK.1.last
                  obtain rfl : N3 = l := by rw [hN3, HNN'.out, HN.out]
                  have hg3 : wr.heap.size ≠ g3 := by
                    have h1 := E1.out.lt
                    have h2 := hO3.out
                    simp [Value.ownBlock] at h2
                    omega
                  obtain ⟨i1, i2⟩ := hK.1.inc HJ.out hN3
                  rw [← HIN.out] at i1
                  simp only [HNN'.out] at i1 p0 p1 p2 r0 r1 r2
                  have HB4 : Hid (Below w.heap.size w (w3.setCell ⟨g3, off3 + n' * 3 + 2, none⟩ (.int .i64 ((bh : Int) + 1)))) := Lib.hid (((up_alloc HB1.out _).trans hK.2).setCell i2 _)
                  have E4 : Hid (Blk (w3.setCell ⟨g3, off3 + n' * 3 + 2, none⟩ (.int .i64 ((bh : Int) + 1))) wr.heap.size _ _) := Lib.hid ((EB.out.go hb3).far (p := ⟨g3, off3 + n' * 3 + 2, none⟩) hg3 (.int .i64 ((bh : Int) + 1)))
                  have I4 := Lib.hid i1
                  have hSl : S.length = N3 := by rw [HIN.out, hlen2]; rfl
                  have HSl := Lib.hid hSl
                  clear hK hb3 hW3 hG3 hO3 hlen2 hg3 i1 i2 hN3 hSl EB HW0 y0 y1 y2 z0 z1 z2 e0 e1 e2 e3 e4 x0 x1 x2 x3 x4
                  go_upto_region 27 with fail
                  generalize w3.setCell ⟨g3, off3 + n' * 3 + 2, none⟩ (.int .i64 ((bh : Int) + 1)) = W at HB4 E4 I4 ⊢
                  have HWS : Hid (Win W 63 3 (.slice (some ⟨g3, off3, none⟩) N3 cap3) N3 (bxsL S)) := Lib.hid (by have h := I4.out.win; rw [HSl.out] at h; exact h)
                  have e0 := E4.out.cell 0
                  have e4 := E4.out.cell 4
                  clear p0 p1 p2 r0 r1 r2 hl hl3 hbh
                  by_cases h5 : k = 5
                  · subst h5
                    clear q7
                    have HCC : Hid (-1 ≤ c ∧ c ≤ 9223372036854775807) := Lib.hid ⟨HC5.out (by simp), HCB.out.2⟩
                    have hnx := HNX.out
                    rw [if_pos (by simp)] at hnx
                    by_cases h16 : 16 ≤ n' + 1
                    · have hz : (16 ≤ (N3 : Int)) = True := by have := HN.out; simp; omega
                      rw [if_pos h16] at hnx
                      obtain rfl : Z = 4 := HBAD.out 4 hnx
                      clear hnx h16 hl16 hn15
                      go_wp2
                      go_ret
                      exact ⟨rfl, HB4.out⟩
                    · have hz : (16 ≤ (N3 : Int)) = False := by have := HN.out; simp; omega
                      rw [if_neg h16] at hnx
                      have HNY := Lib.hid hnx
                      have h16b : N3 ≤ 15 := by have := HN.out; omega
                      clear hnx h16 hl16 hn15
                      go_wp2_with (at_builtin; refine wpList_append_win rfl _ _ _ rfl Try.underlying61 info_rbox rfl rfl (HWS.out.alloc _) _ rfl 1 _ (src_new _ Try.underlying61 3 1 (bxL ⟨false, c, 0⟩) 63 _ rfl (bxsL_one [⟨false, c, 0⟩]) (heap_alloc_new W _)) ?e1 ?e2 ?_)
                      case e1 => unfold maxLen; omega
                      case e2 => omega
                      intro v5 w5 hW5 hG5 hO5
                      have HK := Lib.hid (stk_new (M := j + 1) (B := w.heap.size) (s := ⟨false, c, 0⟩ :: S) (by simp; have := HB4.out.size; omega) I4.out.vB (by rw [List.length_cons, HSl.out]) rfl hW5.out hG5.out (by simpa using hO5.out) (fun x hx => by
                        rcases List.mem_cons.1 hx with rfl | hx
                        · exact ⟨HCC.out, Nat.zero_le _⟩
                        · exact I4.out.ok x hx) (by rw [List.length_cons, HSl.out]; omega) HJ.out)
                      obtain ⟨a5, c5, rfl, _, _⟩ := Win.slice_form hW5.out
                      clear hW5 hG5 hO5
                      go_wp2
                      go_roundw
                      case rel => exact ⟨j + 1, _, _, _, _, rfl, rfl, by rw [wrap_succ (by have := HNN.out; omega)]; rfl, hlt, by rw [HS2.out, HNY.out]; exact Lib.hid ⟨rfl, HK.out.1⟩, Lib.hid ((up_alloc HB4.out _).trans HK.out.2)⟩
                      case measure => rw [wrap_succ (by have := HNN.out; omega)]; simp [RowKit.intOf]; omega
                  · by_cases h6 : k = 6
                    · subst h6
                      clear q7 h5
                      have HCC : Hid (-1 ≤ c ∧ c ≤ 9223372036854775807) := Lib.hid ⟨HC5.out (by simp), HCB.out.2⟩
                      have hnx := HNX.out
                      rw [if_pos (by simp)] at hnx
                      by_cases h16 : 16 ≤ n' + 1
                      · have hz : (16 ≤ (N3 : Int)) = True := by have := HN.out; simp; omega
                        rw [if_pos h16] at hnx
                        obtain rfl : Z = 4 := HBAD.out 4 hnx
                        clear hnx h16 hl16 hn15
                        go_wp2
                        go_ret
                        exact ⟨rfl, HB4.out⟩
                      · have hz : (16 ≤ (N3 : Int)) = False := by have := HN.out; simp; omega
                        rw [if_neg h16] at hnx
                        have HNY := Lib.hid hnx
                        have h16b : N3 ≤ 15 := by have := HN.out; omega
                        clear hnx h16 hl16 hn15
                        go_wp2_with (at_builtin; refine wpList_append_win rfl _ _ _ rfl Try.underlying61 info_rbox rfl rfl (HWS.out.alloc _) _ rfl 1 _ (src_new _ Try.underlying61 3 1 (bxL ⟨true, c, 0⟩) 63 _ rfl (bxsL_one [⟨true, c, 0⟩]) (heap_alloc_new W _)) ?e1 ?e2 ?_)
                        case e1 => unfold maxLen; omega
                        case e2 => omega
                        intro v5 w5 hW5 hG5 hO5
                        have HK := Lib.hid (stk_new (M := j + 1) (B := w.heap.size) (s := ⟨true, c, 0⟩ :: S) (by simp; have := HB4.out.size; omega) I4.out.vB (by rw [List.length_cons, HSl.out]) rfl hW5.out hG5.out (by simpa using hO5.out) (fun x hx => by
                          rcases List.mem_cons.1 hx with rfl | hx
                          · exact ⟨HCC.out, Nat.zero_le _⟩
                          · exact I4.out.ok x hx) (by rw [List.length_cons, HSl.out]; omega) HJ.out)
                        obtain ⟨a5, c5, rfl, _, _⟩ := Win.slice_form hW5.out
                        clear hW5 hG5 hO5
                        go_wp2
                        go_roundw
                        case rel => exact ⟨j + 1, _, _, _, _, rfl, rfl, by rw [wrap_succ (by have := HNN.out; omega)]; rfl, hlt, by rw [HS2.out, HNY.out]; exact Lib.hid ⟨rfl, HK.out.1⟩, Lib.hid ((up_alloc HB4.out _).trans HK.out.2)⟩
                        case measure => rw [wrap_succ (by have := HNN.out; omega)]; simp [RowKit.intOf]; omega
                    · have q5 : (k == 5) = false := by simpa using h5
                      have q6 : (k == 6) = false := by simpa using h6
                      have hnx := HNX.out
                      rw [if_neg (by omega)] at hnx
                      have HNY := Lib.hid hnx
                      clear hnx h5 h6
                      go_wp2
                      go_roundw
                      case rel => exact ⟨j + 1, _, _, _, _, rfl, rfl, by rw [wrap_succ (by have := HNN.out; omega)]; rfl, hlt, by rw [HS2.out, HNY.out]; exact Lib.hid ⟨rfl, I4.out⟩, HB4⟩
                      case measure => rw [wrap_succ (by have := HNN.out; omega)]; simp [RowKit.intOf]; omega
      · simp only [decide_eq_false hm] at HM
        obtain rfl : Z = 2 := by
          cases s1 with
          | bad f => exact absurd HC.out id
          | done => exact HBAD.out 2 HSS.out
          | live s => exact HBAD.out 2 (HSS.out.trans (by simp only [stepC]; rw [if_pos hm]))
        clear hm
        go_wp2_with fail
        refine (HM.out _).mono ?_
        rintro e w1 ⟨rfl, hb1⟩
        have HB1 := Lib.hid (HB.out.trans ((up_trans (up_alloc (Below.refl _ _) _) hb1).mono HB.out.size))
        clear hb1
        go_wp2
        go_ret
        exact ⟨rfl, HB1.out⟩
    · obtain rfl : j = n := by omega
      have hz : Z = errC (runC (.live []) (pre E j)) := HZ.out
      generalize runC (.live []) (pre E j) = s1 at HC hz
      cases s1 with
      | bad f => exact absurd HC.out id
      | live s =>
        obtain ⟨hdd, hD⟩ := HC.out
        obtain rfl : dd = false := by cases hdd; rfl
        clear hdd
        obtain rfl : Z = 3 := hz
        clear hD
        go_wp2
        go_ret
        exact ⟨rfl, HB.out⟩
      | done =>
        obtain ⟨hdd, hD⟩ := HC.out
        obtain rfl : dd = true := by cases hdd; rfl
        clear hdd
        obtain rfl : Z = 0 := hz
        clear hD
        go_wp2
        go_ret
        exact ⟨rfl, HB.out⟩
end Go.Proofs.Ytnhabheofdifhaa
