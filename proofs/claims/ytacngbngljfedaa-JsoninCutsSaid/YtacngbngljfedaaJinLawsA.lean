/-
  LAWS of chapter 11: the first call (alive); JsoninChecks.
-/
import Derived.Test.YtacngbngljfedaaGg
import Derived.Test.YtacngbngljfedaaGf
namespace Go.Proofs.Ytacngbngljfedaa
open Go.RowKit
open Go.Lib
theorem alive_a : allJ 4 [123, 34, 97, 34, 58, 110, 117, 108, 108, 125] = ([evOpen true, evText [97], evNull, evEnd], 0) := by kernel_rfl
theorem alive_b : allJ 1 [91, 91, 49, 93, 93] = ([evOpen false], 4) := by kernel_rfl
set_option maxRecDepth 100000 in
set_option maxHeartbeats 4000000 in
theorem jalive_any (w : World) : Calls Try.prog 9 #[] w fun e w' => e = .returned (.bool true) ∧ Below w.heap.size w w' := by
  have HA := Lib.hid (fun W => jall_any [123, 34, 97, 34, 58, 110, 117, 108, 108, 125] 4 (by omega) (by simp) W)
  have HB := Lib.hid (fun W => jall_any [91, 91, 49, 93, 93] 1 (by omega) (by simp) W)
  rw [alive_a] at HA
  rw [alive_b] at HB
  go_enter Try.func9, Try.ntmps9
  go_wp2_with fail
  refine (HA.out _).mono ?_
  rintro r w1 ⟨u1, rfl, hM1⟩
  have H1 := Lib.hid hM1
  clear hM1
  go_wp2_with fail
  refine (HB.out _).mono ?_
  rintro r w2 ⟨u2, rfl, hM2⟩
  have hW := H1.out.2.1.keep fun k hk => hM2.1.block k (H1.out.2.1.lt k hk)
  have HBL := Lib.hid (up_trans H1.out.1 hM2.1)
  obtain ⟨g, off, cap, rfl, _, _, _, _, hc⟩ := hW.form (by decide)
  have c0 := (hc 0 (.int .i64 6) rfl).1
  have c1 := (hc 1 (.bool false) rfl).1
  have c2 := (hc 2 (.int .u64 0) rfl).1
  have c3 := (hc 3 (.string ⟨#[]⟩) rfl).1
  have c4 := (hc 4 (.int .i64 (-1)) rfl).1
  have c8 := (hc 8 (.string ⟨#[97]⟩) rfl).1
  have c15 := (hc 15 (.int .i64 7) rfl).1
  simp only [Nat.add_zero] at c0
  clear hc hW hM2
  go_wp2
  go_ret
  exact ⟨rfl, HBL.out⟩
theorem jall_str (x : ByteArray) (D : Nat) (hD : 1 ≤ D ∧ D ≤ 16) (hz : x.size ≤ 100000000) (w : World) :
    Calls Try.prog 10 #[.string x, .int .i64 D] w fun r w' => ∃ u, r = .returned (.tuple #[u, .int .i64 (allJ D x.data.toList).2]) ∧ Made w w' u (allJ D x.data.toList).1.length (allJ D x.data.toList).1 := by
  have := jall_any x.data.toList D hD (by simpa using hz) w
  simpa using this
/-! ### All that is read are told parts -/
def WfS1 (D : Nat) (s : Js) : Prop := match s.p with
  | .bad _ => True
  | .at_ st dn => WfX s.lx ∧ WfJ D st dn
theorem wfs_step (D : Nat) (s : Js) (h : WfS1 D s) (b : UInt8) : WfS1 D (stepJ D s b).1 ∧ ∀ e ∈ (stepJ D s b).2, ToldE e := by
  obtain ⟨lx, p⟩ := s
  cases p with
  | bad e => exact ⟨trivial, by simp [stepJ]⟩
  | at_ st dn =>
    have hw := step_wf lx h.1 b
    have ht := told_toks D (stepX lx b).2 (.at_ st dn) hw.2
    have hp := wf_toks (D := D) (stepX lx b).2 (p := .at_ st dn) h.2
    simp only [stepJ]
    cases hb : badX (stepX lx b).1 with
    | some e => exact ⟨trivial, by simp⟩
    | none =>
      refine ⟨?_, ht⟩
      simp only [WfS1]
      revert hp
      cases (toksJ D (.at_ st dn) (stepX lx b).2).1 with
      | bad e => exact fun _ => trivial
      | at_ st' dn' => exact fun hp => ⟨hw.1, hp⟩
theorem told_run (D : Nat) : ∀ (l : List UInt8) (s : Js), WfS1 D s → ∀ e ∈ (runJ D s l).2, ToldE e
  | [], s, _, e, he => by simp [runJ] at he
  | b :: l, s, h, e, he => by
    have hs := wfs_step D s h b
    simp only [runJ, List.mem_append] at he
    rcases he with he | he
    · exact hs.2 e he
    · exact told_run D l _ hs.1 e he
theorem told_all (D : Nat) (l : List UInt8) : ∀ e ∈ (allJ D l).1, ToldE e := by
  intro e he
  have h0 : WfS1 D ⟨.idle, .at_ [] false⟩ := ⟨trivial, ⟨fun h => (by cases h), by simp, trivial⟩⟩
  simp only [allJ, List.mem_append] at he
  rcases he with he | he
  · exact told_run D l _ h0 e he
  · exact told_fin D _ e he
theorem all_len (D : Nat) (l : List UInt8) : (allJ D l).1.length ≤ 2 * l.length + 1 := by
  have h1 := runJ_len D l ⟨.idle, .at_ [] false⟩
  have h2 := endJ_len D (runJ D ⟨.idle, .at_ [] false⟩ l).1
  simp only [allJ, List.length_append]
  omega
/-! ### JsoninChecks -/
set_option maxRecDepth 100000 in
set_option maxHeartbeats 2000000 in
theorem checks_out (x : ByteArray) (d : Int) (w : World) (h : ¬ (x.size ≤ 250 ∧ 1 ≤ d ∧ d ≤ 16)) :
    Calls Try.prog 3 #[.string x, .int .i64 d] w fun r w' => r = .returned (.bool true) ∧ Below w.heap.size w w' := by
  have HA := Lib.hid (jalive_any w)
  by_cases h1 : x.size ≤ 250
  · have h1' : ((250 : Int) < (x.size : Int)) = False := by simp; omega
    by_cases h2 : 1 ≤ d
    · have h2' : (d < 1) = False := by simp; omega
      have h3' : ((16 : Int) < d) = True := by simp; omega
      clear h h1 h2
      go_enter Try.func3, Try.ntmps3
      go_wp2_with fail
      refine HA.out.mono ?_
      rintro r w1 ⟨rfl, b1⟩
      have B1 := Lib.hid b1
      clear b1
      go_wp2
      go_ret
      exact ⟨rfl, B1.out⟩
    · have h2' : (d < 1) = True := by simp; omega
      clear h h1 h2
      go_enter Try.func3, Try.ntmps3
      go_wp2_with fail
      refine HA.out.mono ?_
      rintro r w1 ⟨rfl, b1⟩
      have B1 := Lib.hid b1
      clear b1
      go_wp2
      go_ret
      exact ⟨rfl, B1.out⟩
  · have h1' : ((250 : Int) < (x.size : Int)) = True := by simp; omega
    clear h h1
    go_enter Try.func3, Try.ntmps3
    go_wp2_with fail
    refine HA.out.mono ?_
    rintro r w1 ⟨rfl, b1⟩
    have B1 := Lib.hid b1
    clear b1
    go_wp2
    go_ret
    exact ⟨rfl, B1.out⟩
set_option maxRecDepth 100000 in
set_option maxHeartbeats 2000000 in
theorem checks_in (x : ByteArray) (D : Nat) (w : World) (hx : x.size ≤ 250) (hD : 1 ≤ D ∧ D ≤ 16) :
    Calls Try.prog 3 #[.string x, .int .i64 D] w fun r w' => r = .returned (.bool true) ∧ Below w.heap.size w w' := by
  have h1 : ((250 : Int) < (x.size : Int)) = False := by simp; omega
  have h2 : ((D : Int) < 1) = False := by simp; omega
  have h3 : ((16 : Int) < (D : Int)) = False := by simp; omega
  have HA := Lib.hid (jalive_any w)
  have HJ := Lib.hid (fun W => jall_str x D hD (by omega) W)
  have hc := all_check D hD.2 x.data.toList
  have HT := Lib.hid (told_all D x.data.toList)
  have hl := all_len D x.data.toList
  simp only [Array.length_toList] at hl
  have hl2 : (allJ D x.data.toList).1.length ≤ 900 := by
    have : x.data.size = x.size := rfl
    omega
  clear hx hD hl
  generalize allJ D x.data.toList = R at *
  obtain ⟨L, e⟩ := R
  simp only at hc HJ HT hl2
  have HC := Lib.hid hc
  obtain ⟨n, hn⟩ : ∃ n, L.length = n := ⟨_, rfl⟩
  rw [hn] at HJ hl2
  have HL := Lib.hid (And.intro hn hl2)
  clear hc hn hl2
  have key : ∀ c : Nat, checkE L = c → (e = 0 → c = 0) → (c = 0 ∨ c = 3) → Calls Try.prog 3 #[.string x, .int .i64 D] w fun r w' => r = .returned (.bool true) ∧ Below w.heap.size w w' := by
    intro c hc h0 hcc
    by_cases he : e = 0
    · subst he
      obtain rfl := h0 rfl
      have HCC := Lib.hid hc
      clear hc h0 hcc
      go_enter Try.func3, Try.ntmps3
      go_wp2_with fail
      refine HA.out.mono ?_
      rintro r w1 ⟨rfl, b1⟩
      have B1 := Lib.hid b1
      clear b1
      go_wp2_with fail
      refine (HJ.out _).mono ?_
      rintro r w2 ⟨u, rfl, hM⟩
      obtain ⟨a, cp, rfl, _, _⟩ := hM.2.1.slice_form
      have HM := Lib.hid hM
      have CK := Lib.hid (check_win hM.2.1 HL.out.1 HL.out.2 (fun e he => (HT.out e he).2.2))
      rw [HCC.out] at CK
      clear hM
      go_wp2_with fail
      refine CK.out.mono ?_
      rintro r w3 ⟨rfl, b3⟩
      have B3 := Lib.hid (up_trans (up_trans B1.out HM.out.1) b3)
      clear b3
      go_wp2
      go_ret
      exact ⟨rfl, B3.out⟩
    · have hz : ((e : Int) == 0) = false := by simp; omega
      have HCC := Lib.hid hc
      clear hc h0 he
      rcases hcc with rfl | rfl
      all_goals
        go_enter Try.func3, Try.ntmps3
        go_wp2_with fail
        refine HA.out.mono ?_
        rintro r w1 ⟨rfl, b1⟩
        have B1 := Lib.hid b1
        clear b1
        go_wp2_with fail
        refine (HJ.out _).mono ?_
        rintro r w2 ⟨u, rfl, hM⟩
        obtain ⟨a, cp, rfl, _, _⟩ := hM.2.1.slice_form
        have HM := Lib.hid hM
        have CK := Lib.hid (check_win hM.2.1 HL.out.1 HL.out.2 (fun e he => (HT.out e he).2.2))
        rw [HCC.out] at CK
        clear hM
        go_wp2_with fail
        refine CK.out.mono ?_
        rintro r w3 ⟨rfl, b3⟩
        have B3 := Lib.hid (up_trans (up_trans B1.out HM.out.1) b3)
        clear b3
        go_wp2
        go_ret
        exact ⟨rfl, B3.out⟩
  exact key _ rfl HC.out.1 HC.out.2
theorem checks_row (x : ByteArray) (d : Int) (w : World) :
    Calls Try.prog 3 #[.string x, .int .i64 d] w fun r w' => r = .returned (.bool true) ∧ Below w.heap.size w w' := by
  by_cases h : x.size ≤ 250 ∧ 1 ≤ d ∧ d ≤ 16
  · obtain ⟨D, rfl⟩ : ∃ D : Nat, d = D := ⟨d.toNat, by omega⟩
    exact checks_in x D w h.1 (by omega)
  · exact checks_out x d w h
end Go.Proofs.Ytacngbngljfedaa
