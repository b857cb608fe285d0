/-
  LAWS of chapter 17: StagePasses.
-/
import Derived.Test.YtkfidnfnehnhoaaStgL
import Derived.Test.YtkfidnfnehnhoaaDlat
import Derived.Test.YtkfidnfnehnhoaaDocR
import Derived.Test.YtkfidnfnehnhoaaDocO
namespace Go.Proofs.Ytkfidnfnehnhoaa
open Go.RowKit
open Go.Lib
theorem docG_size {e : Ev} (h : DocE e) : sizG e ≤ 29 := by
  have := sizG_le e
  have h2 := h.text.2
  rw [size_list] at h2
  omega
set_option maxRecDepth 100000 in
set_option maxHeartbeats 8000000 in
theorem gpasses_in (A : Option Addr) (n cp : Nat) (Li : Nat → Int) (lim : Int) (w : World) (hL : DLAt w w.heap.size A n Li) (hn : n ≤ 60) :
    Calls Try.prog 4 #[.slice A n cp, .int .i64 lim] w fun r w' => r = .returned (.bool true) ∧ Below w.heap.size w w' := by
  have t1 : ((60 : Int) < (n : Int)) = False := by simp; omega
  have HA := Lib.hid (galive_any w)
  have HN := Lib.hid (fun W => gk_new lim W)
  have HO := Lib.hid (fun e W => of_any e W)
  have hde := doc_e n Li 8
  have hps := doc_pos n Li 8 0
  have hlen := item_length n Li 8
  have HDOC := Lib.hid (fun W (h : DLAt W W.heap.size A n Li) => doc_any A n cp Li 8 W h (by omega) (by omega) (cap16 8 (by omega)))
  have HLI := Lib.hid hL
  generalize (itemD n Li 8 0).1 = I at *
  have HDE := Lib.hid (fun j (hj : j < I.length) => And.intro (hde _ (List.getElem_mem hj)) (hps _ (List.getElem_mem hj)))
  obtain ⟨N, hN⟩ : ∃ N, I.length = N := ⟨_, rfl⟩
  rw [hN] at HDOC hlen
  have HNN := Lib.hid hN
  have hN482 : N ≤ 482 := by omega
  generalize (min (max lim 0) 2000).toNat = LM at *
  clear hL hde hps hN hn hlen
  go_enter Try.func4, Try.ntmps4
  go_wp2_with fail
  refine HA.out.mono ?_
  rintro r w1 ⟨rfl, b1⟩
  have B1 := Lib.hid b1
  clear b1 HA
  go_wp2_with fail
  refine (HN.out _).mono ?_
  rintro r w2 ⟨b, rfl, h2⟩
  have H2 := Lib.hid h2
  have HL2 := Lib.hid (show DLAt w2 w2.heap.size A n Li from fun h0 => by
    obtain ⟨bb, off, h1, h3, h4⟩ := HLI.out.below (up_trans B1.out h2.bel) h0
    exact ⟨bb, off, h1, Nat.lt_of_lt_of_le h3 (up_trans B1.out h2.bel).size, h4⟩)
  clear h2 HN HLI
  go_wp2_with fail
  refine (HDOC.out _ HL2.out).mono ?_
  rintro r w3 ⟨v3, rfl, hM3⟩
  obtain ⟨a3, c3, rfl, _, _⟩ := hM3.2.1.slice_form
  have H3 := Lib.hid (H2.out.go hM3.1)
  have HI3 := Lib.hid hM3.2.1
  clear hM3 H2 HL2 HDOC
  go_wp2
  go_loopw [7, 8, 9, 10, 11, 12, 13, 29] (fun _ _ _ _ _ _ _ i wr => ∃ (j : Nat), i = .int .i64 j ∧ j ≤ N ∧ Hid (GK w1 wr b LM gs0 ∧ Win wr 34 5 (.slice a3 N c3) N (evsC I))) (fun _ _ _ _ _ _ _ i _ => N - (RowKit.intOf i).toNat)
  case atStart => exact ⟨0, rfl, by omega, Lib.hid ⟨H3.out, HI3.out⟩⟩
  case round =>
    obtain ⟨j, rfl, hj, HG⟩ := hrel
    by_cases hlt : j < N
    · have hjl : j < I.length := by rw [HNN.out]; exact hlt
      obtain ⟨hd, hp⟩ := HDE.out j hjl
      obtain ⟨g, off, hA, hb, x0, x1, x2, x3, x4⟩ := (evs_win HG.out.2 (n := N) (by rw [HNN.out]; exact Nat.le_refl _)).cells hlt
      subst hA
      have hge : getE I j = I[j] := by simp [getE, hjl]
      rw [hge] at x0 x1 x2 x3 x4
      generalize I[j] = e at *
      have hO := HO.out e
      rw [if_pos (docE_may hd), decide_eq_true (docE_may hd)] at hO
      have HO1 := Lib.hid hO
      have HST := Lib.hid (fun W (h : GK w1 W b LM gs0) => h.step e (docE_may hd) (by have := docG_size hd; omega))
      rw [none_pass (fun h => by have := h.2; omega)] at HST
      have HPL := Lib.hid (fun (w0 W : World) v (h : Vls w0 W v [e]) => gplain_at h (fun x hx => by rw [show x = e from by simpa using hx]; exact docE_may hd) (by simp))
      rw [show [e].map tidyE = [e] by simp [hd.tidy], show [e].length = 1 from rfl] at HPL
      have q0 := fun W => ev_neq e e W
      rw [sameE_refl] at q0
      generalize valE e = V at *
      obtain ⟨k, y, mg, t, c⟩ := e
      simp only [evV, Bool.not_true] at *
      clear hO hd hp hjl hge H3 HI3
      go_wp2_with fail
      refine (HO1.out _).mono ?_
      rintro r w4 ⟨rfl, b4⟩
      have B4 := Lib.hid (up_trans (up_alloc (Below.refl wr.heap.size wr) (.cells #[.int .i64 k, .bool y, .int .u64 (mg : Int), .string t, .int .i64 c] 34)) b4)
      have E4 := Lib.hid ((blk_new wr #[.int .i64 k, .bool y, .int .u64 (mg : Int), .string t, .int .i64 c] 34).go b4)
      have H5 := Lib.hid (HST.out _ (HG.out.1.go B4.out))
      have HI4 := Lib.hid (HG.out.2.keep fun k hk => B4.out.block k (HG.out.2.lt k hk))
      clear b4 HST HO1 x0 x1 x2 x3 x4 hb
      go_wp2_with fail
      refine H5.out.mono ?_
      rintro r w5 ⟨⟨v5, rfl, hv5⟩, h5, hoff⟩
      have HP := Lib.hid (HPL.out _ _ _ hv5)
      have H6 := Lib.hid h5
      have E5 : Hid (Blk w5 _ _ _) := Lib.hid (hoff _ _ _ _ E4.out (by decide))
      have HI5 := Lib.hid (HI4.out.keep fun k hk => by
        obtain ⟨cur, hc⟩ := HI4.out.typed k hk
        exact (hoff _ _ _ _ hc (by decide)).trans hc.symm)
      clear hv5 h5 hoff H5 HPL E4 HI4
      go_wp2_with fail
      refine HP.out.mono ?_
      rintro r w6 ⟨u6, rfl, hM6⟩
      obtain ⟨g6, off6, cap6, rfl, _, _, _, _, hc⟩ := hM6.2.1.form (by decide)
      have z0 := (hc 0 (.int .i64 k) rfl).1
      have z1 := (hc 1 (.bool y) rfl).1
      have z2 := (hc 2 (.int .u64 (mg : Int)) rfl).1
      have z3 := (hc 3 (.string t) rfl).1
      have z4 := (hc 4 (.int .i64 c) rfl).1
      simp only [Nat.add_zero] at z0
      obtain ⟨⟨y0, y1, y2, y3, y4⟩, _⟩ := (E5.out.go hM6.1).ev
      have H7 := Lib.hid (H6.out.go hM6.1)
      have HI6 := Lib.hid (HI5.out.keep fun k hk => hM6.1.block k (HI5.out.lt k hk))
      have HH : Hid (∀ p, Calls Try.prog 18 #[.pointer (some ⟨b, 0, none⟩)] (w6.drewN p) fun r w' => r = .returned (.int .i64 0) ∧ w' = w6.drewN p) := Lib.hid (fun p => ((H7.out.go (below_drN (Below.refl _ _) p)).held).mono (by
        rintro r w' ⟨a, b⟩
        exact ⟨a, b.symm⟩))
      have HM : Hid (∀ p, Calls Try.prog 15 #[.pointer (some ⟨b, 0, none⟩)] (w6.drewN p) fun r w' => r = .returned (.bool true) ∧ w' = w6.drewN p) := Lib.hid (fun p => ((H7.out.go (below_drN (Below.refl _ _) p)).empty).mono (by
        rintro r w' ⟨a, b⟩
        exact ⟨a, b.symm⟩))
      have HGO : Hid (∀ p, GK w1 (w6.drewN p) b LM gs0 ∧ Win (w6.drewN p) 34 5 (.slice (some ⟨g, off, none⟩) N c3) N (evsC I)) := Lib.hid (fun p => ⟨H7.out.go (below_drN (Below.refl _ _) p), HI6.out.drewN p⟩)
      clear hc hM6 HP H6 E5 HI5 H7 HI6
      go_wp2_with fail
      go_quiet ((first | (go_at_call 18; exact Calls.quiet_of_same (HH.out _)) | (go_at_call 15; exact Calls.quiet_of_same (HM.out _))))
      go_wp2
      go_roundw
      case rel => exact ⟨j + 1, rfl, hlt, Lib.hid (HGO.out _)⟩
      case measure => simp [RowKit.intOf]; omega
    · go_wp2
      go_ret
      exact ⟨rfl, up_trans B1.out HG.out.1.bel⟩
set_option maxRecDepth 100000 in
set_option maxHeartbeats 4000000 in
theorem gpasses_row (A : Option Addr) (n cp : Nat) (Li : Nat → Int) (lim : Int) (w : World) (hL : DLAt w w.heap.size A n Li) :
    Calls Try.prog 4 #[.slice A n cp, .int .i64 lim] w fun r w' => r = .returned (.bool true) ∧ Below w.heap.size w w' := by
  by_cases hn : n ≤ 60
  · exact gpasses_in A n cp Li lim w hL hn
  · have t1 : ((60 : Int) < (n : Int)) = True := by simp; omega
    have HA := Lib.hid (galive_any w)
    clear hL hn
    go_enter Try.func4, Try.ntmps4
    go_wp2_with fail
    refine HA.out.mono ?_
    rintro r w1 ⟨rfl, b1⟩
    have B1 := Lib.hid b1
    clear b1
    go_wp2
    go_ret
    exact ⟨rfl, B1.out⟩
end Go.Proofs.Ytkfidnfnehnhoaa
