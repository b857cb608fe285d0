/-
  LAWS of chapter 17: StageNone.
-/
import Derived.Test.YtkfidnfnehnhoaaStgJ
namespace Go.Proofs.Ytkfidnfnehnhoaa
open Go.RowKit
open Go.Lib
def begG (m : Bool) : Ev := ⟨if m = true then 6 else 5, false, 0, ⟨#[]⟩, -1⟩
theorem begG_may (m : Bool) : mayE (begG m) := by cases m <;> decide
theorem begG_siz (m : Bool) : sizG (begG m) = 1 := by cases m <;> rfl
theorem begG_open (m : Bool) : opnE (begG m) := by cases m <;> decide
theorem none_open {e : Ev} (h : opnE e) : stepG 0 gs0 e = ⟨.bad, [], 10⟩ := by
  have h7 : ¬ (e.k = 7 ∧ ([] : List Cn).length = 1) := by simp
  have h1 := sizG_pos e
  simp only [stepG, gs0]
  rw [if_neg (by simp [h]), if_neg h7, if_pos (by omega)]
theorem none_pass {lim : Nat} {e : Ev} (h : ¬ opnE e) : stepG lim gs0 e = ⟨gs0, [e], 0⟩ := by
  simp only [stepG, gs0]
  rw [if_pos (by simp [h])]
theorem sizG_le (e : Ev) : sizG e ≤ 1 + e.t.size := by
  unfold sizG tidyE
  repeat' split
  all_goals first | exact Nat.le_refl _ | (show 1 + ByteArray.size ⟨#[]⟩ ≤ _; show 1 + 0 ≤ _; omega)
set_option maxRecDepth 100000 in
set_option maxHeartbeats 4000000 in
theorem gnone_off (e : Ev) (m : Bool) (w : World) (h : e.k = 7 ∨ 300 < e.t.size) (hs : e.t.size ≤ 9223372036854775807) :
    Calls Try.prog 8 #[evV e, .bool m] w fun r w' => r = .returned (.bool true) ∧ Below w.heap.size w w' := by
  obtain ⟨k, y, mg, t, c⟩ := e
  simp only [evV] at *
  have HA := Lib.hid (fun W => galive_any W)
  by_cases hk : k = 7
  · subst hk
    clear h
    go_enter Try.func8, Try.ntmps8
    go_wp2_with fail
    refine (HA.out _).mono ?_
    rintro r w1 ⟨rfl, b1⟩
    have B1 := Lib.hid (up_trans (up_alloc (Below.refl w.heap.size w) _) b1)
    clear b1
    go_wp2
    go_ret
    exact ⟨rfl, B1.out⟩
  · have h1 : (k == 7) = false := by simpa using hk
    have h2 : ((t.size : Int) > 300) = True := by
      rcases h with h | h
      · exact absurd h hk
      · simp; omega
    clear h hk
    go_enter Try.func8, Try.ntmps8
    go_wp2_with fail
    refine (HA.out _).mono ?_
    rintro r w1 ⟨rfl, b1⟩
    have B1 := Lib.hid (up_trans (up_alloc (Below.refl w.heap.size w) _) b1)
    clear b1
    go_wp2
    go_ret
    exact ⟨rfl, B1.out⟩
set_option maxRecDepth 100000 in
set_option maxHeartbeats 4000000 in
theorem gnone_in (e : Ev) (m : Bool) (w : World) (h7 : e.k ≠ 7) (ht : e.t.size ≤ 300) :
    Calls Try.prog 8 #[evV e, .bool m] w fun r w' => r = .returned (.bool true) ∧ Below w.heap.size w w' := by
  have HA := Lib.hid (fun W => galive_any W)
  have HO := Lib.hid (fun W => of_any e W)
  have HN := Lib.hid (fun W => gk_new 0 W)
  rw [show (min (max (0 : Int) 0) 2000).toNat = 0 by decide] at HN
  have HS := Lib.hid (fun (hm : mayE e) (w0 w : World) b (h : GK w0 w b 0 gs0) => h.step e hm (by have := sizG_le e; omega))
  have HB := Lib.hid (fun (w0 w : World) b (h : GK w0 w b 0 gs0) => h.step (begG m) (begG_may m) (by rw [begG_siz]; decide))
  rw [none_open (begG_open m)] at HB
  unfold begG at HB
  rw [valE_begin m (-1)] at HB
  have h1 : (e.k == 7) = false := by simpa using h7
  have h2 : ((e.t.size : Int) > 300) = False := by simp; omega
  have hcs : (((e.k == 5) = true ∧ e.k = 5 ∨ (e.k == 5) = false ∧ (e.k == 6) = true ∧ e.k = 6) ∧ (opnE e ∧ (e.c < 0) = True ∨ ¬ opnE e ∧ (mayE e → (e.c < 0) = False))) ∨ (e.k == 5) = false ∧ (e.k == 6) = false ∧ ¬ opnE e := by
    by_cases h : e.k = 5 ∨ e.k = 6
    · refine .inl ⟨?_, ?_⟩
      · rcases h with h | h <;> simp [h]
      · by_cases hc : e.c = -1
        · exact .inl ⟨⟨h, hc⟩, by simp [hc]⟩
        · refine .inr ⟨fun hh => hc hh.2, fun hm => ?_⟩
          have := hm.2.2 h
          simp
          omega
    · refine .inr ⟨?_, ?_, fun hh => h hh.1⟩ <;> simp <;> omega
  have hop : ∀ V, V = valE e → (∀ (w0 w : World) (b : Nat), mayE e → opnE e → GK w0 w b 0 gs0 → Calls Try.prog 13 #[.pointer (some ⟨b, 0, none⟩), V] w fun r w' => (∃ v, r = .returned (.tuple #[v, .int .i64 10]) ∧ Vls w0 w' v []) ∧ GK w0 w' b 0 .bad ∧ Off gts w w') ∧
      (∀ (w0 w : World) (b : Nat), mayE e → ¬ opnE e → GK w0 w b 0 gs0 → Calls Try.prog 13 #[.pointer (some ⟨b, 0, none⟩), V] w fun r w' => (∃ v, r = .returned (.tuple #[v, .int .i64 0]) ∧ Vls w0 w' v [e]) ∧ GK w0 w' b 0 gs0 ∧ Off gts w w') := fun V hV => by
    subst hV
    refine ⟨fun w0 w b hm ho h => ?_, fun w0 w b hm ho h => ?_⟩
    · have := HS.out hm w0 w b h
      rwa [none_open ho] at this
    · have := HS.out hm w0 w b h
      rwa [none_pass ho] at this
  obtain ⟨V, hV⟩ : ∃ V, V = valE e := ⟨_, rfl⟩
  have hst := hop V hV
  rw [← hV] at HO
  by_cases hm : mayE e
  · rw [if_pos hm, decide_eq_true hm] at HO
    have HS1 := Lib.hid (fun ho w0 w b => hst.1 w0 w b hm ho)
    have HS2 := Lib.hid (fun ho w0 w b => hst.2 w0 w b hm ho)
    have hcs2 : (opnE e ∧ ((e.k == 5) = true ∨ (e.k == 5) = false ∧ (e.k == 6) = true) ∧ (e.c < 0) = True) ∨ ¬ opnE e ∧ (((e.k == 5) = true ∨ (e.k == 5) = false ∧ (e.k == 6) = true) ∧ (e.c < 0) = False ∨ (e.k == 5) = false ∧ (e.k == 6) = false) := by
      rcases hcs with ⟨hk, hc⟩ | ⟨h5, h6, ho⟩
      · have hk' : ((e.k == 5) = true ∨ (e.k == 5) = false ∧ (e.k == 6) = true) := hk.elim (fun h => .inl h.1) (fun h => .inr ⟨h.1, h.2.1⟩)
        rcases hc with ⟨ho, hc⟩ | ⟨ho, hc⟩
        · exact .inl ⟨ho, hk', hc⟩
        · exact .inr ⟨ho, .inl ⟨hk', hc hm⟩⟩
      · exact .inr ⟨ho, .inr ⟨h5, h6⟩⟩
    clear hcs hop hst hV hm HS h7 ht
    obtain ⟨k, y, mg, t, c⟩ := e
    simp only [evV] at *
    have E0 := Lib.hid (blk_new w #[.int .i64 k, .bool y, .int .u64 (mg : Int), .string t, .int .i64 c] 34)
    rcases hcs2 with ⟨ho, hk, hc⟩ | ⟨ho, hkc⟩
    · have HST := Lib.hid (HS1.out ho)
      clear ho HS1 HS2 HB
      go_enter Try.func8, Try.ntmps8
      go_wp2_with fail
      refine (HA.out _).mono ?_
      rintro r w1 ⟨rfl, b1⟩
      have B1 := Lib.hid (up_trans (up_alloc (Below.refl w.heap.size w) (.cells #[.int .i64 k, .bool y, .int .u64 (mg : Int), .string t, .int .i64 c] 34)) b1)
      have hE := E0.out.go b1
      obtain ⟨⟨z0, z1, z2, z3, z4⟩, _⟩ := hE.ev
      have E1 := Lib.hid hE
      clear b1 hE E0
      go_wp2_with fail
      refine (HO.out _).mono ?_
      rintro r w2 ⟨rfl, b2⟩
      have B2 := Lib.hid (up_trans B1.out b2)
      have E2 := Lib.hid (E1.out.go b2)
      clear b2 E1 z0 z1 z2 z3 z4
      go_wp2_with fail
      refine (HN.out _).mono ?_
      rintro r w3 ⟨b, rfl, h3⟩
      have B3 := Lib.hid (up_trans B2.out h3.bel)
      have E3 := Lib.hid (E2.out.go h3.bel)
      have H4 := Lib.hid (HST.out _ _ _ h3)
      have hlt := E2.out.lt
      have hty : 34 ∉ gts := by decide
      clear h3 E2 HST
      go_wp2_with fail
      refine H4.out.mono ?_
      rintro r w4 ⟨⟨v4, rfl, hv4⟩, h4, hoff⟩
      obtain ⟨a4, c4, rfl⟩ := hv4.form
      have hE4 : Blk w4 _ _ _ := hoff _ _ _ _ E3.out hty
      obtain ⟨⟨z0, z1, z2, z3, z4⟩, _⟩ := hE4.ev
      have B4 := Lib.hid (B2.out.trans (h4.bel.mono B2.out.size))
      clear hE4 hoff hv4 h4 H4 E3
      rcases hk with hk | ⟨hk, hk2⟩
      all_goals
        go_wp2
        go_ret
        exact ⟨rfl, B4.out⟩
    · have HST := Lib.hid (HS2.out ho)
      clear ho HS1 HS2
      go_enter Try.func8, Try.ntmps8
      go_wp2_with fail
      refine (HA.out _).mono ?_
      rintro r w1 ⟨rfl, b1⟩
      have B1 := Lib.hid (up_trans (up_alloc (Below.refl w.heap.size w) (.cells #[.int .i64 k, .bool y, .int .u64 (mg : Int), .string t, .int .i64 c] 34)) b1)
      have hE := E0.out.go b1
      obtain ⟨⟨z0, z1, z2, z3, z4⟩, _⟩ := hE.ev
      have E1 := Lib.hid hE
      clear b1 hE E0
      go_wp2_with fail
      refine (HO.out _).mono ?_
      rintro r w2 ⟨rfl, b2⟩
      have B2 := Lib.hid (up_trans B1.out b2)
      have E2 := Lib.hid (E1.out.go b2)
      clear b2 E1 z0 z1 z2 z3 z4
      go_wp2_with fail
      refine (HN.out _).mono ?_
      rintro r w3 ⟨b, rfl, h3⟩
      have B3 := Lib.hid (up_trans B2.out h3.bel)
      have E3 := Lib.hid (E2.out.go h3.bel)
      have H4 := Lib.hid (HST.out _ _ _ h3)
      have hlt := E2.out.lt
      have hty : 34 ∉ gts := by decide
      clear h3 E2 HST
      go_wp2_with fail
      refine H4.out.mono ?_
      rintro r w4 ⟨⟨v4, rfl, hv4⟩, h4, hoff⟩
      obtain ⟨a4, c4, rfl⟩ := hv4.form
      have hE4 : Blk w4 _ _ _ := hoff _ _ _ _ E3.out hty
      obtain ⟨⟨z0, z1, z2, z3, z4⟩, _⟩ := hE4.ev
      have H5 := Lib.hid (HB.out _ _ _ h4)
      clear hE4 hoff hv4 h4 H4 E3 HB
      rcases hkc with ⟨hk | ⟨hk, hk2⟩, hc⟩ | ⟨hk, hk2⟩
      all_goals
        go_wp2_with fail
        refine H5.out.mono ?_
        rintro r w5 ⟨⟨v5, rfl, hv5⟩, h5, _⟩
        obtain ⟨a5, c5, rfl⟩ := hv5.form
        have H6 := Lib.hid h5.held
        have B5 := Lib.hid (B2.out.trans (h5.bel.mono B2.out.size))
        clear hv5 h5
        go_wp2_with fail
        refine H6.out.mono ?_
        rintro r w6 ⟨rfl, rfl⟩
        go_wp2
        go_ret
        exact ⟨rfl, B5.out⟩
  · rw [if_neg hm, decide_eq_false hm] at HO
    clear hcs hop hst hV hm HS h7 ht HB
    obtain ⟨k, y, mg, t, c⟩ := e
    simp only [evV] at *
    have E0 := Lib.hid (blk_new w #[.int .i64 k, .bool y, .int .u64 (mg : Int), .string t, .int .i64 c] 34)
    go_enter Try.func8, Try.ntmps8
    go_wp2_with fail
    refine (HA.out _).mono ?_
    rintro r w1 ⟨rfl, b1⟩
    have B1 := Lib.hid (up_trans (up_alloc (Below.refl w.heap.size w) (.cells #[.int .i64 k, .bool y, .int .u64 (mg : Int), .string t, .int .i64 c] 34)) b1)
    have hE := E0.out.go b1
    obtain ⟨⟨z0, z1, z2, z3, z4⟩, _⟩ := hE.ev
    clear b1 hE E0
    go_wp2_with fail
    refine (HO.out _).mono ?_
    rintro r w2 ⟨rfl, b2⟩
    have B2 := Lib.hid (up_trans B1.out b2)
    clear b2
    go_wp2
    go_ret
    exact ⟨rfl, B2.out⟩
theorem gnone_row (e : Ev) (m : Bool) (w : World) (hok : EvOk e) :
    Calls Try.prog 8 #[evV e, .bool m] w fun r w' => r = .returned (.bool true) ∧ Below w.heap.size w w' := by
  by_cases h : e.k = 7 ∨ 300 < e.t.size
  · exact gnone_off e m w h hok.2.2.2
  · exact gnone_in e m w (fun h' => h (.inl h')) (by have : ¬ 300 < e.t.size := fun h' => h (.inr h'); omega)
end Go.Proofs.Ytkfidnfnehnhoaa
