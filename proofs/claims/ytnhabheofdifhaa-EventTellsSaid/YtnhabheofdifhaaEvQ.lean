/-
  LAWS of chapter 9: EventCuts.
-/
import Derived.Test.YtnhabheofdifhaaEvP
namespace Go.Proofs.Ytnhabheofdifhaa
open Go.RowKit
open Go.Lib
/-- '(at%n + n) % n' -/
theorem rem_place (a : Int) (n : Nat) (hn : 0 < n) (hm : n ≤ 1000000) : ∃ k : Nat, k < n ∧ ((wrap64 (a.tmod n + n)).tmod n) = (k : Int) := by
  have h1 := Int.tmod_lt_of_pos a (show (0 : Int) < n by omega)
  have h2 : -(n : Int) < a.tmod n := by
    have := Int.lt_tmod_of_pos a (show (0 : Int) < n by omega)
    exact this
  have hw : wrap64 (a.tmod n + n) = a.tmod n + n := by unfold wrap64; omega
  rw [hw]
  have h3 : 0 ≤ a.tmod n + n := by omega
  have h4 := Int.tmod_nonneg (n : Int) h3
  have h5 := Int.tmod_lt_of_pos (a.tmod n + n) (show (0 : Int) < n by omega)
  exact ⟨((a.tmod n + n).tmod n).toNat, by omega, by omega⟩
theorem cuts_size (A : Option Addr) (n cp : Nat) (k : Int) (w : World) (hn : n < 1 ∨ 60 < n) :
    Calls Try.prog 6 #[.slice A n cp, .int .i64 k] w fun r w' => r = .returned (.bool true) ∧ Below w.heap.size w w' := by
  rcases hn with h | h
  · obtain rfl : n = 0 := by omega
    clear h
    go_enter Try.func6, Try.ntmps6
    go_wp2_with fail
    refine (ev_alive _).mono ?_
    rintro e w1 ⟨rfl, b1⟩
    have B1 := Lib.hid b1
    clear b1
    go_wp2
    go_ret
    exact ⟨rfl, B1.out⟩
  · have h1 : ((n : Int) < 1) = False := by simp; omega
    have h2 : ((60 : Int) < (n : Int)) = True := by simp; omega
    clear h
    go_enter Try.func6, Try.ntmps6
    go_wp2_with fail
    refine (ev_alive _).mono ?_
    rintro e w1 ⟨rfl, b1⟩
    have B1 := Lib.hid b1
    clear b1
    go_wp2
    go_ret
    exact ⟨rfl, B1.out⟩
theorem pre_take (E : Nat → Ev) {m n : Nat} (h : m ≤ n) : pre E m = (pre E n).take m := by
  simp [pre, ← List.map_take, List.take_range, Nat.min_eq_left h]
set_option maxHeartbeats 1000000 in
theorem cuts_any (A : Option Addr) (n cp : Nat) (E : Nat → Ev) (k : Int) (w : World) (hcp : n ≤ cp) (hE : EvsAt w w.heap.size A n E) (hok : ∀ i, i < n → EvOk (E i)) :
    Calls Try.prog 6 #[.slice A n cp, .int .i64 k] w fun r w' => r = .returned (.bool true) ∧ Below w.heap.size w w' := by
  by_cases hn : n < 1 ∨ 60 < n
  · exact cuts_size A n cp k w hn
  · have h1 : ((n : Int) < 1) = False := by simp; omega
    have h2 : ((60 : Int) < (n : Int)) = False := by simp; omega
    have hn2 : 0 < n ∧ n ≤ 60 := by omega
    obtain ⟨b, off, rfl, _, _⟩ := hE hn2.1
    have HE := Lib.hid hE
    have HOK := Lib.hid hok
    have HN := Lib.hid hn2
    have hCk := check_any (some ⟨b, off, none⟩) n cp E w (by omega) hE hok
    obtain ⟨Z, hZ⟩ : ∃ Z : Nat, checkE (pre E n) = Z := ⟨_, rfl⟩
    rw [hZ] at hCk
    have CK := Lib.hid hCk
    obtain ⟨m, hm, hr⟩ := rem_place k n hn2.1 (by omega)
    have hs := fun W => slice_hi (g := b) (off := off) (n := n) (cap := cp) (k := m) Try.underlying38 (by omega) W
    have HM := Lib.hid hm
    have HZ := Lib.hid hZ
    have hn0 : ((n : Int) == 0) = false := by rw [beq_eq_false_iff_ne]; omega
    have hn1 : ¬ (n : Int) = 0 := by omega
    clear hCk hE hok hn hn2 hm hcp hZ
    by_cases h0 : Z = 0
    · subst h0
      have HR := Lib.hid hr
      have HS := Lib.hid hs
      clear hr hs
      go_enter Try.func6, Try.ntmps6
      go_wp2_with fail
      refine CK.out.mono ?_
      rintro e w1 ⟨rfl, b1⟩
      have B1 := Lib.hid b1
      have E1 := Lib.hid (HE.out.grow b1)
      clear b1
      go_wp2_with fail
      refine (ev_alive _).mono ?_
      rintro e w2 ⟨rfl, b2⟩
      have B2 := Lib.hid (up_trans B1.out b2)
      have E2 := Lib.hid (E1.out.grow b2)
      clear b2
      have hcut : checkE (pre E m) = 3 := by
        rw [pre_take E (Nat.le_of_lt HM.out)]
        exact check_cut _ HZ.out m (by rw [pre_length]; exact HM.out)
      have hCm := check_any (some ⟨b, off, none⟩) m cp E w2 (by have := HM.out; have := HN.out; omega) (fun h0 => by
        obtain ⟨b', off', hv, hb, hc⟩ := E2.out (Nat.lt_trans h0 HM.out)
        exact ⟨b', off', hv, hb, fun i hi => hc i (Nat.lt_trans hi HM.out)⟩) (fun i hi => HOK.out i (Nat.lt_trans hi HM.out))
      rw [hcut] at hCm
      have CM := Lib.hid hCm
      clear hCm hcut
      have hr := HR.out
      have hs := HS.out
      go_wp2_with fail
      refine CM.out.mono ?_
      rintro e w3 ⟨rfl, b3⟩
      have B3 := Lib.hid (up_trans B2.out b3)
      clear b3
      go_wp2
      go_ret
      exact ⟨rfl, B3.out⟩
    · have hz : ((Z : Int) != 0) = true := by simp; omega
      clear h0 hr hs hn0 hn1
      go_enter Try.func6, Try.ntmps6
      go_wp2_with fail
      refine CK.out.mono ?_
      rintro e w1 ⟨rfl, b1⟩
      have B1 := Lib.hid b1
      clear b1
      go_wp2_with fail
      refine (ev_alive _).mono ?_
      rintro e w2 ⟨rfl, b2⟩
      have B2 := Lib.hid (up_trans B1.out b2)
      clear b2
      go_wp2
      go_ret
      exact ⟨rfl, B2.out⟩
end Go.Proofs.Ytnhabheofdifhaa
