/-
  CONTRACTS of the book's documents out of numbers: an item that is a number or a text (regions that draw, every order walked).
-/
import Derived.Test.YtkfidnfnehnhoaaDocC
import Derived.StillTail
import Derived.Deep.RegionLaw
namespace Go.Proofs.Ytkfidnfnehnhoaa
open Go.RowKit
open Go.Lib
theorem wp_reg_tail {P : Program} {id : Nat} {Q : Exit → Act → World → Prop} {a : Act} {w : World} {l : List Oper} (n : Nat) (hm : P.follows .mixedOrders = true) (hB : Region.lexTailB .any l.toArray n = true)
    (h : wpStill P l.toArray w.drew (fun a' => wpList P l.toArray Q (l.drop n) a' w.drew) (l.take n) a) : (Code.region id l.toArray true).wp P Q a w :=
  wp_region_still_tail n hm hB h
set_option maxHeartbeats 2000000 in
theorem plain2 {D n cp at_ m bl bd bo ba bn bi : Nat} (d : Nat) {A : Option Addr} {L : Nat → Int} {W w : World} {v : Value} {out : List Ev} (h : DS W A n cp L D bl bd bo ba bn bi w v m out at_) (h1 : at_ ≤ 900000000) (h2 : n ≤ 900000000) (h3 : m ≤ 900000000) (hx : nxD n L at_ % 8 = 2) :
    Calls Try.prog 32 #[.int .i64 d, .pointer (some ⟨bn, 0, none⟩), .pointer (some ⟨bo, 0, none⟩), .pointer (some ⟨bd, 0, none⟩), .pointer (some ⟨bi, 0, none⟩)] w fun r w' => ∃ v', r = .returned (.tuple #[]) ∧ DS W A n cp L D bl bd bo ba bn bi w' v' (m + 1) (out ++ [plainD (nxD n L at_)]) (at_ + 1) := by
  have hX := nxD_lt n L at_
  have x0 : w.cell? ⟨bn, 0, none⟩ = some (.func (.func 31) #[] #[.pointer (some ⟨ba, 0, none⟩), .pointer (some ⟨bl, 0, none⟩)]) := h.x.cell 0
  have HC := Lib.hid (next_ds h h1 h2)
  clear h
  generalize nxD n L at_ = x at hx hX HC
  have h8 := and8 x hX
  have h7 := dand7 x hX
  rw [hx] at h7
  have hq : x * x ≤ 65535 * 65535 := Nat.mul_le_mul (by omega) (by omega)
  have hp : (x : Int) * x = ((x * x : Nat) : Int) := (Int.natCast_mul _ _).symm
  have hpd : plainD x = ⟨2, decide (x / 8 % 2 = 1), x * x / 4, ⟨#[]⟩, 0⟩ := by
    unfold plainD
    rw [if_neg (by omega), if_neg (by omega), if_pos (by omega), hx, show (2 : Nat) ^ 2 = 4 from rfl]
  rw [hpd]
  clear hpd
  have hU : IntKind.u64.wrap (x : Int) = x := by rw [IntKind.wrap_u64]; omega
  generalize x * x = q at hq hp
  have hM : IntKind.u64.wrap ((x : Int) * x) = q := by rw [hp, IntKind.wrap_u64]; omega
  clear hp
  by_cases hb : x / 8 % 2 = 1
  · rw [if_pos hb] at h8
    rw [decide_eq_true hb]
    clear hb
    go_enter Try.func32, Try.ntmps32
    go_wp2_with (go_at_call 31; refine HC.out.mono ?_; rintro e w1 ⟨rfl, HN⟩; have HN := Lib.hid (HN.go (below_drw (Below.refl _ _))); have x1 := HN.out.o.cell 0; have x2 := HN.out.o.froz 0)
    clear HC x0
    have z1 : ∀ o, (w1.alloc o).drew.cell? ⟨bo, 0, none⟩ = some v := fun o => ((HN.out.o.go (up_alloc (Below.refl _ _) o)).cell 0)
    go_region_law (first
      | (refine step_append_win rfl _ _ _ rfl Try.underlying23 info_ev rfl rfl (HN.out.made.2.1.alloc _) _ rfl 1 _ (src_new _ Try.underlying23 5 1 (evsC [⟨2, true, q / 4, ⟨#[]⟩, 0⟩]) 34 _ rfl (evsC_one _) (heap_alloc_new w1 _)) (by unfold maxLen; omega) (by omega) ?_; intro v3 w3 hW3 hG3 hO3; have hD := HN.out.put ⟨2, true, q / 4, ⟨#[]⟩, 0⟩ (up_alloc (Below.refl _ _) _) hW3.out hG3.out hO3.out; have hH := HN.out.held (up_alloc (Below.refl _ _) _) hG3.out; have y1 := hH.cell 0; have y2 := hH.froz 0; obtain ⟨a3, c3, rfl, _, _⟩ := hD.made.2.1.slice_form; have hD := Lib.hid hD; clear hW3 hG3 hO3 hH))
    all_goals
      go_wp2
      refine bodyPost_end (results_none rfl _ _ _) rfl ?_
      exact ⟨_, rfl, hD.out⟩
  · rw [if_neg hb] at h8
    rw [decide_eq_false hb]
    clear hb
    go_enter Try.func32, Try.ntmps32
    go_wp2_with (go_at_call 31; refine HC.out.mono ?_; rintro e w1 ⟨rfl, HN⟩; have HN := Lib.hid (HN.go (below_drw (Below.refl _ _))); have x1 := HN.out.o.cell 0; have x2 := HN.out.o.froz 0)
    clear HC x0
    have z1 : ∀ o, (w1.alloc o).drew.cell? ⟨bo, 0, none⟩ = some v := fun o => ((HN.out.o.go (up_alloc (Below.refl _ _) o)).cell 0)
    go_region_law (first
      | (refine step_append_win rfl _ _ _ rfl Try.underlying23 info_ev rfl rfl (HN.out.made.2.1.alloc _) _ rfl 1 _ (src_new _ Try.underlying23 5 1 (evsC [⟨2, false, q / 4, ⟨#[]⟩, 0⟩]) 34 _ rfl (evsC_one _) (heap_alloc_new w1 _)) (by unfold maxLen; omega) (by omega) ?_; intro v3 w3 hW3 hG3 hO3; have hD := HN.out.put ⟨2, false, q / 4, ⟨#[]⟩, 0⟩ (up_alloc (Below.refl _ _) _) hW3.out hG3.out hO3.out; have hH := HN.out.held (up_alloc (Below.refl _ _) _) hG3.out; have y1 := hH.cell 0; have y2 := hH.froz 0; obtain ⟨a3, c3, rfl, _, _⟩ := hD.made.2.1.slice_form; have hD := Lib.hid hD; clear hW3 hG3 hO3 hH))
    all_goals
      go_wp2
      refine bodyPost_end (results_none rfl _ _ _) rfl ?_
      exact ⟨_, rfl, hD.out⟩
set_option maxHeartbeats 2000000 in
theorem plain3 {D n cp at_ m bl bd bo ba bn bi : Nat} (d : Nat) {A : Option Addr} {L : Nat → Int} {W w : World} {v : Value} {out : List Ev} (h : DS W A n cp L D bl bd bo ba bn bi w v m out at_) (h1 : at_ ≤ 900000000) (h2 : n ≤ 900000000) (h3 : m ≤ 900000000) (hx : nxD n L at_ % 8 = 3) :
    Calls Try.prog 32 #[.int .i64 d, .pointer (some ⟨bn, 0, none⟩), .pointer (some ⟨bo, 0, none⟩), .pointer (some ⟨bd, 0, none⟩), .pointer (some ⟨bi, 0, none⟩)] w fun r w' => ∃ v', r = .returned (.tuple #[]) ∧ DS W A n cp L D bl bd bo ba bn bi w' v' (m + 1) (out ++ [plainD (nxD n L at_)]) (at_ + 1) := by
  have hX := nxD_lt n L at_
  have x0 : w.cell? ⟨bn, 0, none⟩ = some (.func (.func 31) #[] #[.pointer (some ⟨ba, 0, none⟩), .pointer (some ⟨bl, 0, none⟩)]) := h.x.cell 0
  have HC := Lib.hid (next_ds h h1 h2)
  clear h
  generalize nxD n L at_ = x at hx hX HC
  have h8 := and8 x hX
  have h7 := dand7 x hX
  rw [hx] at h7
  have hq : x * x ≤ 65535 * 65535 := Nat.mul_le_mul (by omega) (by omega)
  have hp : (x : Int) * x = ((x * x : Nat) : Int) := (Int.natCast_mul _ _).symm
  have hpd : plainD x = ⟨2, decide (x / 8 % 2 = 1), x * x / 8, ⟨#[]⟩, 0⟩ := by
    unfold plainD
    rw [if_neg (by omega), if_neg (by omega), if_pos (by omega), hx, show (2 : Nat) ^ 3 = 8 from rfl]
  rw [hpd]
  clear hpd
  have hU : IntKind.u64.wrap (x : Int) = x := by rw [IntKind.wrap_u64]; omega
  generalize x * x = q at hq hp
  have hM : IntKind.u64.wrap ((x : Int) * x) = q := by rw [hp, IntKind.wrap_u64]; omega
  clear hp
  by_cases hb : x / 8 % 2 = 1
  · rw [if_pos hb] at h8
    rw [decide_eq_true hb]
    clear hb
    go_enter Try.func32, Try.ntmps32
    go_wp2_with (go_at_call 31; refine HC.out.mono ?_; rintro e w1 ⟨rfl, HN⟩; have HN := Lib.hid (HN.go (below_drw (Below.refl _ _))); have x1 := HN.out.o.cell 0; have x2 := HN.out.o.froz 0)
    clear HC x0
    have z1 : ∀ o, (w1.alloc o).drew.cell? ⟨bo, 0, none⟩ = some v := fun o => ((HN.out.o.go (up_alloc (Below.refl _ _) o)).cell 0)
    go_region_law (first
      | (refine step_append_win rfl _ _ _ rfl Try.underlying23 info_ev rfl rfl (HN.out.made.2.1.alloc _) _ rfl 1 _ (src_new _ Try.underlying23 5 1 (evsC [⟨2, true, q / 8, ⟨#[]⟩, 0⟩]) 34 _ rfl (evsC_one _) (heap_alloc_new w1 _)) (by unfold maxLen; omega) (by omega) ?_; intro v3 w3 hW3 hG3 hO3; have hD := HN.out.put ⟨2, true, q / 8, ⟨#[]⟩, 0⟩ (up_alloc (Below.refl _ _) _) hW3.out hG3.out hO3.out; have hH := HN.out.held (up_alloc (Below.refl _ _) _) hG3.out; have y1 := hH.cell 0; have y2 := hH.froz 0; obtain ⟨a3, c3, rfl, _, _⟩ := hD.made.2.1.slice_form; have hD := Lib.hid hD; clear hW3 hG3 hO3 hH))
    all_goals
      go_wp2
      refine bodyPost_end (results_none rfl _ _ _) rfl ?_
      exact ⟨_, rfl, hD.out⟩
  · rw [if_neg hb] at h8
    rw [decide_eq_false hb]
    clear hb
    go_enter Try.func32, Try.ntmps32
    go_wp2_with (go_at_call 31; refine HC.out.mono ?_; rintro e w1 ⟨rfl, HN⟩; have HN := Lib.hid (HN.go (below_drw (Below.refl _ _))); have x1 := HN.out.o.cell 0; have x2 := HN.out.o.froz 0)
    clear HC x0
    have z1 : ∀ o, (w1.alloc o).drew.cell? ⟨bo, 0, none⟩ = some v := fun o => ((HN.out.o.go (up_alloc (Below.refl _ _) o)).cell 0)
    go_region_law (first
      | (refine step_append_win rfl _ _ _ rfl Try.underlying23 info_ev rfl rfl (HN.out.made.2.1.alloc _) _ rfl 1 _ (src_new _ Try.underlying23 5 1 (evsC [⟨2, false, q / 8, ⟨#[]⟩, 0⟩]) 34 _ rfl (evsC_one _) (heap_alloc_new w1 _)) (by unfold maxLen; omega) (by omega) ?_; intro v3 w3 hW3 hG3 hO3; have hD := HN.out.put ⟨2, false, q / 8, ⟨#[]⟩, 0⟩ (up_alloc (Below.refl _ _) _) hW3.out hG3.out hO3.out; have hH := HN.out.held (up_alloc (Below.refl _ _) _) hG3.out; have y1 := hH.cell 0; have y2 := hH.froz 0; obtain ⟨a3, c3, rfl, _, _⟩ := hD.made.2.1.slice_form; have hD := Lib.hid hD; clear hW3 hG3 hO3 hH))
    all_goals
      go_wp2
      refine bodyPost_end (results_none rfl _ _ _) rfl ?_
      exact ⟨_, rfl, hD.out⟩
set_option maxHeartbeats 2000000 in
theorem plain4 {D n cp at_ m bl bd bo ba bn bi : Nat} (d : Nat) {A : Option Addr} {L : Nat → Int} {W w : World} {v : Value} {out : List Ev} (h : DS W A n cp L D bl bd bo ba bn bi w v m out at_) (h1 : at_ ≤ 900000000) (h2 : n ≤ 900000000) (h3 : m ≤ 900000000) (hx : nxD n L at_ % 8 = 4) :
    Calls Try.prog 32 #[.int .i64 d, .pointer (some ⟨bn, 0, none⟩), .pointer (some ⟨bo, 0, none⟩), .pointer (some ⟨bd, 0, none⟩), .pointer (some ⟨bi, 0, none⟩)] w fun r w' => ∃ v', r = .returned (.tuple #[]) ∧ DS W A n cp L D bl bd bo ba bn bi w' v' (m + 1) (out ++ [plainD (nxD n L at_)]) (at_ + 1) := by
  have hX := nxD_lt n L at_
  have x0 : w.cell? ⟨bn, 0, none⟩ = some (.func (.func 31) #[] #[.pointer (some ⟨ba, 0, none⟩), .pointer (some ⟨bl, 0, none⟩)]) := h.x.cell 0
  have HC := Lib.hid (next_ds h h1 h2)
  clear h
  generalize nxD n L at_ = x at hx hX HC
  have hpd : plainD x = ⟨3, false, 0, ⟨(textL x).toArray⟩, 0⟩ := by unfold plainD; rw [if_neg (by omega), if_neg (by omega), if_neg (by omega)]
  rw [hpd]
  clear hpd
  have HT := Lib.hid (fun w => text_any x hX w)
  generalize (⟨(textL x).toArray⟩ : ByteArray) = T at HT
  go_enter Try.func32, Try.ntmps32
  go_wp2_with (go_at_call 31; refine HC.out.mono ?_; rintro e w1 ⟨rfl, HN⟩; have HN := Lib.hid (HN.go (below_drw (Below.refl _ _))); have x1 := HN.out.o.cell 0; have x2 := HN.out.o.froz 0)
  clear HC x0
  go_region_law (first
    | (go_simp; (go_at_call 33); (refine (HT.out _).mono ?_); rintro e w2 ⟨rfl, HB⟩; have HN2 := Lib.hid (HN.out.go HB); have z2 := HN2.out.o.cell 0; have z3 := HN2.out.o.froz 0; have z4 : ∀ o, (w2.alloc o).cell? ⟨bo, 0, none⟩ = some v := fun o => ((HN2.out.o.go (up_alloc (Below.refl _ _) o)).cell 0); clear HB)
    | (refine step_append_win rfl _ _ _ rfl Try.underlying23 info_ev rfl rfl (HN2.out.made.2.1.alloc _) _ rfl 1 _ (src_new _ Try.underlying23 5 1 (evsC [⟨3, false, 0, T, 0⟩]) 34 _ rfl (evsC_one _) (heap_alloc_new w2 _)) (by unfold maxLen; omega) (by omega) ?_; intro v3 w3 hW3 hG3 hO3; have hD := HN2.out.put ⟨3, false, 0, T, 0⟩ (up_alloc (Below.refl _ _) _) hW3.out hG3.out hO3.out; have hH := HN2.out.held (up_alloc (Below.refl _ _) _) hG3.out; have y1 := hH.cell 0; have y2 := hH.froz 0; obtain ⟨a3, c3, rfl, _, _⟩ := hD.made.2.1.slice_form; have hD := Lib.hid hD; clear hW3 hG3 hO3 hH))
  all_goals
    go_wp2
    refine bodyPost_end (results_none rfl _ _ _) rfl ?_
    exact ⟨_, rfl, hD.out⟩
end Go.Proofs.Ytkfidnfnehnhoaa
