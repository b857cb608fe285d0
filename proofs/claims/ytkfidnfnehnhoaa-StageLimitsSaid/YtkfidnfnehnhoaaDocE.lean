/-
  CONTRACTS of the book's documents out of numbers: an item that would hold others, at the depth asked.
-/
import Derived.Test.YtkfidnfnehnhoaaDocD
import Derived.StillTail
import Derived.Deep.RegionLaw
namespace Go.Proofs.Ytkfidnfnehnhoaa
open Go.RowKit
open Go.Lib
set_option maxHeartbeats 2000000 in
theorem low5 {D n cp at_ m bl bd bo ba bn bi : Nat} (d : Nat) {A : Option Addr} {L : Nat → Int} {W w : World} {v : Value} {out : List Ev} (h : DS W A n cp L D bl bd bo ba bn bi w v m out at_) (h1 : at_ ≤ 900000000) (h2 : n ≤ 900000000) (h3 : m ≤ 900000000) (hx : nxD n L at_ % 8 = 5) (hd : D ≤ d) :
    Calls Try.prog 32 #[.int .i64 d, .pointer (some ⟨bn, 0, none⟩), .pointer (some ⟨bo, 0, none⟩), .pointer (some ⟨bd, 0, none⟩), .pointer (some ⟨bi, 0, none⟩)] w fun r w' => ∃ v', r = .returned (.tuple #[]) ∧ DS W A n cp L D bl bd bo ba bn bi w' v' (m + 1) (out ++ [lowD (nxD n L at_)]) (at_ + 1) := by
  have hX := nxD_lt n L at_
  have x0 : w.cell? ⟨bn, 0, none⟩ = some (.func (.func 31) #[] #[.pointer (some ⟨ba, 0, none⟩), .pointer (some ⟨bl, 0, none⟩)]) := h.x.cell 0
  have HC := Lib.hid (next_ds h h1 h2)
  clear h
  generalize nxD n L at_ = x at hx hX HC
  have hpd : lowD x = ⟨3, false, 0, ⟨#[]⟩, 0⟩ := by unfold lowD; rw [if_pos hx]
  rw [hpd]
  clear hpd
  go_enter Try.func32, Try.ntmps32
  go_wp2_with (first
    | (go_at_call 31; refine HC.out.mono ?_; rintro e w1 ⟨rfl, HN⟩; have x1 := HN.o.cell 0; have x2 := HN.o.froz 0; have x3 := HN.d.cell 0; have HN := Lib.hid HN)
    | (at_builtin; go_loud (refine wpList_append_win rfl _ _ _ rfl Try.underlying23 info_ev rfl rfl (HN.out.made.2.1.alloc _) _ rfl 1 _ (src_new _ Try.underlying23 5 1 (evsC [⟨3, false, 0, ⟨#[]⟩, 0⟩]) 34 _ rfl (evsC_one _) (heap_alloc_new _ _)) ?e1 ?e2 ?_)))
  case e1 => unfold maxLen; omega
  case e2 => omega
  intro v3 w3 hW3 hG3 hO3
  have hD := HN.out.put ⟨3, false, 0, ⟨#[]⟩, 0⟩ (up_alloc (Below.refl _ _) _) hW3.out hG3.out (by simpa using hO3.out)
  have hH := HN.out.held (up_alloc (Below.refl _ _) _) hG3.out
  have y1 := hH.cell 0
  have y2 := hH.froz 0
  obtain ⟨a3, c3, rfl, _, _⟩ := hD.made.2.1.slice_form
  have hD := Lib.hid hD
  clear hW3 hG3 hO3 hH x1 x2 x0 x3
  go_wp2
  refine bodyPost_ret (results_none rfl _ _ _) rfl ?_
  exact ⟨_, rfl, hD.out⟩
set_option maxHeartbeats 2000000 in
theorem low6 {D n cp at_ m bl bd bo ba bn bi : Nat} (d : Nat) {A : Option Addr} {L : Nat → Int} {W w : World} {v : Value} {out : List Ev} (h : DS W A n cp L D bl bd bo ba bn bi w v m out at_) (h1 : at_ ≤ 900000000) (h2 : n ≤ 900000000) (h3 : m ≤ 900000000) (hx : nxD n L at_ % 8 = 6) (hd : D ≤ d) :
    Calls Try.prog 32 #[.int .i64 d, .pointer (some ⟨bn, 0, none⟩), .pointer (some ⟨bo, 0, none⟩), .pointer (some ⟨bd, 0, none⟩), .pointer (some ⟨bi, 0, none⟩)] w fun r w' => ∃ v', r = .returned (.tuple #[]) ∧ DS W A n cp L D bl bd bo ba bn bi w' v' (m + 1) (out ++ [lowD (nxD n L at_)]) (at_ + 1) := by
  have hX := nxD_lt n L at_
  have x0 : w.cell? ⟨bn, 0, none⟩ = some (.func (.func 31) #[] #[.pointer (some ⟨ba, 0, none⟩), .pointer (some ⟨bl, 0, none⟩)]) := h.x.cell 0
  have HC := Lib.hid (next_ds h h1 h2)
  clear h
  generalize nxD n L at_ = x at hx hX HC
  have hpd : lowD x = ⟨2, false, x, ⟨#[]⟩, 0⟩ := by unfold lowD; rw [if_neg (by omega)]
  rw [hpd]
  clear hpd
  have hU : IntKind.u64.wrap (x : Int) = x := by rw [IntKind.wrap_u64]; omega
  go_enter Try.func32, Try.ntmps32
  go_wp2_with (first
    | (go_at_call 31; refine HC.out.mono ?_; rintro e w1 ⟨rfl, HN⟩; have x1 := HN.o.cell 0; have x2 := HN.o.froz 0; have x3 := HN.d.cell 0; have HN := Lib.hid HN)
    | (at_builtin; go_loud (refine wpList_append_win rfl _ _ _ rfl Try.underlying23 info_ev rfl rfl (HN.out.made.2.1.alloc _) _ rfl 1 _ (src_new _ Try.underlying23 5 1 (evsC [⟨2, false, x, ⟨#[]⟩, 0⟩]) 34 _ rfl (evsC_one _) (heap_alloc_new _ _)) ?e1 ?e2 ?_)))
  case e1 => unfold maxLen; omega
  case e2 => omega
  intro v3 w3 hW3 hG3 hO3
  have hD := HN.out.put ⟨2, false, x, ⟨#[]⟩, 0⟩ (up_alloc (Below.refl _ _) _) hW3.out hG3.out (by simpa using hO3.out)
  have hH := HN.out.held (up_alloc (Below.refl _ _) _) hG3.out
  have y1 := hH.cell 0
  have y2 := hH.froz 0
  obtain ⟨a3, c3, rfl, _, _⟩ := hD.made.2.1.slice_form
  have hD := Lib.hid hD
  clear hW3 hG3 hO3 hH x1 x2 x0 x3
  go_wp2
  refine bodyPost_ret (results_none rfl _ _ _) rfl ?_
  exact ⟨_, rfl, hD.out⟩
set_option maxHeartbeats 2000000 in
theorem low7 {D n cp at_ m bl bd bo ba bn bi : Nat} (d : Nat) {A : Option Addr} {L : Nat → Int} {W w : World} {v : Value} {out : List Ev} (h : DS W A n cp L D bl bd bo ba bn bi w v m out at_) (h1 : at_ ≤ 900000000) (h2 : n ≤ 900000000) (h3 : m ≤ 900000000) (hx : nxD n L at_ % 8 = 7) (hd : D ≤ d) :
    Calls Try.prog 32 #[.int .i64 d, .pointer (some ⟨bn, 0, none⟩), .pointer (some ⟨bo, 0, none⟩), .pointer (some ⟨bd, 0, none⟩), .pointer (some ⟨bi, 0, none⟩)] w fun r w' => ∃ v', r = .returned (.tuple #[]) ∧ DS W A n cp L D bl bd bo ba bn bi w' v' (m + 1) (out ++ [lowD (nxD n L at_)]) (at_ + 1) := by
  have hX := nxD_lt n L at_
  have x0 : w.cell? ⟨bn, 0, none⟩ = some (.func (.func 31) #[] #[.pointer (some ⟨ba, 0, none⟩), .pointer (some ⟨bl, 0, none⟩)]) := h.x.cell 0
  have HC := Lib.hid (next_ds h h1 h2)
  clear h
  generalize nxD n L at_ = x at hx hX HC
  have hpd : lowD x = ⟨2, false, x, ⟨#[]⟩, 0⟩ := by unfold lowD; rw [if_neg (by omega)]
  rw [hpd]
  clear hpd
  have hU : IntKind.u64.wrap (x : Int) = x := by rw [IntKind.wrap_u64]; omega
  go_enter Try.func32, Try.ntmps32
  go_wp2_with (first
    | (go_at_call 31; refine HC.out.mono ?_; rintro e w1 ⟨rfl, HN⟩; have x1 := HN.o.cell 0; have x2 := HN.o.froz 0; have x3 := HN.d.cell 0; have HN := Lib.hid HN)
    | (at_builtin; go_loud (refine wpList_append_win rfl _ _ _ rfl Try.underlying23 info_ev rfl rfl (HN.out.made.2.1.alloc _) _ rfl 1 _ (src_new _ Try.underlying23 5 1 (evsC [⟨2, false, x, ⟨#[]⟩, 0⟩]) 34 _ rfl (evsC_one _) (heap_alloc_new _ _)) ?e1 ?e2 ?_)))
  case e1 => unfold maxLen; omega
  case e2 => omega
  intro v3 w3 hW3 hG3 hO3
  have hD := HN.out.put ⟨2, false, x, ⟨#[]⟩, 0⟩ (up_alloc (Below.refl _ _) _) hW3.out hG3.out (by simpa using hO3.out)
  have hH := HN.out.held (up_alloc (Below.refl _ _) _) hG3.out
  have y1 := hH.cell 0
  have y2 := hH.froz 0
  obtain ⟨a3, c3, rfl, _, _⟩ := hD.made.2.1.slice_form
  have hD := Lib.hid hD
  clear hW3 hG3 hO3 hH x1 x2 x0 x3
  go_wp2
  refine bodyPost_ret (results_none rfl _ _ _) rfl ?_
  exact ⟨_, rfl, hD.out⟩
end Go.Proofs.Ytkfidnfnehnhoaa
