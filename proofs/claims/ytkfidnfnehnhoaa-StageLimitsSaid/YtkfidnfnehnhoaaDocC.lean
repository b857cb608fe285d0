/-
  CONTRACTS of the book's documents out of numbers: one item after another, to the depth asked.
-/
import Derived.Test.YtkfidnfnehnhoaaDocB
namespace Go.Proofs.Ytkfidnfnehnhoaa
open Go.RowKit
open Go.Lib
/-- A part that holds no other. -/
def plainD (x : Nat) : Ev :=
  if x % 8 = 0 then ⟨0, false, 0, ⟨#[]⟩, 0⟩
  else if x % 8 = 1 then ⟨1, decide (x / 8 % 2 = 1), 0, ⟨#[]⟩, 0⟩
  else if x % 8 ≤ 3 then ⟨2, decide (x / 8 % 2 = 1), (x * x / 2 ^ (x % 8) : Nat), ⟨#[]⟩, 0⟩
  else ⟨3, false, 0, ⟨(textL x).toArray⟩, 0⟩
/-- A part that would hold others, below the depth asked. -/
def lowD (x : Nat) : Ev := if x % 8 = 5 then ⟨3, false, 0, ⟨#[]⟩, 0⟩ else ⟨2, false, (x : Nat), ⟨#[]⟩, 0⟩
def listD (it : Nat → List Ev × Nat) : Nat → Nat → List Ev × Nat
  | 0, a => ([], a)
  | k + 1, a => ((it a).1 ++ (listD it k (it a).2).1, (listD it k (it a).2).2)
def mapD (n : Nat) (L : Nat → Int) (it : Nat → List Ev × Nat) : Nat → Nat → List Ev × Nat
  | 0, a => ([], a)
  | k + 1, a => (⟨3, false, 0, ⟨(textL (nxD n L a)).toArray⟩, 0⟩ :: ((it (a + 1)).1 ++ (mapD n L it k (it (a + 1)).2).1), (mapD n L it k (it (a + 1)).2).2)
/-- One item: its parts, and where the next is read. -/
def itemD (n : Nat) (L : Nat → Int) : Nat → Nat → List Ev × Nat
  | 0, a => (if nxD n L a % 8 ≤ 4 then [plainD (nxD n L a)] else [lowD (nxD n L a)], a + 1)
  | f + 1, a =>
    if nxD n L a % 8 ≤ 4 then ([plainD (nxD n L a)], a + 1)
    else if nxD n L a % 8 = 5 then
      (⟨5, false, 0, ⟨#[]⟩, (nxD n L a / 8 % 4 : Nat)⟩ :: (listD (itemD n L f) (nxD n L a / 8 % 4) (a + 1)).1 ++ [⟨7, false, 0, ⟨#[]⟩, 0⟩], (listD (itemD n L f) (nxD n L a / 8 % 4) (a + 1)).2)
    else
      (⟨6, false, 0, ⟨#[]⟩, (nxD n L a / 8 % 3 : Nat)⟩ :: (mapD n L (itemD n L f) (nxD n L a / 8 % 3) (a + 1)).1 ++ [⟨7, false, 0, ⟨#[]⟩, 0⟩], (mapD n L (itemD n L f) (nxD n L a / 8 % 3) (a + 1)).2)
/-- No item has more parts than this, nor reads more numbers. -/
def capD : Nat → Nat
  | 0 => 1
  | f + 1 => 3 * capD f + 5
theorem DS.held {W : World} {A : Option Addr} {n cp : Nat} {L : Nat → Int} {D bl bd bo ba bn bi : Nat} {w wA w2 : World} {v : Value} {m : Nat} {out : List Ev} {at_ : Nat} (h : DS W A n cp L D bl bd bo ba bn bi w v m out at_)
    (hA : Below w.heap.size w wA) (hG : wA.grownBy w2 v.ownBlock) : Blk w2 bo #[v] 23 := (h.o.go hA).lift hG (fun e => h.made.2.1.apart (t := 23) h.o (by decide) ((ob_iff _ _).1 e))
theorem next_ds {D n cp at_ m bl bd bo ba bn bi : Nat} {A : Option Addr} {L : Nat → Int} {W w : World} {v : Value} {out : List Ev} (h : DS W A n cp L D bl bd bo ba bn bi w v m out at_) (h1 : at_ ≤ 900000000) (h2 : n ≤ 900000000) :
    Calls Try.prog 31 #[.pointer (some ⟨ba, 0, none⟩), .pointer (some ⟨bl, 0, none⟩)] w fun r w' => r = .returned (.int .i64 (nxD n L at_ : Nat)) ∧ DS W A n cp L D bl bd bo ba bn bi w' v m out (at_ + 1) :=
  (next_any bl ba n cp at_ A L W.heap.size w h.l h.a h.ls h.low.2 (by omega) (by omega)).mono (by
    rintro e w' ⟨rfl, rfl⟩
    exact ⟨rfl, h.next⟩)
theorem and8 (x : Nat) (h : x < 65536) : bits .and .i64 (x : Int) 8 = if x / 8 % 2 = 1 then 8 else 0 := by
  have := and_nat x 8 (by omega) (by omega)
  rw [show x &&& 8 = if x / 8 % 2 = 1 then 8 else 0 from by
    apply Nat.eq_of_testBit_eq
    intro i
    rw [Nat.testBit_and, show (8 : Nat) = 2 ^ 3 from rfl, Nat.testBit_two_pow]
    by_cases hi : 3 = i
    · subst hi
      rw [Nat.testBit_eq_decide_div_mod_eq]
      by_cases hb : x / 2 ^ 3 % 2 = 1
      · rw [if_pos hb, decide_eq_true hb]
        rfl
      · simp [hb]
    · by_cases hb : x / 2 ^ 3 % 2 = 1
      · rw [if_pos hb, Nat.testBit_two_pow]
        simp [hi]
      · rw [if_neg hb]
        simp [hi]] at this
  rw [show ((8 : Nat) : Int) = 8 from rfl] at this
  rw [this]
  split <;> rfl
set_option maxHeartbeats 2000000 in
theorem plain0 {D n cp at_ m bl bd bo ba bn bi : Nat} (d : Nat) {A : Option Addr} {L : Nat → Int} {W w : World} {v : Value} {out : List Ev} (h : DS W A n cp L D bl bd bo ba bn bi w v m out at_) (h1 : at_ ≤ 900000000) (h2 : n ≤ 900000000) (h3 : m ≤ 900000000) (hx : nxD n L at_ % 8 = 0) :
    Calls Try.prog 32 #[.int .i64 d, .pointer (some ⟨bn, 0, none⟩), .pointer (some ⟨bo, 0, none⟩), .pointer (some ⟨bd, 0, none⟩), .pointer (some ⟨bi, 0, none⟩)] w fun r w' => ∃ v', r = .returned (.tuple #[]) ∧ DS W A n cp L D bl bd bo ba bn bi w' v' (m + 1) (out ++ [plainD (nxD n L at_)]) (at_ + 1) := by
  have hX := nxD_lt n L at_
  have x0 : w.cell? ⟨bn, 0, none⟩ = some (.func (.func 31) #[] #[.pointer (some ⟨ba, 0, none⟩), .pointer (some ⟨bl, 0, none⟩)]) := h.x.cell 0
  have HC := Lib.hid (next_ds h h1 h2)
  clear h
  generalize nxD n L at_ = x at hx hX HC
  have hpd : plainD x = ⟨0, false, 0, ⟨#[]⟩, 0⟩ := by unfold plainD; rw [if_pos hx]
  rw [hpd]
  clear hpd
  go_enter Try.func32, Try.ntmps32
  go_wp2_with (first
    | (go_at_call 31; refine HC.out.mono ?_; rintro e w1 ⟨rfl, HN⟩; have x1 := HN.o.cell 0; have x2 := HN.o.froz 0; have HN := Lib.hid HN)
    | (at_builtin; go_loud (refine wpList_append_win rfl _ _ _ rfl Try.underlying23 info_ev rfl rfl (HN.out.made.2.1.alloc _) _ rfl 1 _ (src_new _ Try.underlying23 5 1 (evsC [⟨0, false, 0, ⟨#[]⟩, 0⟩]) 34 _ rfl (evsC_one _) (heap_alloc_new _ _)) ?e1 ?e2 ?_)))
  case e1 => unfold maxLen; omega
  case e2 => omega
  intro v3 w3 hW3 hG3 hO3
  have hD := HN.out.put ⟨0, false, 0, ⟨#[]⟩, 0⟩ (up_alloc (Below.refl _ _) _) hW3.out hG3.out (by simpa using hO3.out)
  have hH := HN.out.held (up_alloc (Below.refl _ _) _) hG3.out
  have y1 := hH.cell 0
  have y2 := hH.froz 0
  obtain ⟨a3, c3, rfl, _, _⟩ := hD.made.2.1.slice_form
  have hD := Lib.hid hD
  clear hW3 hG3 hO3 hH x1 x2 x0
  go_wp2
  refine bodyPost_end (results_none rfl _ _ _) rfl ?_
  exact ⟨_, rfl, hD.out⟩
set_option maxHeartbeats 2000000 in
theorem plain1 {D n cp at_ m bl bd bo ba bn bi : Nat} (d : Nat) {A : Option Addr} {L : Nat → Int} {W w : World} {v : Value} {out : List Ev} (h : DS W A n cp L D bl bd bo ba bn bi w v m out at_) (h1 : at_ ≤ 900000000) (h2 : n ≤ 900000000) (h3 : m ≤ 900000000) (hx : nxD n L at_ % 8 = 1) :
    Calls Try.prog 32 #[.int .i64 d, .pointer (some ⟨bn, 0, none⟩), .pointer (some ⟨bo, 0, none⟩), .pointer (some ⟨bd, 0, none⟩), .pointer (some ⟨bi, 0, none⟩)] w fun r w' => ∃ v', r = .returned (.tuple #[]) ∧ DS W A n cp L D bl bd bo ba bn bi w' v' (m + 1) (out ++ [plainD (nxD n L at_)]) (at_ + 1) := by
  have hX := nxD_lt n L at_
  have x0 : w.cell? ⟨bn, 0, none⟩ = some (.func (.func 31) #[] #[.pointer (some ⟨ba, 0, none⟩), .pointer (some ⟨bl, 0, none⟩)]) := h.x.cell 0
  have HC := Lib.hid (next_ds h h1 h2)
  clear h
  generalize nxD n L at_ = x at hx hX HC
  have h8 := and8 x hX
  by_cases hb : x / 8 % 2 = 1
  · have hpd : plainD x = ⟨1, true, 0, ⟨#[]⟩, 0⟩ := by unfold plainD; rw [if_neg (by omega), if_pos hx, decide_eq_true hb]
    rw [if_pos hb] at h8
    rw [hpd]
    clear hpd hb
    go_enter Try.func32, Try.ntmps32
    go_wp2_with (first
      | (go_at_call 31; refine HC.out.mono ?_; rintro e w1 ⟨rfl, HN⟩; have x1 := HN.o.cell 0; have x2 := HN.o.froz 0; have HN := Lib.hid HN)
      | (at_builtin; go_loud (refine wpList_append_win rfl _ _ _ rfl Try.underlying23 info_ev rfl rfl (HN.out.made.2.1.alloc _) _ rfl 1 _ (src_new _ Try.underlying23 5 1 (evsC [⟨1, true, 0, ⟨#[]⟩, 0⟩]) 34 _ rfl (evsC_one _) (heap_alloc_new _ _)) ?e1 ?e2 ?_)))
    case e1 => unfold maxLen; omega
    case e2 => omega
    intro v3 w3 hW3 hG3 hO3
    have hD := HN.out.put ⟨1, true, 0, ⟨#[]⟩, 0⟩ (up_alloc (Below.refl _ _) _) hW3.out hG3.out (by simpa using hO3.out)
    have hH := HN.out.held (up_alloc (Below.refl _ _) _) hG3.out
    have y1 := hH.cell 0
    have y2 := hH.froz 0
    obtain ⟨a3, c3, rfl, _, _⟩ := hD.made.2.1.slice_form
    have hD := Lib.hid hD
    clear hW3 hG3 hO3 hH x1 x2 x0
    go_wp2
    refine bodyPost_end (results_none rfl _ _ _) rfl ?_
    exact ⟨_, rfl, hD.out⟩
  · have hpd : plainD x = ⟨1, false, 0, ⟨#[]⟩, 0⟩ := by unfold plainD; rw [if_neg (by omega), if_pos hx, decide_eq_false hb]
    rw [if_neg hb] at h8
    rw [hpd]
    clear hpd hb
    go_enter Try.func32, Try.ntmps32
    go_wp2_with (first
      | (go_at_call 31; refine HC.out.mono ?_; rintro e w1 ⟨rfl, HN⟩; have x1 := HN.o.cell 0; have x2 := HN.o.froz 0; have HN := Lib.hid HN)
      | (at_builtin; go_loud (refine wpList_append_win rfl _ _ _ rfl Try.underlying23 info_ev rfl rfl (HN.out.made.2.1.alloc _) _ rfl 1 _ (src_new _ Try.underlying23 5 1 (evsC [⟨1, false, 0, ⟨#[]⟩, 0⟩]) 34 _ rfl (evsC_one _) (heap_alloc_new _ _)) ?e1 ?e2 ?_)))
    case e1 => unfold maxLen; omega
    case e2 => omega
    intro v3 w3 hW3 hG3 hO3
    have hD := HN.out.put ⟨1, false, 0, ⟨#[]⟩, 0⟩ (up_alloc (Below.refl _ _) _) hW3.out hG3.out (by simpa using hO3.out)
    have hH := HN.out.held (up_alloc (Below.refl _ _) _) hG3.out
    have y1 := hH.cell 0
    have y2 := hH.froz 0
    obtain ⟨a3, c3, rfl, _, _⟩ := hD.made.2.1.slice_form
    have hD := Lib.hid hD
    clear hW3 hG3 hO3 hH x1 x2 x0
    go_wp2
    refine bodyPost_end (results_none rfl _ _ _) rfl ?_
    exact ⟨_, rfl, hD.out⟩
end Go.Proofs.Ytkfidnfnehnhoaa
