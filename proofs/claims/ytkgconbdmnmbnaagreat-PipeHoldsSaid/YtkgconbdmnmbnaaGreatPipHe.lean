/-
  CONTRACTS: jsonin.Parser's and pipe.Pipe's Held; how much a Pipe holds at most.
-/
import Derived.Test.YtkgconbdmnmbnaaGreatPipHd
namespace Go.Proofs.YtkgconbdmnmbnaaGreat
open Go.RowKit
open Go.Lib
set_option maxHeartbeats 1000000 in
theorem lxheld {w : World} {b o : Nat} {X : ByteArray} (h : w.cell? ⟨b, o + 10, none⟩ = some (.string X)) :
    Calls Tryz.prog 89 #[.pointer (some ⟨b, o, none⟩)] w fun r w' => r = .returned (.int .i64 X.size) ∧ w' = w := by
  go_enter Tryz.func89, Tryz.ntmps89
  go_wp2
  go_ret
  exact ⟨rfl, rfl⟩
set_option maxRecDepth 100000 in
set_option maxHeartbeats 1000000 in
theorem jheld_cell {w : World} {b n : Nat} {X : ByteArray} (hX : X.size ≤ 200) (hn : n ≤ 16) (c1 : w.cell? ⟨b, 12, none⟩ = some (.string X)) (c2 : w.cell? ⟨b, 21, none⟩ = some (.int .i64 (n : Nat))) :
    Calls Tryz.prog 83 #[.pointer (some ⟨b, 0, none⟩)] w fun r w' => r = .returned (.int .i64 ((X.size + n : Nat) : Int)) ∧ ∃ n, w' = w.drewN n := by
  have hw : IntKind.i64.wrap ((X.size : Int) + (n : Int)) = (X.size : Int) + (n : Int) := by simp only [IntKind.wrap_i64]; omega
  have HL := Lib.hid (fun (W : World) (hh : W.heap = w.heap) => lxheld (w := W) (b := b) (o := 2) (X := X) (by simp only [World.cell?, hh]; exact c1))
  go_enter Tryz.func83, Tryz.ntmps83
  go_wp2_with fail
  go_region_with (go_at_call 89; refine (HL.out _ (by rfl)).mono ?_; rintro r w2 ⟨rfl, rfl⟩)
  all_goals go_wp2
  all_goals go_ret
  all_goals exact ⟨rfl, _, rfl⟩
theorem jheld_at {w : World} {b D : Nat} {s : Js} (h : PAt w b 0 D s) :
    Calls Tryz.prog 83 #[.pointer (some ⟨b, 0, none⟩)] w fun r w' => r = .returned (.int .i64 (heldJs s : Nat)) ∧ ∃ n, w' = w.drewN n := by
  obtain ⟨lx, p⟩ := s
  obtain ⟨hD, h⟩ := h
  cases p with
  | bad e => exact jheld_cell (X := ⟨#[]⟩) (n := 0) (by decide) (by decide) (h.2 12 _ rfl).1 (h.2 21 _ rfl).1
  | at_ st dn =>
    obtain ⟨_, hl, hg, _, hx⟩ := h
    obtain ⟨c1, e1⟩ := hl.text
    obtain ⟨M, hG, _, hJ, _⟩ := hg
    have hs : (lenText lx).size ≤ 200 := by
      rw [e1]
      cases lx with
      | str a t => exact hx
      | _ => exact Nat.zero_le _
    have := jheld_cell (n := st.length) hs (by have := hJ.2.1; omega) c1 hG.opn
    rw [e1] at this
    exact this
set_option maxHeartbeats 1000000 in
theorem gheld_nil (w : World) : Calls Tryz.prog 31 #[.pointer none] w fun r w' => r = .returned (.int .i64 0) ∧ w = w' := by
  go_enter Tryz.func31, Tryz.ntmps31
  go_wp2
  go_ret
  exact ⟨rfl, rfl⟩
theorem gtheld {w : World} {lim : Nat} {V : Value} {F : List Nat} {g : Option Gs} (h : GtAt w lim V F g) (W : World) (hh : W.heap = w.heap) :
    Calls Tryz.prog 31 #[V] W fun r w' => r = .returned (.int .i64 (heldOG g : Nat)) ∧ W = w' := by
  have h := h.keep (w' := W) (fun k _ => by rw [hh])
  cases g with
  | none =>
    obtain ⟨rfl, _⟩ := h
    exact gheld_nil W
  | some g =>
    obtain ⟨b, vh, vo, rfl, _, hs⟩ := h
    exact gheld_at hs.sgb
theorem held_rs {D M : Nat} (_hD : D ≤ 16) {r : Rs} (h : WfRs D M r) : heldRs r ≤ 200 + D := by
  cases r with
  | js s =>
    obtain ⟨lx, p⟩ := s
    cases p with
    | bad e => exact Nat.zero_le _
    | at_ st dn =>
      obtain ⟨h1, h2⟩ := h
      show heldX lx + st.length ≤ 200 + D
      have := h2.2.1
      have : heldX lx ≤ 200 := by
        cases lx with
        | str a t => exact h1
        | _ => exact Nat.zero_le _
      omega
  | cb s =>
    have h := h.2
    show heldCi s ≤ 200 + D
    cases s with
    | bad e => exact Nat.zero_le _
    | item s dn => have := h.2.2; simp only [heldCi]; omega
    | head s g => have := h.2.2.2.1; simp only [heldCi]; omega
    | text s m n t u => have := h.2.1; have := h.2.2.2; simp only [heldCi]; omega
    | open_ s m t => have := h.1; have := h.2.2; simp only [heldCi]; omega
    | chead s m t g => have := h.2.2.1; have := h.2.2.2.2; simp only [heldCi]; omega
    | ctext s m t n u => have := h.2.1; have := h.2.2.2; simp only [heldCi]; omega
  | pk s =>
    show heldPm s ≤ 200 + D
    cases s with
    | num s k q n a => have := h.2.1; simp only [heldPm]; omega
    | c x =>
      cases x with
      | bad e => exact Nat.zero_le _
      | item s dn => have := h.2.1; simp only [heldPm, heldCi]; omega
      | text s m n t u => have := h.2.1; have := h.2.2.2; simp only [heldPm, heldCi]; omega
      | head s g => exact h.elim
      | open_ s m t => exact h.elim
      | chead s m t g => exact h.elim
      | ctext s m t n u => exact h.elim
theorem held_pp {D lim M : Nat} (hD : D ≤ 16) {s : Pp} (h : WfPp D lim M s) : heldPp s ≤ 200 + lim + D := by
  cases s with
  | over e => exact Nat.zero_le _
  | live r g q =>
    have h1 := held_rs hD h.1
    have h2 : heldOG g ≤ lim := by
      cases g with
      | none => exact Nat.zero_le _
      | some g =>
        have hg := h.2.1.1
        cases g with
        | bad => exact Nat.zero_le _
        | live z H op => exact hg.1
    show heldRs r + heldOG g ≤ _
    omega
set_option maxRecDepth 100000 in
set_option maxHeartbeats 2000000 in
theorem piheld_js {w0 w : World} {pb D lim M : Nat} {s : Js} {F : List Nat} {g : Option Gs} {q : Ws} (h : PipAt w0 w pb D lim F (.live (.js s) g q)) (hw : WfPp D lim M (.live (.js s) g q)) (hD : D ≤ 16) (hlim : lim ≤ 2000) :
    Calls Tryz.prog 16 #[.pointer (some ⟨pb, 0, none⟩)] w fun r w' => r = .returned (.int .i64 ((heldPp (.live (.js s) g q) : Nat) : Int)) ∧ ∃ n, w' = w.drewN n := by
  have hb := held_pp hD hw
  have hsum : heldPp (.live (.js s) g q) = heldRs (.js s) + heldOG g := rfl
  rw [hsum] at hb ⊢
  obtain ⟨RV, SV, WV, FR, FS, FW, h1, h2, h3, _⟩ := h
  obtain ⟨b, rfl, hF, hr⟩ := h2
  have HR : Hid (∀ W : World, W.heap = w.heap → Calls Tryz.prog 83 #[.pointer (some ⟨b, 0, none⟩)] W fun r w' => r = .returned (.int .i64 ((heldRs (.js s) : Nat) : Int)) ∧ ∃ n, w' = W.drewN n) := Lib.hid (fun W hh => jheld_at (hr.keep (w' := W) (by rw [hh])))
  have HG := Lib.hid (fun (W : World) (hh : W.heap = w.heap) => gtheld h3 W hh)
  have HO := Lib.hid (pov_live h1)
  have c1 := h1.cell 1
  have c2 := h1.cell 2
  simp only [pipC] at c1 c2
  generalize heldRs (.js s) = x at *
  generalize heldOG g = y at *
  have hwr : IntKind.i64.wrap ((x : Int) + (y : Int)) = (x : Int) + (y : Int) := by simp only [IntKind.wrap_i64]; omega
  clear h1 h3 hr hw hsum
  go_enter Tryz.func16, Tryz.ntmps16
  go_wp2_with fail
  refine HO.out.mono ?_
  rintro r w1 ⟨rfl, rfl⟩
  go_wp2_with fail
  go_region_with (first
    | (go_at_call 83; refine (HR.out _ (by rfl)).mono ?_; rintro r wa ⟨rfl, na, rfl⟩)
    | (go_at_call 31; refine (HG.out _ (by rfl)).mono ?_; rintro r wb ⟨rfl, rfl⟩))
  all_goals go_wp2
  all_goals go_ret
  all_goals exact ⟨rfl, _, rfl⟩
set_option maxRecDepth 100000 in
set_option maxHeartbeats 2000000 in
theorem piheld_cb {w0 w : World} {pb D lim M : Nat} {s : Ci} {F : List Nat} {g : Option Gs} {q : Ws} (h : PipAt w0 w pb D lim F (.live (.cb s) g q)) (hw : WfPp D lim M (.live (.cb s) g q)) (hD : D ≤ 16) (hlim : lim ≤ 2000) :
    Calls Tryz.prog 16 #[.pointer (some ⟨pb, 0, none⟩)] w fun r w' => r = .returned (.int .i64 ((heldPp (.live (.cb s) g q) : Nat) : Int)) ∧ ∃ n, w' = w.drewN n := by
  have hb := held_pp hD hw
  have hsum : heldPp (.live (.cb s) g q) = heldRs (.cb s) + heldOG g := rfl
  rw [hsum] at hb ⊢
  obtain ⟨RV, SV, WV, FR, FS, FW, h1, h2, h3, _⟩ := h
  obtain ⟨b, vt, vs, rfl, hF, hr⟩ := h2
  have HR : Hid (∀ W : World, W.heap = w.heap → Calls Tryz.prog 141 #[.pointer (some ⟨b, 0, none⟩)] W fun r w' => r = .returned (.int .i64 ((heldRs (.cb s) : Nat) : Int)) ∧ ∃ n, w' = W.drewN n) := Lib.hid (fun W hh => held_at (hr.keep (w' := W) (by rw [hh]) (fun k _ => by rw [hh])) hw.1.1)
  have HG := Lib.hid (fun (W : World) (hh : W.heap = w.heap) => gtheld h3 W hh)
  have HO := Lib.hid (pov_live h1)
  have c1 := h1.cell 1
  have c2 := h1.cell 2
  simp only [pipC] at c1 c2
  generalize heldRs (.cb s) = x at *
  generalize heldOG g = y at *
  have hwr : IntKind.i64.wrap ((x : Int) + (y : Int)) = (x : Int) + (y : Int) := by simp only [IntKind.wrap_i64]; omega
  clear h1 h3 hr hw hsum
  go_enter Tryz.func16, Tryz.ntmps16
  go_wp2_with fail
  refine HO.out.mono ?_
  rintro r w1 ⟨rfl, rfl⟩
  go_wp2_with fail
  go_region_with (first
    | (go_at_call 141; refine (HR.out _ (by rfl)).mono ?_; rintro r wa ⟨rfl, na, rfl⟩)
    | (go_at_call 31; refine (HG.out _ (by rfl)).mono ?_; rintro r wb ⟨rfl, rfl⟩))
  all_goals go_wp2
  all_goals go_ret
  all_goals exact ⟨rfl, _, rfl⟩
set_option maxRecDepth 100000 in
set_option maxHeartbeats 2000000 in
theorem piheld_pk {w0 w : World} {pb D lim M : Nat} {s : Pm} {F : List Nat} {g : Option Gs} {q : Ws} (h : PipAt w0 w pb D lim F (.live (.pk s) g q)) (hw : WfPp D lim M (.live (.pk s) g q)) (hD : D ≤ 16) (hlim : lim ≤ 2000) :
    Calls Tryz.prog 16 #[.pointer (some ⟨pb, 0, none⟩)] w fun r w' => r = .returned (.int .i64 ((heldPp (.live (.pk s) g q) : Nat) : Int)) ∧ ∃ n, w' = w.drewN n := by
  have hb := held_pp hD hw
  have hsum : heldPp (.live (.pk s) g q) = heldRs (.pk s) + heldOG g := rfl
  rw [hsum] at hb ⊢
  obtain ⟨RV, SV, WV, FR, FS, FW, h1, h2, h3, _⟩ := h
  obtain ⟨b, vt, vs, rfl, hF, hr⟩ := h2
  have HR : Hid (∀ W : World, W.heap = w.heap → Calls Tryz.prog 182 #[.pointer (some ⟨b, 0, none⟩)] W fun r w' => r = .returned (.int .i64 ((heldRs (.pk s) : Nat) : Int)) ∧ ∃ n, w' = W.drewN n) := Lib.hid (fun W hh => pheld_at (hr.keep (w' := W) (by rw [hh]) (fun k _ => by rw [hh])) hw.1)
  have HG := Lib.hid (fun (W : World) (hh : W.heap = w.heap) => gtheld h3 W hh)
  have HO := Lib.hid (pov_live h1)
  have c1 := h1.cell 1
  have c2 := h1.cell 2
  simp only [pipC] at c1 c2
  generalize heldRs (.pk s) = x at *
  generalize heldOG g = y at *
  have hwr : IntKind.i64.wrap ((x : Int) + (y : Int)) = (x : Int) + (y : Int) := by simp only [IntKind.wrap_i64]; omega
  clear h1 h3 hr hw hsum
  go_enter Tryz.func16, Tryz.ntmps16
  go_wp2_with fail
  refine HO.out.mono ?_
  rintro r w1 ⟨rfl, rfl⟩
  go_wp2_with fail
  go_region_with (first
    | (go_at_call 182; refine (HR.out _ (by rfl)).mono ?_; rintro r wa ⟨rfl, na, rfl⟩)
    | (go_at_call 31; refine (HG.out _ (by rfl)).mono ?_; rintro r wb ⟨rfl, rfl⟩))
  all_goals go_wp2
  all_goals go_ret
  all_goals exact ⟨rfl, _, rfl⟩
set_option maxHeartbeats 1000000 in
theorem piheld_over {w0 w : World} {pb D lim e : Nat} {F : List Nat} (h : PipAt w0 w pb D lim F (.over e)) :
    Calls Tryz.prog 16 #[.pointer (some ⟨pb, 0, none⟩)] w fun r w' => r = .returned (.int .i64 0) ∧ ∃ n, w' = w.drewN n := by
  have HO := Lib.hid (pov_over h.1)
  clear h
  go_enter Tryz.func16, Tryz.ntmps16
  go_wp2_with fail
  refine HO.out.mono ?_
  rintro r w1 ⟨rfl, rfl⟩
  go_wp2
  go_ret
  exact ⟨rfl, 0, rfl⟩
/-- HELD. -/
theorem piheld_any {w0 w : World} {pb D lim M : Nat} {F : List Nat} {s : Pp} (h : PipAt w0 w pb D lim F s) (hw : WfPp D lim M s) (hD : D ≤ 16) (hlim : lim ≤ 2000) :
    Calls Tryz.prog 16 #[.pointer (some ⟨pb, 0, none⟩)] w fun r w' => r = .returned (.int .i64 ((heldPp s : Nat) : Int)) ∧ ∃ n, w' = w.drewN n := by
  cases s with
  | over e => exact piheld_over h
  | live r g q =>
    cases r with
    | js s => exact piheld_js h hw hD hlim
    | cb s => exact piheld_cb h hw hD hlim
    | pk s => exact piheld_pk h hw hD hlim
end Go.Proofs.YtkgconbdmnmbnaaGreat
