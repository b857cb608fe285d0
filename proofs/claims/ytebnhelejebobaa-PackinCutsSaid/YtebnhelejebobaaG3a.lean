/-
  CONTRACTS of package packin, part K: begins. NO PROGRAM NEEDED (but for names): what packin's pieces make of a byte is what the machine of PinPure makes of it; what the machine's states may be. NO PROGRAM NEEDED (but for names): what the machine of PinPure tells are parts, tidy, small; at most eighteen at a byte, two a byte in all; what is not at its end is no document. LAWS of chapter 15, over PinAll: PackinChecks. CONTRACTS of package packin, part L: firstByte. CONTRACTS of package packin, part M: firstByte for whatever byte, byteOfNumber, take. CONTRACTS of package packin, part N: a Parser by the machine's state; had, Done, Held, End. CONTRACTS of package packin, part O: Step, New: PinP of the Parser. CONTRACTS of package packin, part P: plain; All: PinAll. PackinChecks, over the program as it landed. PackinDeep, over the program as it landed. PackinNumbers, over the program as it landed. PackinBack, over the program as it landed. PackinCuts, over the program as it landed. PackinOthers, over the program as it landed. PackinKeys, over the program as it landed. PackinCounts, over the program as it landed. PackinTexts, over the program as it landed.
-/
import Derived.Test.YtebnhelejebobaaG2a
import Derived.Test.YtebnhelejebobaaHPinPc
import Derived.Test.YtebnhelejebobaaHPinPb
import Derived.Test.YtebnhelejebobaaG0c
import Derived.Test.YtebnhelejebobaaG1a
import Derived.Deep.RegionWith
import Derived.Test.YtebnhelejebobaaG0b
import Derived.Test.YtebnhelejebobaaHEv
import Derived.Test.YtebnhelejebobaaHPinLawsG
import Derived.Test.YtebnhelejebobaaHPinLawsH
import Derived.Test.YtebnhelejebobaaHPinLawsI
import Derived.Test.YtebnhelejebobaaHPinLawsK
/-
  CONTRACTS of package packin, part K: begins.
-/
namespace Go.Proofs.Ytebnhelejebobaa
open Go.RowKit
open Go.Lib
/-- One part, and what is at its end with it. -/
theorem pput_go {w0 w w1 : World} {b o D pl kd nm fm : Nat} {h : Hd} {vt vs : Value} {s : List Bx} (c : PP w b o D pl kd nm fm h 0 0 vt [] st0 vs s.length (inP s)) (hl : Low w0 w b vs) (hvt : ∀ k ∈ Value.owner vt, k < w0.heap.size) (hk : OkP s) (hB : Below w.heap.size w w1) (e : Ev) (g : Nat) (hg : g = w1.heap.size) :
    Calls Try.prog 66 #[.pointer (some ⟨b, o, none⟩), .slice (some ⟨g, 0, none⟩) 1 1] (w1.alloc (.cells #[valE e] 20)) fun r w' => ∃ x, r = .returned x ∧ GoM w0 w w' b o D vt vs (liftP (putC s e)) x := by
  subst hg
  have h2 : Below w.heap.size w (w1.alloc (.cells #[valE e] 20)) := up_alloc hB _
  have hc2 : PP (w1.alloc (.cells #[valE e] 20)) b o D pl kd nm fm h 0 0 vt [] st0 vs (incB s).length (outP (incB s)) := by
    rw [inc_lenK, inP_out]
    exact c.go h2
  have hv : Vls w0 (w1.alloc (.cells #[valE e] 20)) (.slice (some ⟨w1.heap.size, 0, none⟩) 1 1) [e] := ⟨win_one w1 _ _ _ rfl, fun k hk => by
    simp only [Value.owner, List.mem_singleton] at hk
    have := hl.size
    have := hB.size
    omega⟩
  refine (pends_at (w0 := w0) hc2 hv (by simp) (Nat.le_trans hl.size h2.size) hl.b hvt hl.vs hk.inc).mono ?_
  rintro r w' ⟨x, rfl, hR⟩
  exact ⟨x, rfl, pends_go hR (.inr rfl) rfl (fun k hk => by
    simp only [Value.owner, List.mem_singleton] at hk
    have := hB.size
    omega) (subg_below h2 c.lt _ _ _)⟩
/-- Behind an item's number. -/
def begP (s : List Bx) (kd nm fm : Nat) : Pm × List Ev :=
  if kd = 7 then liftP (lenP s false nm) else if kd = 8 then liftP (lenP s true nm) else if kd = 9 then liftP (cntP s false nm) else if kd = 10 then liftP (cntP s true nm) else liftP (putC s (partP kd nm fm))
theorem val_two (kd nm fm : Nat) : ∃ T y, valE (partP kd nm fm) = .iface T y ∨ valE (partP kd nm fm) = .nilIface := by
  unfold partP
  split
  · exact ⟨_, _, .inl rfl⟩
  split
  · rw [sgnP_eq]
    exact ⟨_, _, .inl rfl⟩
  split
  · exact ⟨_, _, .inl rfl⟩
  split
  · exact ⟨0, .bool true, .inr rfl⟩
  · exact ⟨_, _, .inl rfl⟩
set_option maxRecDepth 100000 in
set_option maxHeartbeats 4000000 in
theorem pbegins_1 {w0 w : World} {b o D pl kd nm fm : Nat} {h : Hd} {vt : Value} {vs : Value} {s : List Bx} (c : PP w b o D pl kd nm fm h 0 0 vt [] st0 vs s.length (inP s)) (hl : Low w0 w b vs) (hvt : ∀ k ∈ Value.owner vt, k < w0.heap.size) (hk : OkP s) (v f : Nat) (hf : 1 = 3 → 24 ≤ f ∧ f ≤ 27 ∧ v < 256 ^ (2 ^ (f - 24))) :
    Calls Try.prog 56 #[.pointer (some ⟨b, o, none⟩), .agg #[.int .i64 1, .int .u64 (v : Nat), .int .u8 (f : Nat)]] w fun r w' =>
      ∃ x, r = .returned (.tuple #[x, .int .i64 0]) ∧ GoM w0 w w' b o D vt vs (liftP (putC s (partP 1 v f))) x := by
  have HP := Lib.hid (fun W => part_any 1 v f (by omega) hf W)
  have hB : Below w.heap.size w (w.alloc (.cells #[.int .i64 1, .int .u64 (v : Nat), .int .u8 (f : Nat)] 76)) := up_alloc (Below.refl _ _) _
  have HE := Lib.hid (fun w1 (k : Below w.heap.size w w1) => pput_go (w0 := w0) c hl hvt hk k (partP 1 v f) _ rfl)
  have HB := Lib.hid hB
  obtain ⟨T, y, hT⟩ := val_two 1 v f
  clear c hl hvt hk hf hB
  rcases hT with hT | hT
  · go_enter Try.func56, Try.ntmps56
    go_wp2_with fail
    refine (HP.out _).mono ?_
    rintro r w1 ⟨rfl, b1⟩
    have HE1 := Lib.hid (HE.out _ (up_trans HB.out b1))
    rw [hT] at HE1 ⊢
    clear b1 HE HP
    go_wp2_with fail
    refine HE1.out.mono ?_
    rintro r w' ⟨x, rfl, hR⟩
    have HR := Lib.hid hR
    clear hR
    go_wp2
    go_ret2
    exact ⟨x, rfl, HR.out⟩
  · go_enter Try.func56, Try.ntmps56
    go_wp2_with fail
    refine (HP.out _).mono ?_
    rintro r w1 ⟨rfl, b1⟩
    have HE1 := Lib.hid (HE.out _ (up_trans HB.out b1))
    rw [hT] at HE1 ⊢
    clear b1 HE HP
    go_wp2_with fail
    refine HE1.out.mono ?_
    rintro r w' ⟨x, rfl, hR⟩
    have HR := Lib.hid hR
    clear hR
    go_wp2
    go_ret2
    exact ⟨x, rfl, HR.out⟩
set_option maxRecDepth 100000 in
set_option maxHeartbeats 4000000 in
theorem pbegins_2 {w0 w : World} {b o D pl kd nm fm : Nat} {h : Hd} {vt : Value} {vs : Value} {s : List Bx} (c : PP w b o D pl kd nm fm h 0 0 vt [] st0 vs s.length (inP s)) (hl : Low w0 w b vs) (hvt : ∀ k ∈ Value.owner vt, k < w0.heap.size) (hk : OkP s) (v f : Nat) (hf : 2 = 3 → 24 ≤ f ∧ f ≤ 27 ∧ v < 256 ^ (2 ^ (f - 24))) :
    Calls Try.prog 56 #[.pointer (some ⟨b, o, none⟩), .agg #[.int .i64 2, .int .u64 (v : Nat), .int .u8 (f : Nat)]] w fun r w' =>
      ∃ x, r = .returned (.tuple #[x, .int .i64 0]) ∧ GoM w0 w w' b o D vt vs (liftP (putC s (partP 2 v f))) x := by
  have HP := Lib.hid (fun W => part_any 2 v f (by omega) hf W)
  have hB : Below w.heap.size w (w.alloc (.cells #[.int .i64 2, .int .u64 (v : Nat), .int .u8 (f : Nat)] 76)) := up_alloc (Below.refl _ _) _
  have HE := Lib.hid (fun w1 (k : Below w.heap.size w w1) => pput_go (w0 := w0) c hl hvt hk k (partP 2 v f) _ rfl)
  have HB := Lib.hid hB
  obtain ⟨T, y, hT⟩ := val_two 2 v f
  clear c hl hvt hk hf hB
  rcases hT with hT | hT
  · go_enter Try.func56, Try.ntmps56
    go_wp2_with fail
    refine (HP.out _).mono ?_
    rintro r w1 ⟨rfl, b1⟩
    have HE1 := Lib.hid (HE.out _ (up_trans HB.out b1))
    rw [hT] at HE1 ⊢
    clear b1 HE HP
    go_wp2_with fail
    refine HE1.out.mono ?_
    rintro r w' ⟨x, rfl, hR⟩
    have HR := Lib.hid hR
    clear hR
    go_wp2
    go_ret2
    exact ⟨x, rfl, HR.out⟩
  · go_enter Try.func56, Try.ntmps56
    go_wp2_with fail
    refine (HP.out _).mono ?_
    rintro r w1 ⟨rfl, b1⟩
    have HE1 := Lib.hid (HE.out _ (up_trans HB.out b1))
    rw [hT] at HE1 ⊢
    clear b1 HE HP
    go_wp2_with fail
    refine HE1.out.mono ?_
    rintro r w' ⟨x, rfl, hR⟩
    have HR := Lib.hid hR
    clear hR
    go_wp2
    go_ret2
    exact ⟨x, rfl, HR.out⟩
set_option maxRecDepth 100000 in
set_option maxHeartbeats 4000000 in
theorem pbegins_3 {w0 w : World} {b o D pl kd nm fm : Nat} {h : Hd} {vt : Value} {vs : Value} {s : List Bx} (c : PP w b o D pl kd nm fm h 0 0 vt [] st0 vs s.length (inP s)) (hl : Low w0 w b vs) (hvt : ∀ k ∈ Value.owner vt, k < w0.heap.size) (hk : OkP s) (v f : Nat) (hf : 3 = 3 → 24 ≤ f ∧ f ≤ 27 ∧ v < 256 ^ (2 ^ (f - 24))) :
    Calls Try.prog 56 #[.pointer (some ⟨b, o, none⟩), .agg #[.int .i64 3, .int .u64 (v : Nat), .int .u8 (f : Nat)]] w fun r w' =>
      ∃ x, r = .returned (.tuple #[x, .int .i64 0]) ∧ GoM w0 w w' b o D vt vs (liftP (putC s (partP 3 v f))) x := by
  have HP := Lib.hid (fun W => part_any 3 v f (by omega) hf W)
  have hB : Below w.heap.size w (w.alloc (.cells #[.int .i64 3, .int .u64 (v : Nat), .int .u8 (f : Nat)] 76)) := up_alloc (Below.refl _ _) _
  have HE := Lib.hid (fun w1 (k : Below w.heap.size w w1) => pput_go (w0 := w0) c hl hvt hk k (partP 3 v f) _ rfl)
  have HB := Lib.hid hB
  obtain ⟨T, y, hT⟩ := val_two 3 v f
  clear c hl hvt hk hf hB
  rcases hT with hT | hT
  · go_enter Try.func56, Try.ntmps56
    go_wp2_with fail
    refine (HP.out _).mono ?_
    rintro r w1 ⟨rfl, b1⟩
    have HE1 := Lib.hid (HE.out _ (up_trans HB.out b1))
    rw [hT] at HE1 ⊢
    clear b1 HE HP
    go_wp2_with fail
    refine HE1.out.mono ?_
    rintro r w' ⟨x, rfl, hR⟩
    have HR := Lib.hid hR
    clear hR
    go_wp2
    go_ret2
    exact ⟨x, rfl, HR.out⟩
  · go_enter Try.func56, Try.ntmps56
    go_wp2_with fail
    refine (HP.out _).mono ?_
    rintro r w1 ⟨rfl, b1⟩
    have HE1 := Lib.hid (HE.out _ (up_trans HB.out b1))
    rw [hT] at HE1 ⊢
    clear b1 HE HP
    go_wp2_with fail
    refine HE1.out.mono ?_
    rintro r w' ⟨x, rfl, hR⟩
    have HR := Lib.hid hR
    clear hR
    go_wp2
    go_ret2
    exact ⟨x, rfl, HR.out⟩
set_option maxRecDepth 100000 in
set_option maxHeartbeats 4000000 in
theorem pbegins_4 {w0 w : World} {b o D pl kd nm fm : Nat} {h : Hd} {vt : Value} {vs : Value} {s : List Bx} (c : PP w b o D pl kd nm fm h 0 0 vt [] st0 vs s.length (inP s)) (hl : Low w0 w b vs) (hvt : ∀ k ∈ Value.owner vt, k < w0.heap.size) (hk : OkP s) (v f : Nat) (hf : 4 = 3 → 24 ≤ f ∧ f ≤ 27 ∧ v < 256 ^ (2 ^ (f - 24))) :
    Calls Try.prog 56 #[.pointer (some ⟨b, o, none⟩), .agg #[.int .i64 4, .int .u64 (v : Nat), .int .u8 (f : Nat)]] w fun r w' =>
      ∃ x, r = .returned (.tuple #[x, .int .i64 0]) ∧ GoM w0 w w' b o D vt vs (liftP (putC s (partP 4 v f))) x := by
  have HP := Lib.hid (fun W => part_any 4 v f (by omega) hf W)
  have hB : Below w.heap.size w (w.alloc (.cells #[.int .i64 4, .int .u64 (v : Nat), .int .u8 (f : Nat)] 76)) := up_alloc (Below.refl _ _) _
  have HE := Lib.hid (fun w1 (k : Below w.heap.size w w1) => pput_go (w0 := w0) c hl hvt hk k (partP 4 v f) _ rfl)
  have HB := Lib.hid hB
  obtain ⟨T, y, hT⟩ := val_two 4 v f
  clear c hl hvt hk hf hB
  rcases hT with hT | hT
  · go_enter Try.func56, Try.ntmps56
    go_wp2_with fail
    refine (HP.out _).mono ?_
    rintro r w1 ⟨rfl, b1⟩
    have HE1 := Lib.hid (HE.out _ (up_trans HB.out b1))
    rw [hT] at HE1 ⊢
    clear b1 HE HP
    go_wp2_with fail
    refine HE1.out.mono ?_
    rintro r w' ⟨x, rfl, hR⟩
    have HR := Lib.hid hR
    clear hR
    go_wp2
    go_ret2
    exact ⟨x, rfl, HR.out⟩
  · go_enter Try.func56, Try.ntmps56
    go_wp2_with fail
    refine (HP.out _).mono ?_
    rintro r w1 ⟨rfl, b1⟩
    have HE1 := Lib.hid (HE.out _ (up_trans HB.out b1))
    rw [hT] at HE1 ⊢
    clear b1 HE HP
    go_wp2_with fail
    refine HE1.out.mono ?_
    rintro r w' ⟨x, rfl, hR⟩
    have HR := Lib.hid hR
    clear hR
    go_wp2
    go_ret2
    exact ⟨x, rfl, HR.out⟩
set_option maxRecDepth 100000 in
set_option maxHeartbeats 4000000 in
theorem pbegins_7 {w0 w : World} {b o D pl kd nm fm : Nat} {h : Hd} {vt : Value} {vs : Value} {s : List Bx} (c : PP w b o D pl kd nm fm h 0 0 vt [] st0 vs s.length (inP s)) (hl : Low w0 w b vs) (_ : ∀ k ∈ Value.owner vt, k < w0.heap.size) (hk : OkP s) (v f : Nat) :
    Calls Try.prog 56 #[.pointer (some ⟨b, o, none⟩), .agg #[.int .i64 7, .int .u64 (v : Nat), .int .u8 (f : Nat)]] w fun r w' =>
      ∃ x, r = .returned (.tuple #[x, .int .i64 (errPm (liftP (lenP s false v)).1 : Nat)]) ∧ GoM w0 w w' b o D vt vs (liftP (lenP s false v)) x := by
  have hB : Below w.heap.size w (w.alloc (.cells #[.int .i64 7, .int .u64 (v : Nat), .int .u8 (f : Nat)] 76)) := up_alloc (Below.refl _ _) _
  have HE := Lib.hid (pbeginText_at (c.go hB) (hl.up hB) hk false v f)
  have HF := Lib.hid (And.intro hB c.lt)
  clear c hB hl hk
  go_enter Try.func56, Try.ntmps56
  go_wp2_with fail
  refine HE.out.mono ?_
  rintro r w' ⟨x, rfl, hR⟩
  have HR := Lib.hid hR
  clear hR
  go_wp2
  go_ret2
  exact ⟨x, rfl, HR.out.up HF.out.1 HF.out.2⟩
set_option maxRecDepth 100000 in
set_option maxHeartbeats 4000000 in
theorem pbegins_8 {w0 w : World} {b o D pl kd nm fm : Nat} {h : Hd} {vt : Value} {vs : Value} {s : List Bx} (c : PP w b o D pl kd nm fm h 0 0 vt [] st0 vs s.length (inP s)) (hl : Low w0 w b vs) (_ : ∀ k ∈ Value.owner vt, k < w0.heap.size) (hk : OkP s) (v f : Nat) :
    Calls Try.prog 56 #[.pointer (some ⟨b, o, none⟩), .agg #[.int .i64 8, .int .u64 (v : Nat), .int .u8 (f : Nat)]] w fun r w' =>
      ∃ x, r = .returned (.tuple #[x, .int .i64 (errPm (liftP (lenP s true v)).1 : Nat)]) ∧ GoM w0 w w' b o D vt vs (liftP (lenP s true v)) x := by
  have hB : Below w.heap.size w (w.alloc (.cells #[.int .i64 8, .int .u64 (v : Nat), .int .u8 (f : Nat)] 76)) := up_alloc (Below.refl _ _) _
  have HE := Lib.hid (pbeginText_at (c.go hB) (hl.up hB) hk true v f)
  have HF := Lib.hid (And.intro hB c.lt)
  clear c hB hl hk
  go_enter Try.func56, Try.ntmps56
  go_wp2_with fail
  refine HE.out.mono ?_
  rintro r w' ⟨x, rfl, hR⟩
  have HR := Lib.hid hR
  clear hR
  go_wp2
  go_ret2
  exact ⟨x, rfl, HR.out.up HF.out.1 HF.out.2⟩
set_option maxRecDepth 100000 in
set_option maxHeartbeats 4000000 in
theorem pbegins_9 {w0 w : World} {b o D pl kd nm fm : Nat} {h : Hd} {vt : Value} {vs : Value} {s : List Bx} (c : PP w b o D pl kd nm fm h 0 0 vt [] st0 vs s.length (inP s)) (hl : Low w0 w b vs) (hvt : ∀ k ∈ Value.owner vt, k < w0.heap.size) (hk : OkP s) (hd : s.length < 16) (v f : Nat) :
    Calls Try.prog 56 #[.pointer (some ⟨b, o, none⟩), .agg #[.int .i64 9, .int .u64 (v : Nat), .int .u8 (f : Nat)]] w fun r w' =>
      ∃ x, r = .returned (.tuple #[x, .int .i64 (errPm (liftP (cntP s false v)).1 : Nat)]) ∧ GoM w0 w w' b o D vt vs (liftP (cntP s false v)) x := by
  have hB : Below w.heap.size w (w.alloc (.cells #[.int .i64 9, .int .u64 (v : Nat), .int .u8 (f : Nat)] 76)) := up_alloc (Below.refl _ _) _
  have HE := Lib.hid (pcon_any (c.go hB) (hl.up hB) hk hvt hd false v f)
  have HF := Lib.hid (And.intro hB c.lt)
  clear c hB hl hk hvt hd
  go_enter Try.func56, Try.ntmps56
  go_wp2_with fail
  refine HE.out.mono ?_
  rintro r w' ⟨x, rfl, hR⟩
  have HR := Lib.hid hR
  clear hR
  go_wp2
  go_ret2
  exact ⟨x, rfl, HR.out.up HF.out.1 HF.out.2⟩
set_option maxRecDepth 100000 in
set_option maxHeartbeats 4000000 in
theorem pbegins_10 {w0 w : World} {b o D pl kd nm fm : Nat} {h : Hd} {vt : Value} {vs : Value} {s : List Bx} (c : PP w b o D pl kd nm fm h 0 0 vt [] st0 vs s.length (inP s)) (hl : Low w0 w b vs) (hvt : ∀ k ∈ Value.owner vt, k < w0.heap.size) (hk : OkP s) (hd : s.length < 16) (v f : Nat) :
    Calls Try.prog 56 #[.pointer (some ⟨b, o, none⟩), .agg #[.int .i64 10, .int .u64 (v : Nat), .int .u8 (f : Nat)]] w fun r w' =>
      ∃ x, r = .returned (.tuple #[x, .int .i64 (errPm (liftP (cntP s true v)).1 : Nat)]) ∧ GoM w0 w w' b o D vt vs (liftP (cntP s true v)) x := by
  have hB : Below w.heap.size w (w.alloc (.cells #[.int .i64 10, .int .u64 (v : Nat), .int .u8 (f : Nat)] 76)) := up_alloc (Below.refl _ _) _
  have HE := Lib.hid (pcon_any (c.go hB) (hl.up hB) hk hvt hd true v f)
  have HF := Lib.hid (And.intro hB c.lt)
  clear c hB hl hk hvt hd
  go_enter Try.func56, Try.ntmps56
  go_wp2_with fail
  refine HE.out.mono ?_
  rintro r w' ⟨x, rfl, hR⟩
  have HR := Lib.hid hR
  clear hR
  go_wp2
  go_ret2
  exact ⟨x, rfl, HR.out.up HF.out.1 HF.out.2⟩
/-- BEGINS. -/
theorem pbegins_at {w0 w : World} {b o D pl kd nm fm : Nat} {h : Hd} {vt : Value} {vs : Value} {s : List Bx} (c : PP w b o D pl kd nm fm h 0 0 vt [] st0 vs s.length (inP s)) (hl : Low w0 w b vs) (hvt : ∀ k ∈ Value.owner vt, k < w0.heap.size) (hk : OkP s)
    (K v f : Nat) (hK : 1 ≤ K ∧ K ≤ 10 ∧ K ≠ 5 ∧ K ≠ 6) (hf : K = 3 → 24 ≤ f ∧ f ≤ 27 ∧ v < 256 ^ (2 ^ (f - 24))) (hd : 9 ≤ K → s.length < 16) :
    Calls Try.prog 56 #[.pointer (some ⟨b, o, none⟩), .agg #[.int .i64 (K : Nat), .int .u64 (v : Nat), .int .u8 (f : Nat)]] w fun r w' =>
      ∃ x, r = .returned (.tuple #[x, .int .i64 (errPm (begP s K v f).1 : Nat)]) ∧ GoM w0 w w' b o D vt vs (begP s K v f) x := by
  have hc : K = 1 ∨ K = 2 ∨ K = 3 ∨ K = 4 ∨ K = 7 ∨ K = 8 ∨ K = 9 ∨ K = 10 := by omega
  rcases hc with rfl | rfl | rfl | rfl | rfl | rfl | rfl | rfl
  · exact pbegins_1 c hl hvt hk v f hf
  · exact pbegins_2 c hl hvt hk v f hf
  · exact pbegins_3 c hl hvt hk v f hf
  · exact pbegins_4 c hl hvt hk v f hf
  · exact pbegins_7 c hl hvt hk v f
  · exact pbegins_8 c hl hvt hk v f
  · exact pbegins_9 c hl hvt hk (hd (by omega)) v f
  · exact pbegins_10 c hl hvt hk (hd (by omega)) v f
end Go.Proofs.Ytebnhelejebobaa
/-
  NO PROGRAM NEEDED (but for names): what packin's pieces make of a byte is what the machine of PinPure makes of it; what the machine's states may be.
-/
namespace Go.Proofs.Ytebnhelejebobaa
open Go.Lib
def kOf (K : Nat) : Nat := if K = 1 then 0 else if K = 3 then 1 else if K = 7 then 2 else if K = 8 then 3 else if K = 9 then 4 else 5
/-- An item's first byte. -/
def firstB (D : Nat) (s : List Bx) (b : Nat) : Pm × List Ev :=
  if refP D s (itK b) ≠ 0 then (.c (.bad (refP D s (itK b))), []) else if itF b = 0 then begP s (itK b) (itN b) 0 else (.num s (kOf (itK b)) (2 ^ (itF b - 24)) (2 ^ (itF b - 24)) 0, [])
set_option maxRecDepth 100000 in
theorem it_0 : ∀ b : Nat, b < 256 → (itK b = 0 ↔ b = 193) := by decide +kernel
set_option maxRecDepth 100000 in
theorem it_8 : ∀ b : Nat, b < 256 → (itK b = 8 ↔ textP b = true) := by decide +kernel
set_option maxRecDepth 100000 in
theorem it_6 : ∀ b : Nat, b < 256 → (itK b = 6 ↔ extP b = true) := by decide +kernel
set_option maxRecDepth 100000 in
theorem it_5 : ∀ b : Nat, b < 256 → (itK b = 5 ↔ b = 202 ∨ b = 203) := by decide +kernel
set_option maxRecDepth 100000 in
theorem it_c : ∀ b : Nat, b < 256 → ((itK b = 9 ∨ itK b = 10) ↔ contP b = true) := by decide +kernel
set_option maxRecDepth 100000 in
theorem it_le : ∀ b : Nat, b < 256 → itK b ≤ 10 := by decide +kernel
set_option maxRecDepth 100000 in
/-- What has a form has one of these kinds. -/
theorem it_form : ∀ b : Nat, b < 256 → (itF b = 0 ∨ ((itF b = 24 ∨ itF b = 25 ∨ itF b = 26 ∨ itF b = 27) ∧ (itK b = 1 ∨ itK b = 3 ∨ itK b = 7 ∨ itK b = 8 ∨ itK b = 9 ∨ itK b = 10))) := by decide +kernel
set_option maxRecDepth 100000 in
theorem it_3 : ∀ b : Nat, b < 256 → itK b = 3 → itF b ≠ 0 := by decide +kernel
theorem kd_kOf {K : Nat} (h : K = 1 ∨ K = 3 ∨ K = 7 ∨ K = 8 ∨ K = 9 ∨ K = 10) : kdK (kOf K) = K := by
  rcases h with rfl | rfl | rfl | rfl | rfl | rfl <;> rfl
theorem fm_pow {f : Nat} (h : f = 24 ∨ f = 25 ∨ f = 26 ∨ f = 27) : fmW (2 ^ (f - 24)) = f := by
  rcases h with rfl | rfl | rfl | rfl <;> rfl
theorem pow_fm {q : Nat} (h : q = 1 ∨ q = 2 ∨ q = 4 ∨ q = 8) : 2 ^ (fmW q - 24) = q ∧ 24 ≤ fmW q ∧ fmW q ≤ 27 := by
  rcases h with rfl | rfl | rfl | rfl <;> decide
theorem first_eqP (D : Nat) (s : List Bx) (hl : s.length ≤ D) (b : Nat) (hb : b < 256) : firstP D s false b = firstB D s b := by
  unfold firstP firstB refP
  have i0 := it_0 b hb
  have i8 := it_8 b hb
  have i6 := it_6 b hb
  have i5 := it_5 b hb
  have ic := it_c b hb
  by_cases h1 : b = 193
  · rw [if_pos (.inr h1)]
    simp only [if_pos (i0.2 h1)]
    rfl
  rw [if_neg (by simpa using h1)]
  have g0 : ¬ itK b = 0 := fun h => h1 (i0.1 h)
  by_cases h2 : keyB s = true ∧ textP b = false
  · have g : keyB s = true ∧ itK b ≠ 8 := ⟨h2.1, fun h => by rw [i8.1 h] at h2; cases h2.2⟩
    rw [if_pos h2]
    simp only [if_neg g0, if_pos g]
    rfl
  rw [if_neg h2]
  have g1 : ¬ (keyB s = true ∧ itK b ≠ 8) := fun h => h2 ⟨h.1, by cases ht : textP b with | false => rfl | true => exact absurd (i8.2 ht) h.2⟩
  by_cases h3 : extP b = true
  · rw [if_pos h3]
    simp only [if_neg g0, if_neg g1, if_pos (i6.2 h3)]
    rfl
  rw [if_neg h3]
  have g2 : ¬ itK b = 6 := fun h => h3 (i6.1 h)
  by_cases h4 : b = 202 ∨ b = 203
  · rw [if_pos h4]
    simp only [if_neg g0, if_neg g1, if_neg g2, if_pos (i5.2 h4)]
    rfl
  rw [if_neg h4]
  have g3 : ¬ itK b = 5 := fun h => h4 (i5.1 h)
  by_cases h5 : contP b = true ∧ D ≤ s.length
  · have g : (itK b = 9 ∨ itK b = 10) ∧ s.length = D := ⟨ic.2 h5.1, by omega⟩
    rw [if_pos h5]
    simp only [if_neg g0, if_neg g1, if_neg g2, if_neg g3, if_pos g]
    rfl
  rw [if_neg h5]
  have g4 : ¬ ((itK b = 9 ∨ itK b = 10) ∧ s.length = D) := fun h => h5 ⟨ic.1 h.1, by omega⟩
  simp only [if_neg g0, if_neg g1, if_neg g2, if_neg g3, if_neg g4]
  rw [if_neg (show ¬ ((0 : Nat) ≠ 0) by simp)]
  clear g0 g1 g2 g3 g4 i0 i8 i6 i5 ic h2 h5
  unfold extP at h3
  rw [decide_eq_true_eq] at h3
  have lo : b < 192 → itF b = 0 := fun h => by unfold itF; rw [if_pos h]
  by_cases k1 : b < 128
  · rw [if_pos k1, if_pos (lo (by omega)), show itK b = 1 by unfold itK; rw [if_pos k1], show itN b = b by unfold itN; rw [if_pos k1]]
    rfl
  rw [if_neg k1]
  by_cases k2 : b < 144
  · rw [if_pos k2, if_pos (lo (by omega)), show itK b = 10 by unfold itK; rw [if_neg k1, if_pos k2], show itN b = b - 128 by unfold itN; rw [if_neg k1, if_pos k2]]
    rfl
  rw [if_neg k2]
  by_cases k3 : b < 160
  · rw [if_pos k3, if_pos (lo (by omega)), show itK b = 9 by unfold itK; rw [if_neg k1, if_neg k2, if_pos k3], show itN b = b - 144 by unfold itN; rw [if_neg k1, if_neg k2, if_pos k3]]
    rfl
  rw [if_neg k3]
  by_cases k4 : b < 192
  · rw [if_pos k4, if_pos (lo (by omega)), show itK b = 8 by unfold itK; rw [if_neg k1, if_neg k2, if_neg k3, if_pos k4], show itN b = b - 160 by unfold itN; rw [if_neg k1, if_neg k2, if_neg k3, if_pos k4]]
    rfl
  rw [if_neg k4]
  by_cases k5 : b < 224
  · have eK : itK b = otK b := by unfold itK; rw [if_neg k1, if_neg k2, if_neg k3, if_neg k4, if_pos k5]
    have eN : itN b = otN b := by unfold itN; rw [if_neg k1, if_neg k2, if_neg k3, if_neg k4, if_pos k5]
    have eF : itF b = otF b := by unfold itF; rw [if_neg k4, if_pos k5]
    rw [eK, eN, eF]
    have hc : b = 192 ∨ b = 194 ∨ b = 195 ∨ b = 196 ∨ b = 197 ∨ b = 198 ∨ b = 204 ∨ b = 205 ∨ b = 206 ∨ b = 207 ∨ b = 208 ∨ b = 209 ∨ b = 210 ∨ b = 211 ∨ b = 217 ∨ b = 218 ∨ b = 219 ∨ b = 220 ∨ b = 221 ∨ b = 222 ∨ b = 223 := by omega
    clear eK eN eF k1 k2 k3 k4 k5 lo h1 h3 h4 hb
    rcases hc with rfl | rfl | rfl | rfl | rfl | rfl | rfl | rfl | rfl | rfl | rfl | rfl | rfl | rfl | rfl | rfl | rfl | rfl | rfl | rfl | rfl <;> rfl
  · have e1 : itK b = 2 := by unfold itK; rw [if_neg k1, if_neg k2, if_neg k3, if_neg k4, if_neg k5]
    have e2 : itN b = 255 - b := by unfold itN; rw [if_neg k1, if_neg k2, if_neg k3, if_neg k4, if_neg k5]
    have e3 : itF b = 0 := by unfold itF; rw [if_neg k4, if_neg k5]
    rw [e1, e2, e3, if_neg (show ¬ b = 192 by omega), if_neg (show ¬ b < 196 by omega), if_neg (show ¬ b < 199 by omega), if_neg (show ¬ b < 208 by omega), if_neg (show ¬ b < 212 by omega), if_neg (show ¬ b < 220 by omega), if_neg (show ¬ b < 222 by omega), if_neg (show ¬ b < 224 by omega), if_pos rfl]
    rfl
/-- A text's byte. -/
theorem text_eqP (D : Nat) (s : List Bx) (m : Bool) (n : Nat) (t : List UInt8) (u : Option (Nat × Nat × Nat)) (y : UInt8) : liftP (stepCi D (.text s m (n + 1) t u) y) = bytP s m t n u y := by
  simp only [stepCi]
  unfold bytP goP mayH
  cases m with
  | false =>
    have hn : nextU false u y = u := rfl
    rw [hn]
    by_cases h0 : n = 0
    · subst h0
      simp [liftP]
    · rw [if_neg (by simp), if_neg (by omega), if_pos (by simp), if_pos (by omega)]
      simp [liftP]
  | true =>
    cases hu : nextU true u y with
    | none => simp [liftP]
    | some a =>
      by_cases h0 : n = 0
      · subst h0
        cases hw : wholeS (some a) with
        | false => simp [liftP]
        | true => simp [liftP]
      · rw [if_neg (by simp), if_neg (by omega), if_pos (by simp; omega), if_pos (by omega)]
        simp [liftP]
/-- A number's last byte. -/
theorem hed_eqP (s : List Bx) {k q : Nat} (hk : k ≤ 5) (hq : q = 1 ∨ q = 2 ∨ q = 4 ∨ q = 8) (v : Nat) : liftP (hedP s k q v) = begP s (kdK k) v (fmW q) := by
  have hc : k = 0 ∨ k = 1 ∨ k = 2 ∨ k = 3 ∨ k = 4 ∨ k = 5 := by omega
  rcases hc with rfl | rfl | rfl | rfl | rfl | rfl
  · rfl
  · rcases hq with rfl | rfl | rfl | rfl <;> rfl
  · rfl
  · rfl
  · rfl
  · rfl
/-! ### What the machine's states may be -/
def WfPm (D : Nat) : Pm → Prop
  | .c (.bad e) => e ≠ 0 ∧ e ≠ 3
  | .c (.item s dn) => OkP s ∧ s.length ≤ D ∧ (dn = true → s = [])
  | .c (.text s _ n t _) => OkP s ∧ s.length ≤ D ∧ 1 ≤ n ∧ t.length + n ≤ 200
  | .num s k q n a => OkP s ∧ s.length ≤ D ∧ k ≤ 5 ∧ (q = 1 ∨ q = 2 ∨ q = 4 ∨ q = 8) ∧ 1 ≤ n ∧ n ≤ q ∧ a < 256 ^ (q - n) ∧ (4 ≤ k → s.length < D)
  | _ => False
theorem wfP_at {D : Nat} {s : List Bx} (h : OutP s) (hd : s.length ≤ D) : WfPm D (.c (atC s)) := ⟨h.rest, Nat.le_trans (rest_len s) hd, fun h => by simpa using h⟩
theorem wfP_put {D : Nat} {s : List Bx} (h : OkP s) (hd : s.length ≤ D) (e : Ev) : WfPm D (liftP (putC s e)).1 := wfP_at h.inc (by rw [inc_lenK]; exact hd)
theorem wfP_len {D : Nat} {s : List Bx} (h : OkP s) (hd : s.length ≤ D) (m : Bool) (v : Nat) : WfPm D (liftP (lenP s m v)).1 := by
  unfold lenP
  split
  · exact ⟨by decide, by decide⟩
  split
  · exact wfP_put h hd _
  · exact ⟨h, hd, by omega, by simp only [List.length_nil]; omega⟩
theorem wfP_cnt {D : Nat} (hD : D ≤ 16) {s : List Bx} (h : OkP s) (hd : s.length < D) (m : Bool) (v : Nat) : WfPm D (liftP (cntP s m v)).1 := by
  unfold cntP
  split
  · exact ⟨by decide, by decide⟩
  · by_cases h0 : v = 0
    · subst h0
      show WfPm D (liftP (beginC s m 0)).1
      rw [begin_zero]
      exact wfP_at h.inc (by rw [inc_lenK]; omega)
    · rw [begin_ne s m (by omega)]
      exact ⟨h.push (by omega) m (by omega), by rw [List.length_cons, inc_lenK]; omega, fun h => by cases h⟩
theorem wfP_beg {D : Nat} (hD : D ≤ 16) {s : List Bx} (h : OkP s) (hd : s.length ≤ D) {K v f : Nat} (hc : K = 9 ∨ K = 10 → s.length < D) : WfPm D (begP s K v f).1 := by
  unfold begP
  split
  · exact wfP_len h hd _ _
  split
  · exact wfP_len h hd _ _
  split
  · rename_i e; exact wfP_cnt hD h (hc (.inl e)) _ _
  split
  · rename_i e; exact wfP_cnt hD h (hc (.inr e)) _ _
  · exact wfP_put h hd _
theorem ref_len {D : Nat} {s : List Bx} {K : Nat} (h : refP D s K = 0) (hd : s.length ≤ D) : K ≠ 0 ∧ K ≠ 5 ∧ K ≠ 6 ∧ (K = 9 ∨ K = 10 → s.length < D) := by
  unfold refP at h
  split at h
  · cases h
  split at h
  · cases h
  split at h
  · cases h
  split at h
  · cases h
  split at h
  · cases h
  · rename_i h0 _ h6 h5 hc
    exact ⟨h0, h5, h6, fun e => by have : ¬ s.length = D := fun e2 => hc ⟨e, e2⟩; omega⟩
theorem wfP_first {D : Nat} (hD : D ≤ 16) {s : List Bx} (h : OkP s) (hd : s.length ≤ D) (b : Nat) (hb : b < 256) : WfPm D (firstB D s b).1 := by
  unfold firstB
  by_cases hr : refP D s (itK b) = 0
  · rw [if_neg (by simpa using hr)]
    obtain ⟨_, _, _, hc⟩ := ref_len hr hd
    by_cases hf : itF b = 0
    · rw [if_pos hf]
      exact wfP_beg hD h hd hc
    · rw [if_neg hf]
      obtain ⟨e1, e2⟩ := (it_form b hb).resolve_left hf
      refine ⟨h, hd, ?_, ?_, ?_, Nat.le_refl _, ?_, ?_⟩
      · rcases e2 with e | e | e | e | e | e <;> rw [e] <;> decide
      · rcases e1 with e | e | e | e <;> rw [e] <;> simp
      · exact Nat.pow_pos (by decide)
      · rw [Nat.sub_self]; decide
      · intro h4
        refine hc ?_
        revert h4
        rcases e2 with e | e | e | e | e | e <;> rw [e] <;> decide
  · rw [if_pos hr]
    refine ⟨hr, ?_⟩
    unfold refP
    (repeat' split) <;> decide
theorem wfP_step {D : Nat} (hD : D ≤ 16) {s : Pm} (h : WfPm D s) (y : UInt8) : WfPm D (stepPm D s y).1 := by
  cases s with
  | c x =>
    cases x with
    | bad e => exact h
    | item s dn =>
      obtain ⟨h1, h2, h3⟩ := h
      cases dn with
      | true =>
        have : stepPm D (.c (.item s true)) y = (.c (.bad 2), []) := by simp only [stepPm, firstP]; simp
        rw [this]
        exact ⟨by decide, by decide⟩
      | false =>
        show WfPm D (firstP D s false y.toNat).1
        rw [first_eqP D s h2 _ y.toNat_lt]
        exact wfP_first hD h1 h2 _ y.toNat_lt
    | text s m n t u =>
      obtain ⟨h1, h2, h3, h4⟩ := h
      obtain ⟨k, rfl⟩ : ∃ k, n = k + 1 := ⟨n - 1, by omega⟩
      show WfPm D (liftP (stepCi D (.text s m (k + 1) t u) y)).1
      rw [text_eqP]
      unfold bytP goP
      split
      · split
        · exact ⟨h1, h2, by omega, by simp only [List.length_append, List.length_singleton]; omega⟩
        · exact wfP_put h1 h2 _
      · exact ⟨by decide, by decide⟩
    | head _ _ => exact h
    | open_ _ _ _ => exact h
    | chead _ _ _ _ => exact h
    | ctext _ _ _ _ _ => exact h
  | num s k q n a =>
    obtain ⟨h1, h2, h3, h4, h5, h6, h7, h8⟩ := h
    simp only [stepPm]
    by_cases hn : n = 1
    · rw [if_pos hn, hed_eqP s h3 h4]
      refine wfP_beg hD h1 h2 (fun e => h8 ?_)
      have hc : k = 0 ∨ k = 1 ∨ k = 2 ∨ k = 3 ∨ k = 4 ∨ k = 5 := by omega
      revert e
      rcases hc with rfl | rfl | rfl | rfl | rfl | rfl <;> decide
    · rw [if_neg hn]
      refine ⟨h1, h2, h3, h4, by omega, by omega, ?_, h8⟩
      have e : q - (n - 1) = (q - n) + 1 := by omega
      rw [e, Nat.pow_succ]
      have := y.toNat_lt
      omega
theorem wfP_0 (D : Nat) : WfPm D pm0 := ⟨⟨by simp, fun x hx => by simp at hx, fun x hx => by simp at hx, fun x r h => by cases h⟩, by simp, fun h => by cases h⟩
theorem wfP_run {D : Nat} (hD : D ≤ 16) : ∀ (l : List UInt8) (s : Pm), WfPm D s → WfPm D (runPm D s l).1
  | [], _, h => h
  | b :: l, s, h => by
    simp only [runPm]
    exact wfP_run hD l _ (wfP_step hD h b)
end Go.Proofs.Ytebnhelejebobaa
/-
  NO PROGRAM NEEDED (but for names): what the machine of PinPure tells are parts, tidy, small; at most eighteen at a byte, two a byte in all; what is not at its end is no document.
-/
namespace Go.Proofs.Ytebnhelejebobaa
open Go.Lib
/-- How many containers are open. -/
def stkN : Pm → Nat
  | .c x => stkC x
  | .num s _ _ _ _ => s.length
structure TolP (n : Nat) (r : Pm × List Ev) : Prop where
  told : ∀ e ∈ r.2, ToldC e
  len : r.2.length + stkN r.1 ≤ n + 2
theorem OkP.bx {s : List Bx} (h : OkP s) : BxOk s := fun x hx => by
  have := h.all x hx
  exact ⟨by have := this.1; omega, this.2.1⟩
theorem tolP_of {D n : Nat} {r : Ci × List Ev} (h : FineC D n r) : TolP n (liftP r) := ⟨h.told, h.len⟩
theorem tolP_bad (n e : Nat) : TolP n (.c (.bad e), []) := ⟨by simp, by simp [stkN, stkC]⟩
theorem tolP_num (s : List Bx) (k w n a : Nat) : TolP s.length (.num s k w n a, []) := ⟨by simp, by simp [stkN]⟩
theorem tolP_text (s : List Bx) (m : Bool) (n : Nat) (t : List UInt8) (u : Option (Nat × Nat × Nat)) : TolP s.length (.c (.text s m n t u), []) := ⟨by simp, by simp [stkN, stkC]⟩
theorem tolP_put {s : List Bx} (h : OkP s) {e : Ev} (he : ToldC e) : TolP s.length (liftP (putC s e)) := tolP_of (fine_put (D := 16) h.bx h.deep he)
theorem tolP_len {s : List Bx} (h : OkP s) (m : Bool) (v : Nat) : TolP s.length (liftP (lenP s m v)) := by
  unfold lenP
  split
  · exact tolP_bad _ _
  split
  · exact tolP_put h (told_text m (by simp))
  · exact tolP_text _ _ _ _ _
theorem tolP_cnt {s : List Bx} (h : OkP s) (hd : s.length < 16) (m : Bool) (v : Nat) : TolP s.length (liftP (cntP s m v)) := by
  unfold cntP
  split
  · exact tolP_bad _ _
  · exact tolP_of (fine_begin (D := 16) m h.bx hd (by omega))
theorem tolP_hed {D : Nat} (hD : D ≤ 16) {s : List Bx} (h : OkP s) {k q v : Nat} (hq : q ≤ 8) (hv : v < 256 ^ q) (hk : k ≤ 5) (hd : 4 ≤ k → s.length < D) : TolP s.length (liftP (hedP s k q v)) := by
  have h8 : 256 ^ q ≤ 256 ^ 8 := Nat.pow_le_pow_right (by decide) hq
  have h8' : (256 : Nat) ^ 8 = 18446744073709551616 := by decide
  unfold hedP
  split
  · exact tolP_put h (told_int _ (by omega))
  split
  · unfold sgnP
    split
    · exact tolP_put h (told_int _ (by omega))
    · exact tolP_put h (told_int _ (by omega))
  split
  · exact tolP_len h _ _
  split
  · exact tolP_len h _ _
  · exact tolP_cnt h (Nat.lt_of_lt_of_le (hd (by omega)) hD) _ _
theorem tolP_ite {n : Nat} {p : Prop} [Decidable p] {x y : Pm × List Ev} (hx : p → TolP n x) (hy : ¬ p → TolP n y) : TolP n (if p then x else y) := by
  by_cases h : p
  · rw [if_pos h]; exact hx h
  · rw [if_neg h]; exact hy h
theorem tolP_first {D : Nat} (hD : D ≤ 16) {s : List Bx} (h : OkP s) (dn : Bool) (b : Nat) (hb : b < 256) : TolP s.length (firstP D s dn b) := by
  refine tolP_ite (fun _ => tolP_bad _ _) (fun _ => ?_)
  refine tolP_ite (fun _ => tolP_bad _ _) (fun _ => ?_)
  refine tolP_ite (fun _ => tolP_bad _ _) (fun _ => ?_)
  refine tolP_ite (fun _ => tolP_bad _ _) (fun _ => ?_)
  refine tolP_ite (fun _ => tolP_bad _ _) (fun hc => ?_)
  have hlen : ((128 ≤ b ∧ b ≤ 159) ∨ (220 ≤ b ∧ b ≤ 223)) → s.length < 16 := fun e => by
    by_cases h2 : D ≤ s.length
    · exact absurd ⟨by unfold contP; rw [decide_eq_true_eq]; exact e, h2⟩ hc
    · omega
  refine tolP_ite (fun _ => tolP_put h (told_int _ (by omega))) (fun k1 => ?_)
  refine tolP_ite (fun k2 => tolP_cnt h (hlen (by omega)) _ _) (fun k2 => ?_)
  refine tolP_ite (fun k3 => tolP_cnt h (hlen (by omega)) _ _) (fun k3 => ?_)
  refine tolP_ite (fun _ => tolP_len h _ _) (fun _ => ?_)
  refine tolP_ite (fun _ => tolP_put h told_null) (fun _ => ?_)
  refine tolP_ite (fun _ => tolP_put h (told_bool _)) (fun _ => ?_)
  refine tolP_ite (fun _ => tolP_num _ _ _ _ _) (fun _ => ?_)
  refine tolP_ite (fun _ => tolP_num _ _ _ _ _) (fun _ => ?_)
  refine tolP_ite (fun _ => tolP_num _ _ _ _ _) (fun _ => ?_)
  refine tolP_ite (fun _ => tolP_num _ _ _ _ _) (fun _ => ?_)
  refine tolP_ite (fun _ => tolP_num _ _ _ _ _) (fun _ => ?_)
  refine tolP_ite (fun _ => tolP_num _ _ _ _ _) (fun _ => ?_)
  exact tolP_put h (told_int _ (by omega))
theorem wfP_stk {D : Nat} {s : Pm} (h : WfPm D s) (hD : D ≤ 16) : stkN s ≤ 16 := by
  cases s with
  | c x =>
    cases x with
    | bad e => exact Nat.zero_le _
    | item s dn => exact h.1.deep
    | text s m n t u => exact h.1.deep
    | head _ _ => exact h.elim
    | open_ _ _ _ => exact h.elim
    | chead _ _ _ _ => exact h.elim
    | ctext _ _ _ _ _ => exact h.elim
  | num s k q n a => exact Nat.le_trans h.2.1 hD
theorem tolP_step {D : Nat} (hD : D ≤ 16) {s : Pm} (h : WfPm D s) (y : UInt8) : TolP (stkN s) (stepPm D s y) := by
  cases s with
  | c x =>
    cases x with
    | bad e => exact tolP_bad _ _
    | item s dn => exact tolP_first hD h.1 dn _ y.toNat_lt
    | text s m n t u =>
      obtain ⟨h1, h2, h3, h4⟩ := h
      obtain ⟨k, rfl⟩ : ∃ k, n = k + 1 := ⟨n - 1, by omega⟩
      show TolP s.length (liftP (stepCi D (.text s m (k + 1) t u) y))
      rw [text_eqP]
      unfold bytP goP
      split
      · split
        · exact tolP_text _ _ _ _ _
        · exact tolP_put h1 (told_text m (by simp only [List.length_append, List.length_singleton]; omega))
      · exact tolP_bad _ _
    | head _ _ => exact h.elim
    | open_ _ _ _ => exact h.elim
    | chead _ _ _ _ => exact h.elim
    | ctext _ _ _ _ _ => exact h.elim
  | num s k q n a =>
    obtain ⟨h1, h2, h3, h4, h5, h6, h7, h8⟩ := h
    simp only [stepPm]
    by_cases hn : n = 1
    · subst hn
      rw [if_pos rfl]
      refine tolP_hed hD h1 (by omega) ?_ h3 h8
      have e : q = (q - 1) + 1 := by omega
      have := y.toNat_lt
      rw [e, Nat.pow_succ]
      omega
    · rw [if_neg hn]
      exact tolP_num _ _ _ _ _
theorem tolP_run {D : Nat} (hD : D ≤ 16) : ∀ (l : List UInt8) (s : Pm), WfPm D s → (∀ e ∈ (runPm D s l).2, ToldC e) ∧ (runPm D s l).2.length + stkN (runPm D s l).1 ≤ stkN s + 2 * l.length
  | [], s, h => ⟨by simp [runPm], by simp [runPm]⟩
  | b :: l, s, h => by
    obtain ⟨h2, h3⟩ := tolP_step hD h b
    obtain ⟨g2, g3⟩ := tolP_run hD l _ (wfP_step hD h b)
    refine ⟨fun e he => ?_, ?_⟩
    · simp only [runPm] at he
      rcases List.mem_append.1 he with he | he
      · exact h2 e he
      · exact g2 e he
    · simp only [runPm, List.length_append, List.length_cons]
      omega
/-- All that is read: parts; at most two a byte. -/
theorem all_toldP {D : Nat} (hD : D ≤ 16) (l : List UInt8) : (∀ e ∈ (allPm D l).1, ToldC e) ∧ (allPm D l).1.length ≤ 2 * l.length := by
  obtain ⟨h2, h3⟩ := tolP_run hD l pm0 (wfP_0 D)
  refine ⟨h2, ?_⟩
  have : stkN pm0 = 0 := rfl
  unfold allPm
  simp only
  omega
/-- What is not at its end is no document. -/
theorem all_moreP (D : Nat) (hD : D ≤ 16) (l : List UInt8) (h : (allPm D l).2 = 3) : checkE (allPm D l).1 = 3 := by
  have hi := goes_allP D hD l (.live []) pm0 (by simp [InvP, InvC, pm0, ci0])
  have hw := wfP_run hD l pm0 (wfP_0 D)
  unfold allPm at h ⊢
  simp only at h ⊢
  have hl : ∀ s, runC (.live []) (runPm D pm0 l).2 = .live s → checkE (runPm D pm0 l).2 = 3 := fun s hs => by
    unfold checkE
    rw [hs]
    rfl
  generalize runPm D pm0 l = r at *
  obtain ⟨s, ps⟩ := r
  simp only at *
  cases s with
  | num s k w n a => exact hl s hi.1
  | c x =>
    cases x with
    | bad e =>
      obtain ⟨_, h3⟩ := hw
      exact absurd h h3
    | item s dn =>
      cases dn with
      | true => cases h
      | false => exact hl s (by simpa [InvP, InvC] using hi)
    | text s _ _ _ _ => exact hl s hi.1
    | head _ _ => exact hw.elim
    | open_ _ _ _ => exact hw.elim
    | chead _ _ _ _ => exact hw.elim
    | ctext _ _ _ _ _ => exact hw.elim
end Go.Proofs.Ytebnhelejebobaa
/-
  LAWS of chapter 15, over PinAll: PackinChecks.
-/
namespace Go.Proofs.Ytebnhelejebobaa
open Go.RowKit
open Go.Lib
/-! ### PackinChecks -/
set_option maxRecDepth 100000 in
set_option maxHeartbeats 2000000 in
theorem pchecks_out (H : PinAll) (x : ByteArray) (d : Int) (w : World) (h : ¬ (x.size ≤ 300 ∧ 1 ≤ d ∧ d ≤ 16)) :
    Calls Try.prog 3 #[.string x, .int .i64 d] w fun r w' => r = .returned (.bool true) ∧ Below w.heap.size w w' := by
  have HA := Lib.hid (palive_any H w)
  by_cases h1 : x.size ≤ 300
  · have h1' : ((300 : Int) < (x.size : Int)) = False := by simp; omega
    by_cases h2 : 1 ≤ d
    · have h2' : (d < 1) = False := by simp; omega
      have h3' : ((16 : Int) < d) = True := by simp; omega
      clear h h1 h2
      go_enter Try.func3, Try.ntmps3
      go_wp2_with fail
      refine HA.out.mono ?_
      rintro r w1 ⟨rfl, b1⟩
      have B1 := Lib.hid b1
      clear b1
      go_wp2
      go_ret
      exact ⟨rfl, B1.out⟩
    · have h2' : (d < 1) = True := by simp; omega
      clear h h1 h2
      go_enter Try.func3, Try.ntmps3
      go_wp2_with fail
      refine HA.out.mono ?_
      rintro r w1 ⟨rfl, b1⟩
      have B1 := Lib.hid b1
      clear b1
      go_wp2
      go_ret
      exact ⟨rfl, B1.out⟩
  · have h1' : ((300 : Int) < (x.size : Int)) = True := by simp; omega
    clear h h1
    go_enter Try.func3, Try.ntmps3
    go_wp2_with fail
    refine HA.out.mono ?_
    rintro r w1 ⟨rfl, b1⟩
    have B1 := Lib.hid b1
    clear b1
    go_wp2
    go_ret
    exact ⟨rfl, B1.out⟩
set_option maxRecDepth 100000 in
set_option maxHeartbeats 2000000 in
theorem pchecks_in (H : PinAll) (x : ByteArray) (D : Nat) (w : World) (hx : x.size ≤ 300) (hD : 1 ≤ D ∧ D ≤ 16) :
    Calls Try.prog 3 #[.string x, .int .i64 D] w fun r w' => r = .returned (.bool true) ∧ Below w.heap.size w w' := by
  have h1 : ((300 : Int) < (x.size : Int)) = False := by simp; omega
  have h2 : ((D : Int) < 1) = False := by simp; omega
  have h3 : ((16 : Int) < (D : Int)) = False := by simp; omega
  have HA := Lib.hid (palive_any H w)
  have HJ := Lib.hid (fun W => pall_str H x D hD (by omega) W)
  have hc : ((allPm D x.data.toList).2 = 0 → checkE (allPm D x.data.toList).1 = 0) ∧ (checkE (allPm D x.data.toList).1 = 3 ∨ (checkE (allPm D x.data.toList).1 = 0 ∧ (allPm D x.data.toList).2 ≠ 3)) := by
    have h1 := all_checkP D hD.2 x.data.toList
    have h3 := all_moreP D hD.2 x.data.toList
    refine ⟨h1.1, ?_⟩
    by_cases he : (allPm D x.data.toList).2 = 3
    · exact .inl (h3 he)
    · rcases h1.2 with h | h
      · exact .inr ⟨h, he⟩
      · exact .inl h
  have HT := Lib.hid (all_toldP hD.2 x.data.toList).1
  have hl := (all_toldP hD.2 x.data.toList).2
  simp only [Array.length_toList] at hl
  have hl2 : (allPm D x.data.toList).1.length ≤ 900 := by
    have : x.data.size = x.size := rfl
    omega
  clear hx hD hl
  generalize allPm D x.data.toList = R at *
  obtain ⟨L, e⟩ := R
  simp only at hc HJ HT hl2
  have HC := Lib.hid hc
  obtain ⟨n, hn⟩ : ∃ n, L.length = n := ⟨_, rfl⟩
  rw [hn] at HJ hl2
  have HL := Lib.hid (And.intro hn hl2)
  clear hc hn hl2
  have key : ∀ c : Nat, checkE L = c → (e = 0 → c = 0) → (c = 3 ∨ (c = 0 ∧ e ≠ 3)) → Calls Try.prog 3 #[.string x, .int .i64 D] w fun r w' => r = .returned (.bool true) ∧ Below w.heap.size w w' := by
    intro c hc h0 hcc
    by_cases he : e = 0
    · subst he
      obtain rfl := h0 rfl
      have HCC := Lib.hid hc
      clear hc h0 hcc
      go_enter Try.func3, Try.ntmps3
      go_wp2_with fail
      refine HA.out.mono ?_
      rintro r w1 ⟨rfl, b1⟩
      have B1 := Lib.hid b1
      clear b1
      go_wp2_with fail
      refine (HJ.out _).mono ?_
      rintro r w2 ⟨u, rfl, hM⟩
      obtain ⟨a, cp, rfl, _, _⟩ := hM.2.1.slice_form
      have HM := Lib.hid hM
      have CK := Lib.hid (check_win hM.2.1 HL.out.1 HL.out.2 (fun e he => (HT.out e he).2.2.1))
      rw [HCC.out] at CK
      clear hM
      go_wp2_with fail
      refine CK.out.mono ?_
      rintro r w3 ⟨rfl, b3⟩
      have B3 := Lib.hid (up_trans (up_trans B1.out HM.out.1) b3)
      clear b3
      go_wp2
      go_ret
      exact ⟨rfl, B3.out⟩
    · have hz : ((e : Int) == 0) = false := by simp; omega
      have HCC := Lib.hid hc
      clear hc h0 he
      have hz3 : c = 3 ∨ (c = 0 ∧ ((e : Int) == 3) = false ∧ ((e : Int) != 3) = true ∧ ¬ (e = 3) ∧ ¬ ((e : Int) = 3)) := by
        rcases hcc with h | ⟨h, h'⟩
        · exact .inl h
        · exact .inr ⟨h, by simp; omega, by simp; omega, h', by omega⟩
      clear hcc
      rcases hz3 with rfl | ⟨rfl, hz3, hz4, hz5, hz6⟩
      all_goals
        go_enter Try.func3, Try.ntmps3
        go_wp2_with fail
        refine HA.out.mono ?_
        rintro r w1 ⟨rfl, b1⟩
        have B1 := Lib.hid b1
        clear b1
        go_wp2_with fail
        refine (HJ.out _).mono ?_
        rintro r w2 ⟨u, rfl, hM⟩
        obtain ⟨a, cp, rfl, _, _⟩ := hM.2.1.slice_form
        have HM := Lib.hid hM
        have CK := Lib.hid (check_win hM.2.1 HL.out.1 HL.out.2 (fun e he => (HT.out e he).2.2.1))
        rw [HCC.out] at CK
        clear hM
        go_wp2_with fail
        refine CK.out.mono ?_
        rintro r w3 ⟨rfl, b3⟩
        have B3 := Lib.hid (up_trans (up_trans B1.out HM.out.1) b3)
        clear b3
        go_wp2
        go_ret
        exact ⟨rfl, B3.out⟩
  exact key _ rfl HC.out.1 HC.out.2
theorem pchecks_row (H : PinAll) (x : ByteArray) (d : Int) (w : World) :
    Calls Try.prog 3 #[.string x, .int .i64 d] w fun r w' => r = .returned (.bool true) ∧ Below w.heap.size w w' := by
  by_cases h : x.size ≤ 300 ∧ 1 ≤ d ∧ d ≤ 16
  · obtain ⟨D, rfl⟩ : ∃ D : Nat, d = D := ⟨d.toNat, by omega⟩
    exact pchecks_in H x D w h.1 (by omega)
  · exact pchecks_out H x d w h
end Go.Proofs.Ytebnhelejebobaa
/-
  CONTRACTS of package packin, part L: firstByte.
-/
namespace Go.Proofs.Ytebnhelejebobaa
open Go.RowKit
open Go.Lib
/-- What firstByte knows behind refuses. -/
structure FbI (w w2 : World) (b o D : Nat) (kd nm fm : Nat) (h : Hd) (vt vs : Value) (s : List Bx) (g K N F : Nat) : Prop where
  cp : PP w2 b o D 0 kd nm fm h 0 0 vt [] st0 vs s.length (inP s)
  below : Below w.heap.size w w2
  blk : Blk w2 g #[.int .i64 (K : Nat), .int .u64 (N : Nat), .int .u8 (F : Nat)] 76
  new : w.heap.size ≤ g
  lt : b < w.heap.size
theorem FbI.of {w w1 w2 : World} {b o D kd nm fm : Nat} {h : Hd} {vt vs : Value} {s : List Bx} {K N F : Nat} (c : PP w b o D 0 kd nm fm h 0 0 vt [] st0 vs s.length (inP s)) (b1 : Below w.heap.size w w1)
    (b2 : Below (w1.alloc (.cells #[.int .i64 (K : Nat), .int .u64 (N : Nat), .int .u8 (F : Nat)] 76)).heap.size (w1.alloc (.cells #[.int .i64 (K : Nat), .int .u64 (N : Nat), .int .u8 (F : Nat)] 76)) w2) : FbI w w2 b o D kd nm fm h vt vs s w1.heap.size K N F :=
  ⟨c.go (up_trans (up_alloc b1 _) b2), up_trans (up_alloc b1 _) b2, (blk_new w1 _ _).go b2, b1.size, c.lt⟩
set_option maxRecDepth 100000 in
set_option maxHeartbeats 4000000 in
/-- FIRSTBYTE: what may not come. -/
theorem pfirst_bad {w0 w : World} {b o D kd nm fm : Nat} {h : Hd} {vt vs : Value} {s : List Bx} (c : PP w b o D 0 kd nm fm h 0 0 vt [] st0 vs s.length (inP s)) (hk : OkP s) (y : UInt8) (he : refP D s (itK y.toNat) ≠ 0) :
    Calls Try.prog 48 #[.pointer (some ⟨b, o, none⟩), .int .u8 (y.toNat : Int)] w fun r w' =>
      ∃ x, r = .returned (.tuple #[x, .int .i64 (refP D s (itK y.toNat) : Nat)]) ∧ GoM w0 w w' b o D vt vs (.c (.bad (refP D s (itK y.toNat))), []) x := by
  have HI := Lib.hid (item_of y.toNat y.toNat_lt w)
  unfold itV at HI
  have hK := it_le y.toNat y.toNat_lt
  obtain ⟨X, hX⟩ : ∃ X, (y.toNat : Int) = X := ⟨_, rfl⟩
  rw [hX] at HI ⊢
  generalize itK y.toNat = K at *
  generalize itN y.toNat = N at *
  generalize itF y.toNat = F at *
  have HR := Lib.hid (fun w1 (k : Below w.heap.size w w1) => refuses_item (c.go (up_alloc k (.cells #[.int .i64 (K : Nat), .int .u64 (N : Nat), .int .u8 (F : Nat)] 76))) hk K hK)
  have HC := Lib.hid c
  have ze : ((refP D s K : Int) != 0) = true := by rw [bne_iff_ne]; omega
  have HE := Lib.hid he
  generalize refP D s K = E at *
  clear c hk he hX hK
  go_enter Try.func48, Try.ntmps48
  go_wp2_with fail
  refine HI.out.mono ?_
  rintro r w1 ⟨rfl, b1⟩
  have HR1 := Lib.hid (HR.out w1 b1)
  have B1 := Lib.hid b1
  clear b1 HR HI
  go_wp2_with fail
  refine HR1.out.mono ?_
  rintro r w2 ⟨rfl, b2⟩
  have HF := Lib.hid (FbI.of HC.out B1.out b2)
  clear b2 HR1 B1
  go_wp2
  go_ret2
  exact ⟨_, rfl, ⟨Vls.nil_ _ _, ⟨vt, vs, ⟨HE.out, HF.out.cp.room, HF.out.cp.cells.1.2.1.1⟩, fun k hk => .inl hk⟩, subg_below HF.out.below HF.out.lt _ _ _⟩⟩
set_option maxRecDepth 100000 in
set_option maxHeartbeats 4000000 in
/-- FIRSTBYTE: an item whose number is known. -/
theorem pfirst_now {w0 w : World} {b o D kd nm fm : Nat} {h : Hd} {vt vs : Value} {s : List Bx} (c : PP w b o D 0 kd nm fm h 0 0 vt [] st0 vs s.length (inP s)) (hl : Low w0 w b vs) (hvt : ∀ k ∈ Value.owner vt, k < w0.heap.size) (hk : OkP s) (hd : s.length ≤ D) (hD : D ≤ 16) (y : UInt8) (he : refP D s (itK y.toNat) = 0) (hf : itF y.toNat = 0) :
    Calls Try.prog 48 #[.pointer (some ⟨b, o, none⟩), .int .u8 (y.toNat : Int)] w fun r w' =>
      ∃ x, r = .returned (.tuple #[x, .int .i64 (errPm (begP s (itK y.toNat) (itN y.toNat) 0).1 : Nat)]) ∧ GoM w0 w w' b o D vt vs (begP s (itK y.toNat) (itN y.toNat) 0) x := by
  have HI := Lib.hid (item_of y.toNat y.toNat_lt w)
  unfold itV at HI
  rw [hf] at HI
  have hK := it_le y.toNat y.toNat_lt
  obtain ⟨r0, r5, r6, rc⟩ := ref_len he hd
  have h3 : itK y.toNat ≠ 3 := fun h => it_3 _ y.toNat_lt h hf
  obtain ⟨X, hX⟩ : ∃ X, (y.toNat : Int) = X := ⟨_, rfl⟩
  rw [hX] at HI ⊢
  generalize itK y.toNat = K at *
  generalize itN y.toNat = N at *
  have hR : ∀ w1, Below w.heap.size w w1 → Calls Try.prog 60 #[.pointer (some ⟨b, o, none⟩), .int .i64 (K : Nat)] (w1.alloc (.cells #[.int .i64 (K : Nat), .int .u64 (N : Nat), .int .u8 0] 76)) fun r w' => r = .returned (.int .i64 0) ∧ Below (w1.alloc (.cells #[.int .i64 (K : Nat), .int .u64 (N : Nat), .int .u8 0] 76)).heap.size (w1.alloc (.cells #[.int .i64 (K : Nat), .int .u64 (N : Nat), .int .u8 0] 76)) w' := fun w1 k => by
    have := refuses_item (c.go (up_alloc k (.cells #[.int .i64 (K : Nat), .int .u64 (N : Nat), .int .u8 0] 76))) hk K hK
    rw [he] at this
    exact this
  have HR := Lib.hid hR
  have HB := Lib.hid (fun w2 (k : Below w.heap.size w w2) => pbegins_at (w0 := w0) (c.go k) (hl.up k) hvt hk K N 0 ⟨by omega, hK, r5, r6⟩ (fun e => absurd e h3) (fun e => Nat.lt_of_lt_of_le (rc (by omega)) hD))
  have HC := Lib.hid c
  clear c hl hvt hk hd hD he hf hX hK r0 r5 r6 rc h3 hR
  go_enter Try.func48, Try.ntmps48
  go_wp2_with fail
  refine HI.out.mono ?_
  rintro r w1 ⟨rfl, b1⟩
  have HR1 := Lib.hid (HR.out w1 b1)
  have B1 := Lib.hid b1
  clear b1 HR HI
  go_wp2_with fail
  refine HR1.out.mono ?_
  rintro r w2 ⟨rfl, b2⟩
  have HF := Lib.hid (FbI.of (F := 0) HC.out B1.out b2)
  have x0 := HF.out.blk.cell 0
  have x1 := HF.out.blk.cell 1
  have x2 := HF.out.blk.cell 2
  have HB2 := Lib.hid (HB.out w2 HF.out.below)
  clear b2 HR1 B1 HB
  go_wp2_with fail
  refine HB2.out.mono ?_
  rintro r w' ⟨x, rfl, hR⟩
  have HR := Lib.hid hR
  clear hR
  go_wp2
  go_ret2
  exact ⟨x, rfl, HR.out.up HF.out.below HF.out.lt⟩
theorem step_form {f : Nat} (hf : f = 24 ∨ f = 25 ∨ f = 26 ∨ f = 27) : stepH .new f = .mid 0 (2 ^ (f - 24)) 0 := by
  rcases hf with rfl | rfl | rfl | rfl <;> rfl
/-- A number is begun. -/
theorem FbI.num {w w2 w5 : World} {b o D kd nm fm : Nat} {h : Hd} {vt vs : Value} {s : List Bx} {g K N F : Nat} (I : FbI w w2 b o D kd nm fm h vt vs s g K N F)
    {w3 : World} (h3 : PP w3 b o D 1 K N F h 0 0 vt [] st0 vs s.length (inP s)) (s3 : Sub b o 20 w2 w3) {w4 : World} (h4 : HPost w3 b (o + 6) .new w4) (h5 : HPost w4.drew b (o + 6) (.mid 0 (2 ^ (F - 24)) 0) w5)
    (hK : K = 1 ∨ K = 3 ∨ K = 7 ∨ K = 8 ∨ K = 9 ∨ K = 10) (hF : F = 24 ∨ F = 25 ∨ F = 26 ∨ F = 27) (w0 : World) : GoM w0 w w5 b o D vt vs (.num s (kOf K) (2 ^ (F - 24)) (2 ^ (F - 24)) 0, []) (.slice none 0 0) := by
  have c4 := h3.setHd h4.2 h4.1
  have c5 := (c4.drewN 1).setHd h5.2 h5.1
  refine ⟨Vls.nil_ _ _, ⟨vt, vs, ⟨N, ?_⟩, fun k hk => .inl hk⟩, ?_⟩
  · rw [kd_kOf hK, fm_pow hF]
    exact c5
  · exact (((subg_below I.below I.lt _ _ _).tr (s3.subg _)).tr ((h4.2.widen (by omega) (by omega)).subg _)).tr (((Subg.refl _ _ _ _ _).drewN 1).tr ((h5.2.widen (by omega) (by omega)).subg _))
set_option maxRecDepth 100000 in
set_option maxHeartbeats 4000000 in
/-- FIRSTBYTE: a number follows. -/
theorem pfirst_num {w0 w : World} {b o D kd nm fm : Nat} {h : Hd} {vt vs : Value} {s : List Bx} (c : PP w b o D 0 kd nm fm h 0 0 vt [] st0 vs s.length (inP s)) (hk : OkP s) (y : UInt8) (he : refP D s (itK y.toNat) = 0) (hf : itF y.toNat ≠ 0) :
    Calls Try.prog 48 #[.pointer (some ⟨b, o, none⟩), .int .u8 (y.toNat : Int)] w fun r w' =>
      ∃ x, r = .returned (.tuple #[x, .int .i64 0]) ∧ GoM w0 w w' b o D vt vs (.num s (kOf (itK y.toNat)) (2 ^ (itF y.toNat - 24)) (2 ^ (itF y.toNat - 24)) 0, []) x := by
  have HI := Lib.hid (item_of y.toNat y.toNat_lt w)
  unfold itV at HI
  have hK := it_le y.toNat y.toNat_lt
  obtain ⟨hF, hKK⟩ := (it_form y.toNat y.toNat_lt).resolve_left hf
  obtain ⟨X, hX⟩ : ∃ X, (y.toNat : Int) = X := ⟨_, rfl⟩
  rw [hX] at HI ⊢
  generalize itK y.toNat = K at *
  generalize itN y.toNat = N at *
  generalize itF y.toNat = F at *
  have hR : ∀ w1, Below w.heap.size w w1 → Calls Try.prog 60 #[.pointer (some ⟨b, o, none⟩), .int .i64 (K : Nat)] (w1.alloc (.cells #[.int .i64 (K : Nat), .int .u64 (N : Nat), .int .u8 (F : Nat)] 76)) fun r w' => r = .returned (.int .i64 0) ∧ Below (w1.alloc (.cells #[.int .i64 (K : Nat), .int .u64 (N : Nat), .int .u8 (F : Nat)] 76)).heap.size (w1.alloc (.cells #[.int .i64 (K : Nat), .int .u64 (N : Nat), .int .u8 (F : Nat)] 76)) w' := fun w1 k => by
    have := refuses_item (c.go (up_alloc k (.cells #[.int .i64 (K : Nat), .int .u64 (N : Nat), .int .u8 (F : Nat)] 76))) hk K hK
    rw [he] at this
    exact this
  have HR := Lib.hid hR
  have HC := Lib.hid c
  have zF : ((F : Int) == 0) = false := by rw [beq_eq_false_iff_ne]; omega
  have HQ := Lib.hid (And.intro hKK hF)
  clear c hk he hf hX hK hKK hF hR
  go_enter Try.func48, Try.ntmps48
  go_wp2_with fail
  refine HI.out.mono ?_
  rintro r w1 ⟨rfl, b1⟩
  have HR1 := Lib.hid (HR.out w1 b1)
  have B1 := Lib.hid b1
  clear b1 HR HI
  go_wp2_with fail
  refine HR1.out.mono ?_
  rintro r w2 ⟨rfl, b2⟩
  have HF := Lib.hid (FbI.of HC.out B1.out b2)
  obtain ⟨g, hg⟩ : ∃ g, w1.heap.size = g := ⟨_, rfl⟩
  rw [hg] at HF ⊢
  have x0 := HF.out.blk.cell 0
  have x1 := HF.out.blk.cell 1
  have x2 := HF.out.blk.cell 2
  obtain ⟨⟨_, _, ⟨c2, f2⟩⟩, ⟨⟨c3, f3⟩, ⟨c4, f4⟩, ⟨c5, f5⟩⟩, _⟩ := HF.out.cp.cells
  have hS : Sub b (o + 3) 3 w2 (((w2.setCell ⟨b, o + 3, none⟩ (.int .i64 K)).setCell ⟨b, o + 3 + 1, none⟩ (.int .u64 N)).setCell ⟨b, o + 3 + 2, none⟩ (.int .u8 F)) := ((sub_setCell w2 (o + 3) _ (by omega)).setCell (o + 3 + 1) _ (by omega)).setCell (o + 3 + 2) _ (by omega)
  have hA : At (((w2.setCell ⟨b, o + 3, none⟩ (.int .i64 K)).setCell ⟨b, o + 3 + 1, none⟩ (.int .u64 N)).setCell ⟨b, o + 3 + 2, none⟩ (.int .u8 F)) b (o + 3) [.int .i64 K, .int .u64 N, .int .u8 F] := ((HF.out.cp.it.set 0 (by simp) (.int .i64 K)).set 1 (by simp) (.int .u64 N)).set 2 (by simp) (.int .u8 F)
  have hP := (HF.out.cp.setIt hS hA).setPl 1
  have hS20 : Sub b o 20 w2 ((((w2.setCell ⟨b, o + 3, none⟩ (.int .i64 K)).setCell ⟨b, o + 3 + 1, none⟩ (.int .u64 N)).setCell ⟨b, o + 3 + 2, none⟩ (.int .u8 F)).setCell ⟨b, o + 2, none⟩ (.int .i64 (1 : Nat))) := (hS.widen (by omega) (by omega)).setCell (o + 2) _ (by omega)
  have HP := Lib.hid (And.intro hP hS20)
  have HCL := Lib.hid (clear_at hP.hd)
  clear b2 HR1 B1 hS hA hP hS20 hg
  go_wp2_with fail
  refine HCL.out.mono ?_
  rintro r w4 ⟨rfl, h4⟩
  have H4 := Lib.hid h4
  have hb4 : w4.heap[g]? = w2.heap[g]? := ((HP.out.2.trans (h4.2.widen (by omega) (by omega))).step.block g (Array.getElem?_eq_some_iff.1 HF.out.blk).1 (by simp; have := HF.out.lt; have := HF.out.new; omega))
  have y2 : w4.drew.cell? ⟨g, 2, none⟩ = some (.int .u8 F) := (World.cell?_of_block (w := w2) hb4).trans x2
  have HST := Lib.hid (hstep_at (x := F) (by have := HQ.out.2; omega) (h4.1.drewN 1))
  rw [step_form HQ.out.2] at HST
  simp only [endH, errH] at HST
  clear h4 HCL hb4
  go_wp2_with fail
  go_region_with (go_at_call 54; refine (HST.out).mono ?_; rintro r w5 ⟨rfl, h5⟩)
  all_goals
    have HG := Lib.hid (HF.out.num HP.out.1 HP.out.2 H4.out h5 HQ.out.1 HQ.out.2 w0)
    clear h5
    go_wp2
    go_ret2
    exact ⟨_, rfl, HG.out⟩
end Go.Proofs.Ytebnhelejebobaa
/-
  CONTRACTS of package packin, part M: firstByte for whatever byte, byteOfNumber, take.
-/
namespace Go.Proofs.Ytebnhelejebobaa
open Go.RowKit
open Go.Lib
/-- FIRSTBYTE. -/
theorem pfirst_at {w0 w : World} {b o D kd nm fm : Nat} {h : Hd} {vt vs : Value} {s : List Bx} (c : PP w b o D 0 kd nm fm h 0 0 vt [] st0 vs s.length (inP s)) (hl : Low w0 w b vs) (hvt : ∀ k ∈ Value.owner vt, k < w0.heap.size) (hk : OkP s) (hd : s.length ≤ D) (hD : D ≤ 16) (y : UInt8) :
    Calls Try.prog 48 #[.pointer (some ⟨b, o, none⟩), .int .u8 (y.toNat : Int)] w fun r w' =>
      ∃ x, r = .returned (.tuple #[x, .int .i64 (errPm (firstB D s y.toNat).1 : Nat)]) ∧ GoM w0 w w' b o D vt vs (firstB D s y.toNat) x := by
  unfold firstB
  by_cases he : refP D s (itK y.toNat) = 0
  · rw [if_neg (by simpa using he)]
    by_cases hf : itF y.toNat = 0
    · rw [if_pos hf]
      exact pfirst_now c hl hvt hk hd hD y he hf
    · rw [if_neg hf]
      exact pfirst_num c hk y he hf
  · rw [if_pos he]
    exact pfirst_bad c hk y he
/-- Behind a byte of a number. -/
def numB (s : List Bx) (k q n a : Nat) (y : Nat) : Pm × List Ev := if n = 1 then begP s (kdK k) (a * 256 + y) (fmW q) else (.num s k q (n - 1) (a * 256 + y), [])
set_option maxRecDepth 100000 in
set_option maxHeartbeats 4000000 in
/-- BYTEOFNUMBER: not its last one. -/
theorem pnum_mid {w0 w : World} {b o D nm : Nat} {vt vs : Value} {s : List Bx} {k q n a : Nat} (c : PP w b o D 1 (kdK k) nm (fmW q) (.mid 0 n a) 0 0 vt [] st0 vs s.length (inP s)) (y : UInt8) (hn : n ≠ 1) :
    Calls Try.prog 46 #[.pointer (some ⟨b, o, none⟩), .int .u8 (y.toNat : Int)] w fun r w' =>
      ∃ x, r = .returned (.tuple #[x, .int .i64 0]) ∧ GoM w0 w w' b o D vt vs (.num s k q (n - 1) (a * 256 + y.toNat), []) x := by
  have hS := hstep_at y.toNat_lt c.hd
  have e1 : stepH (.mid 0 n a) y.toNat = .mid 0 (n - 1) (a * 256 + y.toNat) := by simp only [stepH]; rw [if_neg hn]
  rw [e1] at hS
  simp only [endH, errH] at hS
  have HG : Hid (∀ w', HPost w b (o + 6) (.mid 0 (n - 1) (a * 256 + y.toNat)) w' → GoM w0 w w' b o D vt vs (.num s k q (n - 1) (a * 256 + y.toNat), []) (.slice none 0 0)) := Lib.hid (fun w' h =>
    ⟨Vls.nil_ _ _, ⟨vt, vs, ⟨nm, c.setHd h.2 h.1⟩, fun k hk => .inl hk⟩, (h.2.widen (by omega) (by omega)).subg _⟩)
  have HS := Lib.hid hS
  generalize a * 256 + y.toNat = v at *
  obtain ⟨X, hX⟩ : ∃ X, (y.toNat : Int) = X := ⟨_, rfl⟩
  rw [hX] at HS ⊢
  clear c hS e1 hX hn
  go_enter Try.func46, Try.ntmps46
  go_wp2_with fail
  refine HS.out.mono ?_
  rintro r w1 ⟨rfl, h1⟩
  have HG1 := Lib.hid (HG.out _ h1)
  clear h1 HG
  go_wp2
  go_ret2
  exact ⟨_, rfl, HG1.out⟩
set_option maxRecDepth 100000 in
set_option maxHeartbeats 4000000 in
/-- BYTEOFNUMBER: its last one. -/
theorem pnum_last {w0 w : World} {b o D nm : Nat} {vt vs : Value} {s : List Bx} {K f a : Nat} (c : PP w b o D 1 K nm f (.mid 0 1 a) 0 0 vt [] st0 vs s.length (inP s)) (hl : Low w0 w b vs) (hvt : ∀ k ∈ Value.owner vt, k < w0.heap.size) (hk : OkP s) (y : UInt8)
    (hK : 1 ≤ K ∧ K ≤ 10 ∧ K ≠ 5 ∧ K ≠ 6) (hf : K = 3 → 24 ≤ f ∧ f ≤ 27 ∧ a * 256 + y.toNat < 256 ^ (2 ^ (f - 24))) (hd : 9 ≤ K → s.length < 16) :
    Calls Try.prog 46 #[.pointer (some ⟨b, o, none⟩), .int .u8 (y.toNat : Int)] w fun r w' =>
      ∃ x, r = .returned (.tuple #[x, .int .i64 (errPm (begP s K (a * 256 + y.toNat) f).1 : Nat)]) ∧ GoM w0 w w' b o D vt vs (begP s K (a * 256 + y.toNat) f) x := by
  have hS := hstep_at y.toNat_lt c.hd
  have e1 : stepH (.mid 0 1 a) y.toNat = .fin 0 (a * 256 + y.toNat) false := by simp [stepH]
  rw [e1] at hS
  simp only [endH, errH] at hS
  have H := Lib.hid (And.intro c (And.intro hl (And.intro hvt (And.intro hk (And.intro hK (And.intro hf hd))))))
  have HS := Lib.hid hS
  generalize a * 256 + y.toNat = v at *
  obtain ⟨X, hX⟩ : ∃ X, (y.toNat : Int) = X := ⟨_, rfl⟩
  rw [hX] at HS ⊢
  clear c hS e1 hX hl hvt hk hK hf hd
  go_enter Try.func46, Try.ntmps46
  go_wp2_with fail
  refine HS.out.mono ?_
  rintro r w1 ⟨rfl, h1⟩
  have c1 := H.out.1.setHd h1.2 h1.1
  have s1 : Sub b o 20 w w1 := h1.2.widen (by omega) (by omega)
  have HV := Lib.hid (value_at h1.1)
  simp only [valH] at HV
  obtain ⟨⟨d3, g3⟩, ⟨d4, g4⟩, ⟨d5, g5⟩⟩ := c1.cells.2.1
  have s2 : Sub b (o + 3) 3 w1 (w1.setCell ⟨b, o + 3 + 1, none⟩ (.int .u64 (v : Nat))) := sub_setCell w1 _ _ (by omega)
  have c2 : PP (w1.setCell ⟨b, o + 3 + 1, none⟩ (.int .u64 (v : Nat))) b o D 1 K v f (.fin 0 v false) 0 0 vt [] st0 vs s.length (inP s) := c1.setIt s2 (c1.it.set 1 (by simp) _)
  have HB := Lib.hid (pbegins_at (w0 := w0) c2 (H.out.2.1.of (Nat.le_trans s1.step.size s2.step.size) rfl) H.out.2.2.1 H.out.2.2.2.1 K v f H.out.2.2.2.2.1 H.out.2.2.2.2.2.1 H.out.2.2.2.2.2.2)
  have HX := Lib.hid (s1.trans (s2.widen (o' := o) (n' := 20) (by omega) (by omega)))
  clear h1 c1 s1 s2 c2
  go_wp2_with fail
  refine HV.out.mono ?_
  rintro r w2 ⟨rfl, rfl⟩
  clear HV
  go_wp2_with fail
  refine HB.out.mono ?_
  rintro r w' ⟨x, rfl, hR⟩
  have HR := Lib.hid hR
  clear hR
  go_wp2
  go_ret2
  exact ⟨x, rfl, HR.out.from_ (HX.out.subg _) (fun _ hk => .inl hk)⟩
/-- A byte behind which no error was: what take tells. -/
def TakeP (w w' : World) (b o D : Nat) (vt vs : Value) (q : Pm × List Ev) (r : Ending) : Prop := ∃ x, r = .returned (.tuple #[x, .int .i64 (errPm q.1 : Nat)]) ∧ GoM w w w' b o D vt vs q x
theorem plow_self {w : World} {b : Nat} {vs : Value} (hb : b < w.heap.size) (hv : ∀ k ∈ Value.owner vs, k < w.heap.size) : Low w w b vs := ⟨Nat.le_refl _, hb, hv⟩
set_option maxRecDepth 100000 in
set_option maxHeartbeats 2000000 in
theorem ptake_end {w : World} {b o D kd nm fm : Nat} {h : Hd} {tk lk : Nat} {vt : Value} {t : List UInt8} {u : Option (Nat × Nat × Nat)} {vs : Value} {n : Nat} {xs : List Value} (c : PP w b o D 3 kd nm fm h tk lk vt t u vs n xs) (y : UInt8) :
    Calls Try.prog 36 #[.pointer (some ⟨b, o, none⟩), .int .u8 (y.toNat : Int)] w fun r w' => TakeP w w' b o D vt vs (.c (.bad 2), []) r := by
  have c2 := c.cells.1.2.2.1
  have HG : Hid (GoM w w w b o D vt vs (.c (.bad 2), []) (.slice none 0 0)) := Lib.hid ⟨Vls.nil_ _ _, ⟨vt, vs, ⟨by decide, c.room, c.cells.1.2.1.1⟩, fun k hk => .inl hk⟩, Subg.refl _ _ _ _ _⟩
  clear c
  go_enter Try.func36, Try.ntmps36
  go_wp2
  go_ret2
  exact ⟨_, rfl, HG.out⟩
set_option maxRecDepth 100000 in
set_option maxHeartbeats 2000000 in
theorem ptake_text {w : World} {b o D : Nat} {vt vs : Value} {q : Pm × List Ev} (hc : w.cell? ⟨b, o + 2, none⟩ = some (.int .i64 (2 : Nat))) {y : UInt8}
    (H : Calls Try.prog 47 #[.pointer (some ⟨b, o, none⟩), .int .u8 (y.toNat : Int)] w fun r w' => TakeP w w' b o D vt vs q r) :
    Calls Try.prog 36 #[.pointer (some ⟨b, o, none⟩), .int .u8 (y.toNat : Int)] w fun r w' => TakeP w w' b o D vt vs q r := by
  have HH := Lib.hid H
  clear H
  go_enter Try.func36, Try.ntmps36
  go_wp2_with fail
  refine HH.out.mono ?_
  rintro r w' ⟨x, rfl, hq⟩
  have HQ := Lib.hid hq
  clear hq
  go_wp2
  go_ret2
  exact ⟨x, rfl, HQ.out⟩
set_option maxRecDepth 100000 in
set_option maxHeartbeats 2000000 in
theorem ptake_num {w : World} {b o D : Nat} {vt vs : Value} {q : Pm × List Ev} (hc : w.cell? ⟨b, o + 2, none⟩ = some (.int .i64 (1 : Nat))) {y : UInt8}
    (H : Calls Try.prog 46 #[.pointer (some ⟨b, o, none⟩), .int .u8 (y.toNat : Int)] w fun r w' => TakeP w w' b o D vt vs q r) :
    Calls Try.prog 36 #[.pointer (some ⟨b, o, none⟩), .int .u8 (y.toNat : Int)] w fun r w' => TakeP w w' b o D vt vs q r := by
  have HH := Lib.hid H
  clear H
  go_enter Try.func36, Try.ntmps36
  go_wp2_with fail
  refine HH.out.mono ?_
  rintro r w' ⟨x, rfl, hq⟩
  have HQ := Lib.hid hq
  clear hq
  go_wp2
  go_ret2
  exact ⟨x, rfl, HQ.out⟩
set_option maxRecDepth 100000 in
set_option maxHeartbeats 2000000 in
theorem ptake_first {w : World} {b o D : Nat} {vt vs : Value} {q : Pm × List Ev} (hc : w.cell? ⟨b, o + 2, none⟩ = some (.int .i64 (0 : Nat))) {y : UInt8}
    (H : Calls Try.prog 48 #[.pointer (some ⟨b, o, none⟩), .int .u8 (y.toNat : Int)] w fun r w' => TakeP w w' b o D vt vs q r) :
    Calls Try.prog 36 #[.pointer (some ⟨b, o, none⟩), .int .u8 (y.toNat : Int)] w fun r w' => TakeP w w' b o D vt vs q r := by
  have HH := Lib.hid H
  clear H
  go_enter Try.func36, Try.ntmps36
  go_wp2_with fail
  refine HH.out.mono ?_
  rintro r w' ⟨x, rfl, hq⟩
  have HQ := Lib.hid hq
  clear hq
  go_wp2
  go_ret2
  exact ⟨x, rfl, HQ.out⟩
/-- TAKE. -/
theorem ptake_at {w : World} {b o D : Nat} {s : Pm} {vt vs : Value} (hD : D ≤ 16) (hs : StM w b o D s vt vs) (hw : WfPm D s) (hb : ∀ e, s ≠ .c (.bad e)) (y : UInt8) :
    Calls Try.prog 36 #[.pointer (some ⟨b, o, none⟩), .int .u8 (y.toNat : Int)] w fun r w' => TakeP w w' b o D vt vs (stepPm D s y) r := by
  cases s with
  | c x =>
    cases x with
    | bad e => exact absurd rfl (hb e)
    | item s dn =>
      obtain ⟨hp, hd, _⟩ := hw
      obtain ⟨kd, nm, fm, h, c⟩ := hs
      cases dn with
      | true =>
        have : stepPm D (.c (.item s true)) y = (.c (.bad 2), []) := by simp only [stepPm, firstP]; simp
        rw [this]
        exact ptake_end c y
      | false =>
        have c : PP w b o D 0 kd nm fm h 0 0 vt [] st0 vs s.length (inP s) := c
        rw [show stepPm D (.c (.item s false)) y = firstB D s y.toNat from first_eqP D s hd y.toNat y.toNat_lt]
        exact ptake_first c.cells.1.2.2.1 (pfirst_at c (plow_self c.lt c.op.win.lt) c.wt.lt hp hd hD y)
    | text s m n t u =>
      obtain ⟨hp, hd, hn, ht⟩ := hw
      obtain ⟨kd, nm, fm, h, c⟩ := hs
      obtain ⟨n', rfl⟩ : ∃ n', n = n' + 1 := ⟨n - 1, by omega⟩
      rw [show stepPm D (.c (.text s m (n' + 1) t u)) y = bytP s m t n' u y from text_eqP D s m n' t u y]
      exact ptake_text c.cells.1.2.2.1 (pbyteOfText_at c ht (plow_self c.lt c.op.win.lt) hp y)
    | head _ _ => exact hs.elim
    | open_ _ _ _ => exact hs.elim
    | chead _ _ _ _ => exact hs.elim
    | ctext _ _ _ _ _ => exact hs.elim
  | num s k q n a =>
    obtain ⟨hp, hd, hk, hq, h1, hnq, ha, h4⟩ := hw
    obtain ⟨nm, c⟩ := hs
    have he : stepPm D (.num s k q n a) y = numB s k q n a y.toNat := by
      simp only [stepPm]
      unfold numB
      by_cases hn : n = 1
      · rw [if_pos hn, if_pos hn, hed_eqP s hk hq]
      · rw [if_neg hn, if_neg hn]
    rw [he]
    unfold numB
    refine ptake_num c.cells.1.2.2.1 ?_
    by_cases hn : n = 1
    · subst hn
      rw [if_pos rfl]
      have hc : k = 0 ∨ k = 1 ∨ k = 2 ∨ k = 3 ∨ k = 4 ∨ k = 5 := by omega
      have hlt := y.toNat_lt
      refine pnum_last c (plow_self c.lt c.op.win.lt) c.wt.lt hp y ?_ (fun _ => ?_) (fun e => ?_)
      · rcases hc with rfl | rfl | rfl | rfl | rfl | rfl <;> decide
      · obtain ⟨f1, f2, f3⟩ := pow_fm hq
        refine ⟨f2, f3, ?_⟩
        rw [f1]
        have e : q = (q - 1) + 1 := by omega
        rw [e, Nat.pow_succ]
        omega
      · have h4k : 4 ≤ k := by
          revert e
          rcases hc with rfl | rfl | rfl | rfl | rfl | rfl <;> decide
        have := h4 h4k
        omega
    · rw [if_neg hn]
      exact pnum_mid c y hn
end Go.Proofs.Ytebnhelejebobaa
/-
  CONTRACTS of package packin, part N: a Parser by the machine's state; had, Done, Held, End.
-/
namespace Go.Proofs.Ytebnhelejebobaa
open Go.RowKit
open Go.Lib
/-- The cells of a Parser that is new, or behind an error. -/
def paP (e D : Nat) : List Value := [.int .i64 (e : Int), .int .i64 (D : Int), .int .i64 0, .int .i64 0, .int .u64 0, .int .u8 0, .int .i64 0, .int .i64 0, .int .i64 0, .bool false, .int .i64 0, .int .u64 0, .int .i64 0, .int .i64 0, .slice none 0 0, .int .i64 0, .int .u8 0, .int .u8 0, .bool false, .slice none 0 0]
theorem paP_one (e D : Nat) : (paP e D).toArray.all (·.oneCell') = true := by simp [paP, Value.oneCell']
/-- A Parser, by the machine's state. -/
def StPm (w : World) (b o D : Nat) (s : Pm) (vt vs : Value) : Prop :=
  match s with
  | .c (.bad e) => e ≠ 0 ∧ At w b o (paP e D) ∧ vt = .slice none 0 0 ∧ vs = .slice none 0 0
  | .c (.item s dn) => StM w b o D (.c (.item s dn)) vt vs
  | .c (.text s m n t u) => StM w b o D (.c (.text s m n t u)) vt vs
  | .num s k q n a => StM w b o D (.num s k q n a) vt vs
  | _ => False
theorem StPm.of {w : World} {b o D : Nat} {s : Pm} {vt vs : Value} (h : StM w b o D s vt vs) (hb : ∀ e, s ≠ .c (.bad e)) : StPm w b o D s vt vs := by
  cases s with
  | c x =>
    cases x with
    | bad e => exact absurd rfl (hb e)
    | item _ _ => exact h
    | text _ _ _ _ _ => exact h
    | head _ _ => exact h
    | open_ _ _ _ => exact h
    | chead _ _ _ _ => exact h
    | ctext _ _ _ _ _ => exact h
  | num _ _ _ _ _ => exact h
theorem StPm.st {w : World} {b o D : Nat} {s : Pm} {vt vs : Value} (h : StPm w b o D s vt vs) (hb : ∀ e, s ≠ .c (.bad e)) : StM w b o D s vt vs := by
  cases s with
  | c x =>
    cases x with
    | bad e => exact absurd rfl (hb e)
    | item _ _ => exact h
    | text _ _ _ _ _ => exact h
    | head _ _ => exact h
    | open_ _ _ _ => exact h
    | chead _ _ _ _ => exact h
    | ctext _ _ _ _ _ => exact h
  | num _ _ _ _ _ => exact h
def stkP : Pm → List Bx
  | .c (.item s _) => s
  | .c (.text s _ _ _ _) => s
  | .num s _ _ _ _ => s
  | _ => []
/-- Whatever the state: its cells. -/
theorem StM.pp {w : World} {b o D : Nat} {s : Pm} {vt vs : Value} (h : StM w b o D s vt vs) (hb : ∀ e, s ≠ .c (.bad e)) (hw : WfPm D s) :
    ∃ pl kd nm fm hh tk lk t u, PP w b o D pl kd nm fm hh tk lk vt t u vs (stkP s).length (inP (stkP s)) ∧ heldPm s = t.length + (stkP s).length ∧ (pl = 3 ↔ donePm s = true) ∧ t.length ≤ 200 ∧ (stkP s).length ≤ 16 := by
  cases s with
  | c x =>
    cases x with
    | bad e => exact absurd rfl (hb e)
    | item s dn =>
      obtain ⟨kd, nm, fm, hh, c⟩ := h
      refine ⟨_, _, _, _, _, _, _, _, _, c, by simp [heldPm, heldCi, stkP], ?_, by simp, hw.1.deep⟩
      cases dn with
      | false => simp [donePm, doneCi]
      | true =>
        obtain rfl := hw.2.2 rfl
        simp [donePm, doneCi]
    | text s m n t u =>
      obtain ⟨kd, nm, fm, hh, c⟩ := h
      exact ⟨_, _, _, _, _, _, _, _, _, c, rfl, by simp [donePm, doneCi], by have := hw.2.2.2; omega, hw.1.deep⟩
    | head _ _ => exact h.elim
    | open_ _ _ _ => exact h.elim
    | chead _ _ _ _ => exact h.elim
    | ctext _ _ _ _ _ => exact h.elim
  | num s k q n a =>
    obtain ⟨nm, c⟩ := h
    exact ⟨_, _, _, _, _, _, _, _, _, c, by simp [heldPm, stkP], by simp [donePm], by simp, hw.1.deep⟩
theorem StM.go {w w' : World} {b o D : Nat} {s : Pm} {vt vs : Value} (h : StM w b o D s vt vs) (hb : ∀ e, s ≠ .c (.bad e)) (k : Below w.heap.size w w') : StM w' b o D s vt vs := by
  cases s with
  | c x =>
    cases x with
    | bad e => exact absurd rfl (hb e)
    | item _ _ => obtain ⟨kd, nm, fm, hh, c⟩ := h; exact ⟨kd, nm, fm, hh, c.go k⟩
    | text _ _ _ _ _ => obtain ⟨kd, nm, fm, hh, c⟩ := h; exact ⟨kd, nm, fm, hh, c.go k⟩
    | head _ _ => exact h
    | open_ _ _ _ => exact h
    | chead _ _ _ _ => exact h
    | ctext _ _ _ _ _ => exact h
  | num _ _ _ _ _ => obtain ⟨nm, c⟩ := h; exact ⟨nm, c.go k⟩
/-- What every Parser has, whatever its state. -/
theorem StPm.any {w : World} {b o D : Nat} {s : Pm} {vt vs : Value} (h : StPm w b o D s vt vs) : (∃ e, s = .c (.bad e) ∧ e ≠ 0 ∧ At w b o (paP e D) ∧ vt = .slice none 0 0 ∧ vs = .slice none 0 0) ∨ ((∀ e, s ≠ .c (.bad e)) ∧ ∃ pl kd nm fm hh tk lk t u, PP w b o D pl kd nm fm hh tk lk vt t u vs (stkP s).length (inP (stkP s))) := by
  cases s with
  | c x =>
    cases x with
    | bad e => exact .inl ⟨e, rfl, h⟩
    | item _ _ => obtain ⟨kd, nm, fm, hh, c⟩ := h; exact .inr ⟨fun e h => (by cases h), _, _, _, _, _, _, _, _, _, c⟩
    | text _ _ _ _ _ => obtain ⟨kd, nm, fm, hh, c⟩ := h; exact .inr ⟨fun e h => (by cases h), _, _, _, _, _, _, _, _, _, c⟩
    | head _ _ => exact h.elim
    | open_ _ _ _ => exact h.elim
    | chead _ _ _ _ => exact h.elim
    | ctext _ _ _ _ _ => exact h.elim
  | num _ _ _ _ _ => obtain ⟨nm, c⟩ := h; exact .inr ⟨fun e h => (by cases h), _, _, _, _, _, _, _, _, _, c⟩
theorem StPm.lt {w : World} {b o D : Nat} {s : Pm} {vt vs : Value} (h : StPm w b o D s vt vs) : b < w.heap.size := by
  rcases h.any with ⟨e, _, _, hA, _⟩ | ⟨_, _, _, _, _, _, _, _, _, _, c⟩
  · exact hA.lt (by simp [paP])
  · exact c.lt
theorem StPm.go {w w' : World} {b o D : Nat} {s : Pm} {vt vs : Value} (h : StPm w b o D s vt vs) (k : Below w.heap.size w w') : StPm w' b o D s vt vs := by
  rcases h.any with ⟨e, rfl, he, hA, hv⟩ | ⟨hb, _⟩
  · exact ⟨he, hA.keep (k.block b h.lt), hv⟩
  · exact StPm.of ((h.st hb).go hb k) hb
theorem StPm.err {w : World} {b o D : Nat} {s : Pm} {vt vs : Value} (h : StPm w b o D s vt vs) : w.cell? ⟨b, o, none⟩ = some (.int .i64 (errPm s : Nat)) ∧ w.cell? ⟨b, o + 1, none⟩ = some (.int .i64 (D : Nat)) := by
  cases s with
  | c x =>
    cases x with
    | bad e => exact ⟨(h.2.1 0 _ rfl).1, (h.2.1 1 _ rfl).1⟩
    | item _ _ => obtain ⟨kd, nm, fm, hh, c⟩ := h; exact ⟨c.cells.1.1.1, c.cells.1.2.1.1⟩
    | text _ _ _ _ _ => obtain ⟨kd, nm, fm, hh, c⟩ := h; exact ⟨c.cells.1.1.1, c.cells.1.2.1.1⟩
    | head _ _ => exact h.elim
    | open_ _ _ _ => exact h.elim
    | chead _ _ _ _ => exact h.elim
    | ctext _ _ _ _ _ => exact h.elim
  | num _ _ _ _ _ => obtain ⟨nm, c⟩ := h; exact ⟨c.cells.1.1.1, c.cells.1.2.1.1⟩
theorem pp_new {w : World} {b o D : Nat} (h : At w b o (paP 0 D)) : PP w b o D 0 0 0 0 .new 0 0 (.slice none 0 0) [] st0 (.slice none 0 0) 0 [] := by
  have e1 := h.right (vs := [.int .i64 ((0 : Nat) : Int), .int .i64 (D : Int), .int .i64 0]) (us := _)
  have e2 := e1.right (vs := [.int .i64 0, .int .u64 0, .int .u8 0]) (us := _)
  have e3 := e2.right (vs := hd6 0 0 0 false 0 0) (us := _)
  have e4 := e3.right (vs := [.int .i64 0, .int .i64 0, .slice none 0 0]) (us := _)
  have e5 := e4.right (vs := ckCells 0 0 0 false) (us := _)
  exact ⟨h.left (vs := [.int .i64 ((0 : Nat) : Int), .int .i64 (D : Int), .int .i64 0]), e1.left (vs := [.int .i64 0, .int .u64 0, .int .u8 0]), ⟨trivial, e2.left (vs := hd6 0 0 0 false 0 0)⟩, e3.left (vs := [.int .i64 0, .int .i64 0, .slice none 0 0]), cat_zero (e4.left (vs := ckCells 0 0 0 false)), ⟨e5, Win.nil_ _ _ _, by simp [Value.owner]⟩, Win.nil_ _ _ _, by simp [Value.owner]⟩
set_option maxHeartbeats 1000000 in
theorem phad_at {w : World} {b o D e : Nat} (hD : 1 ≤ D) (c0 : w.cell? ⟨b, o, none⟩ = some (.int .i64 (e : Nat))) (c1 : w.cell? ⟨b, o + 1, none⟩ = some (.int .i64 (D : Nat))) :
    Calls Try.prog 35 #[.pointer (some ⟨b, o, none⟩)] w fun r w' => r = .returned (.int .i64 (e : Nat)) ∧ w = w' := by
  have hz : ((D : Int) == 0) = false := by rw [beq_eq_false_iff_ne]; omega
  clear hD
  go_enter Try.func35, Try.ntmps35
  go_wp2
  go_ret
  exact ⟨rfl, rfl⟩
set_option maxHeartbeats 1000000 in
theorem pdone_cell {w : World} {b o pl : Nat} (c2 : w.cell? ⟨b, o + 2, none⟩ = some (.int .i64 (pl : Nat))) :
    Calls Try.prog 22 #[.pointer (some ⟨b, o, none⟩)] w fun r w' => r = .returned (.bool (decide (pl = 3))) ∧ w = w' := by
  have hz : ((pl : Int) == 3) = decide (pl = 3) := by rw [Bool.eq_iff_iff, beq_iff_eq, decide_eq_true_eq]; omega
  generalize decide (pl = 3) = B at *
  go_enter Try.func22, Try.ntmps22
  go_wp2
  go_ret
  exact ⟨rfl, rfl⟩
/-- DONE. -/
theorem pdone_at {w : World} {b o D : Nat} {s : Pm} {vt vs : Value} (h : StPm w b o D s vt vs) (hw : WfPm D s) :
    Calls Try.prog 22 #[.pointer (some ⟨b, o, none⟩)] w fun r w' => r = .returned (.bool (donePm s)) ∧ w = w' := by
  rcases h.any with ⟨e, rfl, _, hA, _⟩ | ⟨hb, _⟩
  · exact pdone_cell (pl := 0) (hA 2 _ rfl).1
  · obtain ⟨pl, _, _, _, _, _, _, _, _, c, _, hd, _⟩ := (h.st hb).pp hb hw
    have := pdone_cell c.cells.1.2.2.1
    have e : decide (pl = 3) = donePm s := by rw [Bool.eq_iff_iff, decide_eq_true_eq]; exact hd
    rwa [e] at this
set_option maxRecDepth 100000 in
set_option maxHeartbeats 1000000 in
theorem pheld_cell {w : World} {b o p q : Nat} {a1 a2 : Option Addr} {x1 x2 : Nat} (hp : p ≤ 1000) (hq : q ≤ 1000) (c1 : w.cell? ⟨b, o + 12 + 2, none⟩ = some (.slice a1 p x1)) (c2 : w.cell? ⟨b, o + 19, none⟩ = some (.slice a2 q x2)) :
    Calls Try.prog 21 #[.pointer (some ⟨b, o, none⟩)] w fun r w' => r = .returned (.int .i64 ((p + q : Nat) : Int)) ∧ ∃ n, w' = w.drewN n := by
  have hw : IntKind.i64.wrap ((p : Int) + (q : Int)) = (p : Int) + (q : Int) := by simp only [IntKind.wrap_i64]; omega
  go_enter Try.func21, Try.ntmps21
  go_wp2
  go_quiet (fail)
  go_wp2
  go_ret
  exact ⟨rfl, _, rfl⟩
/-- HELD. -/
theorem pheld_at {w : World} {b o D : Nat} {s : Pm} {vt vs : Value} (h : StPm w b o D s vt vs) (hw : WfPm D s) :
    Calls Try.prog 21 #[.pointer (some ⟨b, o, none⟩)] w fun r w' => r = .returned (.int .i64 (heldPm s : Nat)) ∧ ∃ n, w' = w.drewN n := by
  rcases h.any with ⟨e, rfl, _, hA, _⟩ | ⟨hb, _⟩
  · exact pheld_cell (p := 0) (q := 0) (by omega) (by omega) (hA 14 _ rfl).1 (hA 19 _ rfl).1
  · obtain ⟨_, _, _, _, _, _, _, t, _, c, hh, _, ht, hs⟩ := (h.st hb).pp hb hw
    obtain ⟨a1, x1, e1, _, _⟩ := c.wt.slice_form
    obtain ⟨a2, x2, e2, _, _⟩ := c.op.win.slice_form
    rw [hh]
    exact pheld_cell (by omega) (by omega) (by rw [← e1]; exact c.cells.2.2.1.2.2.1) (by rw [← e2]; exact c.cells.2.2.2.1)
set_option maxHeartbeats 1000000 in
/-- END. -/
theorem pend_at {w : World} {b o D : Nat} {s : Pm} {vt vs : Value} (hD : 1 ≤ D) (h : StPm w b o D s vt vs) (hw : WfPm D s) :
    Calls Try.prog 26 #[.pointer (some ⟨b, o, none⟩)] w fun r w' => r = .returned (.int .i64 (endPm s : Nat)) ∧ w = w' := by
  have HH := Lib.hid (phad_at hD h.err.1 h.err.2)
  have HD := Lib.hid (pdone_at h hw)
  rcases h.any with ⟨e, rfl, he, _⟩ | ⟨hb, _⟩
  · have hz : ((e : Int) != 0) = true := by rw [bne_iff_ne]; omega
    simp only [errPm, errCi, endPm, endCi] at HH ⊢
    clear h hw he HD
    go_enter Try.func26, Try.ntmps26
    go_wp2_with fail
    refine HH.out.mono ?_
    rintro r w1 ⟨rfl, rfl⟩
    go_wp2
    go_ret
    exact ⟨rfl, rfl⟩
  · have hE : errPm s = 0 ∧ endPm s = if donePm s = true then 0 else 3 := by
      cases s with
      | c x =>
        cases x with
        | bad e => exact absurd rfl (hb e)
        | item s dn =>
          cases dn with
          | false => exact ⟨rfl, by simp [endPm, endCi, donePm, doneCi]⟩
          | true =>
            obtain rfl := hw.2.2 rfl
            exact ⟨rfl, rfl⟩
        | text _ _ _ _ _ => exact ⟨rfl, rfl⟩
        | head _ _ => exact hw.elim
        | open_ _ _ _ => exact hw.elim
        | chead _ _ _ _ => exact hw.elim
        | ctext _ _ _ _ _ => exact hw.elim
      | num _ _ _ _ _ => exact ⟨rfl, rfl⟩
    rw [hE.1] at HH
    rw [hE.2]
    generalize donePm s = B at *
    clear h hw hE hb
    cases B with
    | true =>
      go_enter Try.func26, Try.ntmps26
      go_wp2_with fail
      refine HH.out.mono ?_
      rintro r w1 ⟨rfl, rfl⟩
      go_wp2_with fail
      refine HD.out.mono ?_
      rintro r w1 ⟨rfl, rfl⟩
      go_wp2
      go_ret
      exact ⟨rfl, rfl⟩
    | false =>
      go_enter Try.func26, Try.ntmps26
      go_wp2_with fail
      refine HH.out.mono ?_
      rintro r w1 ⟨rfl, rfl⟩
      go_wp2_with fail
      refine HD.out.mono ?_
      rintro r w1 ⟨rfl, rfl⟩
      go_wp2
      go_ret
      exact ⟨rfl, rfl⟩
end Go.Proofs.Ytebnhelejebobaa
/-
  CONTRACTS of package packin, part O: Step, New: PinP of the Parser.
-/
namespace Go.Proofs.Ytebnhelejebobaa
open Go.RowKit
open Go.Lib
theorem errP_bad {s : Pm} (h : errPm s ≠ 0) : ∃ e, s = .c (.bad e) ∧ e ≠ 0 := by
  cases s with
  | num _ _ _ _ _ => exact absurd rfl h
  | c x =>
    obtain ⟨e, h1, h2⟩ := err_bad (s := x) h
    exact ⟨e, by rw [h1], h2⟩
/-- Behind a step. -/
def StepPK (w w' : World) (b o D : Nat) (vt vs : Value) (q : Pm × List Ev) (r : Ending) : Prop :=
  (∃ u, r = .returned (.tuple #[u, .int .i64 (errPm q.1 : Nat)]) ∧ Vls w w' u q.2) ∧ (∃ vt' vs', StPm w' b o D q.1 vt' vs' ∧ ∀ k ∈ Value.owner vt' ++ Value.owner vs', k ∈ Value.owner vt ++ Value.owner vs ∨ w.heap.size ≤ k) ∧ Subg (Value.owner vt ++ Value.owner vs) b o 20 w w'
set_option maxRecDepth 100000 in
set_option maxHeartbeats 4000000 in
/-- STEP. -/
theorem pstep_at {w : World} {b o D : Nat} {s : Pm} {vt vs : Value} (hD : 1 ≤ D ∧ D ≤ 16) (h : StPm w b o D s vt vs) (hw : WfPm D s) (y : UInt8) :
    Calls Try.prog 20 #[.pointer (some ⟨b, o, none⟩), .int .u8 (y.toNat : Int)] w fun r w' => StepPK w w' b o D vt vs (stepPm D s y) r := by
  have HH := Lib.hid (phad_at hD.1 h.err.1 h.err.2)
  rcases h.any with ⟨e, rfl, hne, _⟩ | ⟨hb, _⟩
  · have hz : ((e : Int) != 0) = true := by rw [bne_iff_ne]; omega
    have HK : Hid (StepPK w w b o D vt vs (stepPm D (.c (.bad e)) y) (.returned (.tuple #[.slice none 0 0, .int .i64 (e : Nat)]))) := Lib.hid ⟨⟨_, rfl, Vls.nil_ _ _⟩, ⟨vt, vs, h, fun k hk => .inl hk⟩, Subg.refl _ _ _ _ _⟩
    simp only [errPm, errCi] at HH
    clear h hw hD hne
    go_enter Try.func20, Try.ntmps20
    go_wp2_with fail
    refine HH.out.mono ?_
    rintro r w1 ⟨rfl, rfl⟩
    go_wp2
    go_ret2
    exact HK.out
  · have e0 : errPm s = 0 := by
      by_cases h0 : errPm s = 0
      · exact h0
      · obtain ⟨e, h1, _⟩ := errP_bad h0
        exact absurd h1 (hb e)
    have hT := ptake_at (y := y) hD.2 (h.st hb) hw hb
    have HL := Lib.hid h.lt
    rw [e0] at HH
    generalize stepPm D s y = R at *
    have HT := Lib.hid hT
    clear hT h hw hb e0 hD
    by_cases he : errPm R.1 = 0
    · have HE := Lib.hid he
      have HF : Hid (∀ (w' : World) (x : Value), GoM w w w' b o D vt vs R x → StepPK w w' b o D vt vs R (.returned (.tuple #[x, .int .i64 (errPm R.1 : Nat)]))) := Lib.hid (fun w' x hg => by
        obtain ⟨vt', vs', hst, ho⟩ := hg.st
        have hnb : ∀ e, R.1 ≠ .c (.bad e) := fun e h => by
          rw [h] at hst he
          exact hst.1 he
        exact ⟨⟨x, rfl, hg.vls⟩, ⟨vt', vs', StPm.of hst hnb, ho⟩, hg.sub⟩)
      unfold TakeP at HT
      rw [he] at HT HF
      go_enter Try.func20, Try.ntmps20
      go_wp2_with fail
      refine HH.out.mono ?_
      rintro r w1 ⟨rfl, rfl⟩
      go_wp2_with fail
      refine HT.out.mono ?_
      rintro r w1 ⟨x, rfl, hg⟩
      have HG := Lib.hid hg
      clear hg
      go_wp2
      go_ret2
      exact HF.out _ _ HG.out
    · obtain ⟨e, hR, hne⟩ := errP_bad he
      obtain ⟨R1, R2⟩ := R
      simp only at hR
      subst hR
      have hz : ((e : Int) != 0) = true := by rw [bne_iff_ne]; omega
      unfold TakeP at HT
      simp only [errPm, errCi] at HT
      have HN := Lib.hid hne
      clear he hne
      go_enter Try.func20, Try.ntmps20
      go_wp2_with fail
      refine HH.out.mono ?_
      rintro r w1 ⟨rfl, rfl⟩
      go_wp2_with fail
      refine HT.out.mono ?_
      rintro r w1 ⟨x, rfl, hg⟩
      have HG := Lib.hid hg
      obtain ⟨vt', vs', ⟨_, hroom, c1⟩, _⟩ := hg.st
      have HR := Lib.hid hroom
      clear hg hroom
      go_wp2_with (refine wpList_store_room rfl 86 _ _ rfl b o (paP e D) rfl rfl HR.out (by kernel_rfl) (paP_one _ _) ?_)
      intro w2 h2
      have HA := Lib.hid h2.out.1
      have HS2 := Lib.hid h2.out.2
      clear h2
      go_wp2
      go_ret2
      refine ⟨⟨x, rfl, HG.out.vls.sub HS2.out HL.out⟩, ⟨.slice none 0 0, .slice none 0 0, ⟨HN.out, HA.out, rfl, rfl⟩, fun k hk => by simp [Value.owner] at hk⟩, HG.out.sub.tr (HS2.out.subg _)⟩
set_option maxRecDepth 100000 in
set_option maxHeartbeats 1000000 in
/-- NEW. -/
theorem pnew_any (D : Nat) (hD : 1 ≤ D ∧ D ≤ 16) (w : World) :
    Calls Try.prog 19 #[.int .i64 D] w fun r w' => r = .returned (.pointer (some ⟨w.heap.size, 0, none⟩)) ∧ StPm w' w.heap.size 0 D pm0 (.slice none 0 0) (.slice none 0 0) ∧ Below w.heap.size w w' := by
  have h1 : ((D : Int) < 1) = False := by simp; omega
  have h2 : ((16 : Int) < (D : Int)) = False := by simp; omega
  have HP : Hid (StPm (w.alloc (.cells (paP 0 D).toArray 86)) w.heap.size 0 D pm0 (.slice none 0 0) (.slice none 0 0)) := Lib.hid ⟨_, _, _, _, pp_new (at_block (heap_alloc_new w _))⟩
  clear hD
  go_enter Try.func19, Try.ntmps19
  go_wp2
  go_ret
  exact ⟨rfl, HP.out, up_alloc (Below.refl _ _) _⟩
/-- A Parser in block b, made since w0. -/
structure PKp (w0 w : World) (b D : Nat) (s : Pm) : Prop where
  ex : ∃ vt vs, StPm w b 0 D s vt vs ∧ ∀ k ∈ Value.owner vt ++ Value.owner vs, w0.heap.size ≤ k
  wf : WfPm D s
  dD : 1 ≤ D ∧ D ≤ 16
  b0 : w0.heap.size ≤ b
  bel : Below w0.heap.size w0 w
theorem PKp.step {w0 w w' : World} {b D : Nat} {s : Pm} {vt vs : Value} {r : Ending} {y : UInt8} (h : PKp w0 w b D s) (ho : ∀ k ∈ Value.owner vt ++ Value.owner vs, w0.heap.size ≤ k) (hk : StepPK w w' b 0 D vt vs (stepPm D s y) r) :
    (∃ v, r = .returned (.tuple #[v, .int .i64 (errPm (stepPm D s y).1 : Nat)]) ∧ Vls w0 w' v (stepPm D s y).2) ∧ PKp w0 w' b D (stepPm D s y).1 := by
  obtain ⟨⟨u, hr, hv⟩, ⟨vt', vs', hst, ho'⟩, hS⟩ := hk
  have hsz := h.bel.size
  refine ⟨⟨u, hr, hv.old hsz⟩, ⟨⟨vt', vs', hst, fun k hk => (ho' k hk).elim (ho k) (fun h => Nat.le_trans hsz h)⟩, wfP_step h.dD.2 h.wf y, h.dD, h.b0, h.bel.trans (hS.below h.b0 ho hsz)⟩⟩
/-- PINP: a Parser is the machine's. -/
theorem pinP_all : PinP PKp where
  new_ := fun D hD w => (pnew_any D hD w).mono fun r w' h => ⟨_, h.1, ⟨⟨_, _, h.2.1, fun k hk => by simp [Value.owner] at hk⟩, wfP_0 _, hD, Nat.le_refl _, h.2.2⟩⟩
  step := fun w0 w b D s c h => by
    obtain ⟨vt, vs, hst, ho⟩ := h.ex
    exact (pstep_at h.dD hst h.wf c).mono fun r w' hk => h.step ho hk
  held := fun w0 w b D s h => by
    obtain ⟨vt, vs, hst, ho⟩ := h.ex
    exact (pheld_at hst h.wf).mono fun r w' hr => ⟨hr.1, by obtain ⟨n, rfl⟩ := hr.2; exact below_drewN (Below.refl _ _) n⟩
  done := fun w0 w b D s h => by
    obtain ⟨vt, vs, hst, ho⟩ := h.ex
    exact pdone_at hst h.wf
  go := fun w0 w w' b D s h k => by
    obtain ⟨vt, vs, hst, ho⟩ := h.ex
    exact ⟨⟨vt, vs, hst.go k, ho⟩, h.wf, h.dD, h.b0, h.bel.trans (k.mono h.bel.size)⟩
  bel := fun w0 w b D s h => h.bel
end Go.Proofs.Ytebnhelejebobaa
/-
  CONTRACTS of package packin, part P: plain; All: PinAll.
-/
namespace Go.Proofs.Ytebnhelejebobaa
open Go.RowKit
open Go.Lib
theorem heap_new2p (w : World) (x y : Obj) : ((w.alloc x).alloc y).heap[w.heap.size + 1]? = some y := by
  have := heap_alloc_new (w.alloc x) y
  simpa using this
set_option maxRecDepth 100000 in
set_option maxHeartbeats 2000000 in
theorem pplain_at {w0 w : World} {v : Value} {L : List Ev} (hV : Vls w0 w v L) (hL : ∀ e ∈ L, ToldC e) (hn : L.length ≤ 900) :
    Calls Try.prog 25 #[v] w fun r w' => ∃ u, r = .returned u ∧ Made w w' u L.length L := by
  obtain ⟨a, c, rfl⟩ := hV.form
  obtain ⟨n, hnn⟩ : ∃ n, L.length = n := ⟨_, rfl⟩
  have H0 : Hid (Made w w (.slice none 0 0) 0 (L.take 0)) := Lib.hid (by simpa using made_nil w)
  have HW := Lib.hid hV.win
  have HL := Lib.hid hL
  have HNN := Lib.hid hnn
  rw [hnn] at hn HW ⊢
  clear hV hL hnn
  go_enter Try.func25, Try.ntmps25
  go_wp2
  go_loopw [3, 5, 6, 7, 10] (fun l _ _ _ i wr => ∃ (j : Nat) (a1 : Option Addr) (c1 : Nat), l = .slice a1 j c1 ∧ i = .int .i64 j ∧ j ≤ n ∧ Hid (Made w wr (.slice a1 j c1) j (L.take j))) (fun _ _ _ _ i _ => n - (RowKit.intOf i).toNat)
  case atStart => exact ⟨0, none, 0, rfl, rfl, by omega, H0⟩
  case round =>
    obtain ⟨j, a1, c1, rfl, rfl, hj, HM⟩ := hrel
    clear H0
    by_cases hlt : j < n
    · have hjl : j < L.length := by rw [HNN.out]; exact hlt
      have hT := HL.out _ (List.getElem_mem hjl)
      have hwin : Win wr 20 1 (.slice a n c) n (L.map valE) := HW.out.keep fun k hk => HM.out.1.block k (HW.out.lt k hk)
      obtain ⟨g, off, c', hv, x0⟩ := hwin.elem j (valE L[j]) (by simp [hjl])
      have htk : L.take (j + 1) = L.take j ++ [L[j]] := by rw [List.take_add_one, List.getElem?_eq_getElem hjl]; rfl
      have hP := fun W => plain_any L[j] hT.1 W
      rw [hT.2.1] at hP
      generalize L[j] = e at *
      simp only [Value.slice.injEq] at hv
      obtain ⟨rfl, hv2, rfl⟩ := hv
      clear hv2
      obtain ⟨k, y, m, t, c2⟩ := e
      simp only [evV] at hP
      have HP := Lib.hid hP
      have HTK := Lib.hid htk
      generalize valE ⟨k, y, m, t, c2⟩ = V at *
      have hHM := HM.out
      clear hT hwin hP htk hjl
      go_wp2_with fail
      refine (HP.out _).mono ?_
      rintro r w1 ⟨rfl, b1⟩
      have HM1 := Lib.hid (hHM.go b1)
      clear hHM b1
      go_wp2_with (at_builtin; refine wpList_append_win rfl _ _ _ rfl Try.underlying23 info_ev rfl rfl ((HM1.out.2.1.alloc _).alloc _) _ rfl 1 _ (src_new _ Try.underlying23 5 1 (evsC [⟨k, y, m, t, c2⟩]) 39 _ rfl (evsC_one _) (heap_new2p _ _ _)) ?e1 ?e2 ?_)
      case e1 => unfold maxLen; omega
      case e2 => omega
      intro v3 w3 hW3 hG3 hO3
      have hM3 : Made w w3 v3 (j + 1) (L.take j ++ [⟨k, y, m, t, c2⟩]) := made_more HM1.out (up_alloc (up_alloc (Below.refl _ _) _) _) hW3.out hG3.out (by simpa using hO3.out)
      rw [← HTK.out] at hM3
      obtain ⟨a3, c3, rfl, _, _⟩ := hM3.2.1.slice_form
      have M3 := Lib.hid hM3
      clear hW3 hG3 hO3 hM3
      go_wp2
      go_roundw
      case rel => exact ⟨j + 1, a3, c3, rfl, rfl, hlt, M3⟩
      case measure => simp [RowKit.intOf]; omega
    · obtain rfl : j = n := by omega
      have HF : Hid (Made w wr (.slice a1 j c1) j L) := Lib.hid (by
        have := HM.out
        rwa [List.take_of_length_le (by rw [HNN.out]; exact Nat.le_refl _)] at this)
      go_wp2
      go_ret
      exact ⟨_, rfl, HF.out⟩
/-! ### All -/
theorem PP.keepB {w w' : World} {b o D pl kd nm fm : Nat} {h : Hd} {tk lk : Nat} {vt : Value} {t : List UInt8} {u : Option (Nat × Nat × Nat)} {vs : Value} {n : Nat} {xs : List Value} (c : PP w b o D pl kd nm fm h tk lk vt t u vs n xs) (hb : w'.heap[b]? = w.heap[b]?) (hg : ∀ k ∈ Value.owner vt ++ Value.owner vs, w'.heap[k]? = w.heap[k]?) : PP w' b o D pl kd nm fm h tk lk vt t u vs n xs :=
  ⟨c.a.keep hb, c.it.keep hb, c.hd.keep hb, c.tx.keep hb, c.ck.keep hb, ⟨c.op.ptr.keep hb, c.op.win.keep fun k hk => hg k (List.mem_append.2 (.inr hk)), c.op.far⟩, c.wt.keep fun k hk => hg k (List.mem_append.2 (.inl hk)), c.ft⟩
theorem StPm.keepB {w w' : World} {b o D : Nat} {s : Pm} {vt vs : Value} (h : StPm w b o D s vt vs) (hb : w'.heap[b]? = w.heap[b]?) (hg : ∀ k ∈ Value.owner vt ++ Value.owner vs, w'.heap[k]? = w.heap[k]?) : StPm w' b o D s vt vs := by
  cases s with
  | c x =>
    cases x with
    | bad e => exact ⟨h.1, h.2.1.keep hb, h.2.2⟩
    | item _ _ => obtain ⟨kd, nm, fm, hh, c⟩ := h; exact ⟨kd, nm, fm, hh, c.keepB hb hg⟩
    | text _ _ _ _ _ => obtain ⟨kd, nm, fm, hh, c⟩ := h; exact ⟨kd, nm, fm, hh, c.keepB hb hg⟩
    | head _ _ => exact h.elim
    | open_ _ _ _ => exact h.elim
    | chead _ _ _ _ => exact h.elim
    | ctext _ _ _ _ _ => exact h.elim
  | num _ _ _ _ _ => obtain ⟨nm, c⟩ := h; exact ⟨nm, c.keepB hb hg⟩
theorem StPm.evs {w : World} {b o D : Nat} {s : Pm} {vt vs : Value} (h : StPm w b o D s vt vs) {v : Value} {m : Nat} {L : List Value} (hv : Win w 39 5 v m L) : ∀ k ∈ Value.owner vt ++ Value.owner vs, k ∉ Value.owner v := fun k hk => by
  rcases h.any with ⟨_, _, _, _, rfl, rfl⟩ | ⟨_, _, _, _, _, _, _, _, _, _, c⟩
  · simp [Value.owner] at hk
  · rcases List.mem_append.1 hk with hk | hk
    · exact hv.apart2 c.wt (by decide) k hk
    · exact hv.apart2 c.op.win (by decide) k hk
theorem StPm.olt {w : World} {b o D : Nat} {s : Pm} {vt vs : Value} (h : StPm w b o D s vt vs) : ∀ k ∈ Value.owner vt ++ Value.owner vs, k < w.heap.size := fun k hk => by
  rcases h.any with ⟨_, _, _, _, rfl, rfl⟩ | ⟨_, _, _, _, _, _, _, _, _, _, c⟩
  · simp [Value.owner] at hk
  · rcases List.mem_append.1 hk with hk | hk
    · exact c.wt.lt k hk
    · exact c.op.win.lt k hk
/-- In the midst of All: the Parser, in the block that New made; the parts so far. -/
structure AllPK (w w1 wr : World) (D : Nat) (s : Pm) (u : Value) (n : Nat) (L : List Ev) : Prop where
  pat : ∃ vt vs, StPm wr w.heap.size 0 D s vt vs ∧ ∀ k ∈ Value.owner vt ++ Value.owner vs, w.heap.size ≤ k
  wf : WfPm D s
  win : Win wr 39 5 u n (evsC L)
  own : ∀ k ∈ Value.owner u, w1.heap.size ≤ k
  below : Below w.heap.size w wr
  b1 : w.heap.size < w1.heap.size
  size : w1.heap.size ≤ wr.heap.size
theorem AllPK.kept {w w1 wr w2 w3 : World} {D : Nat} {s : Pm} {u u2 vt vs : Value} {n m : Nat} {L K : List Ev} {q : Pm × List Ev} {r : Ending} (h : AllPK w w1 wr D s u n L) (hst : StPm wr w.heap.size 0 D s vt vs) (hK : StepPK wr w2 w.heap.size 0 D vt vs q r) (hM : Made w2 w3 u2 m K) : Win w3 39 5 u n (evsC L) :=
  h.win.keep fun k hk => by
    have h1 := h.win.lt k hk
    have h2 := h.own k hk
    have h3 := h.b1
    exact (hM.1.block k (Nat.lt_of_lt_of_le h1 hK.2.2.size)).trans (hK.2.2.block k h1 (by omega) (fun hg => hst.evs h.win k hg hk))
/-- Behind a step that told parts, and their append. -/
theorem AllPK.next {w w1 wr w2 w3 w4 : World} {D : Nat} {s : Pm} {u u2 u3 vt vs : Value} {n m : Nat} {L K : List Ev} {q : Pm × List Ev} {r : Ending} (h : AllPK w w1 wr D s u n L) (hst : StPm wr w.heap.size 0 D s vt vs) (ho : ∀ k ∈ Value.owner vt ++ Value.owner vs, w.heap.size ≤ k) (hK : StepPK wr w2 w.heap.size 0 D vt vs q r) (hwf : WfPm D q.1) (hM : Made w2 w3 u2 m K)
    (hW : Win w4 39 5 u3 (n + m) (evsC L ++ evsC K)) (hG : w3.grownBy w4 u.ownBlock) (hO : u3.ownBlock = u.ownBlock ∨ u3.ownBlock = some w3.heap.size ∧ w3.heap.size < w4.heap.size) : AllPK w w1 w4 D q.1 u3 (n + m) (L ++ K) := by
  have hrow : ∀ k, u.ownBlock = some k → w1.heap.size ≤ k := fun k hk => h.own k ((ob_iff _ _).1 hk)
  have hu3 := h.kept hst hK hM
  obtain ⟨⟨x, _, hv⟩, ⟨vt', vs', hst', ho'⟩, hS⟩ := hK
  have h12 : wr.heap.size ≤ w2.heap.size := hS.size
  have h23 : w2.heap.size ≤ w3.heap.size := hM.1.size
  have hb := h.b1
  have hs := h.size
  have h3 : Below w.heap.size w w3 := (h.below.trans (hS.below (Nat.le_refl _) ho (by omega))).trans (hM.1.mono (by omega))
  have hst3 : StPm w3 w.heap.size 0 D q.1 vt' vs' := hst'.go hM.1
  have hlt := hst3.olt
  have hbl := hst3.lt
  have hev := hst3.evs hu3
  refine ⟨⟨vt', vs', hst3.keepB (hG.block _ hbl (fun e => by have := hrow _ e.symm; omega)) (fun k hk => hG.block k (hlt k hk) (fun e => hev k hk ((ob_iff _ _).1 e.symm))), fun k hk => (ho' k hk).elim (ho k) (fun h => by omega)⟩, hwf, by rw [evsC_append]; exact hW, fun k hk => ?_, h3.grown hG (by omega) (fun k hk => by have := hrow k hk; omega), hb, Nat.le_trans hs (Nat.le_trans h12 (Nat.le_trans h23 hG.size))⟩
  rcases hO with e | ⟨e, _⟩
  · exact hrow k (e ▸ (ob_iff _ _).2 hk)
  · have h2 := (ob_iff _ _).2 hk
    rw [e] at h2
    cases h2
    omega
/-- The list, told of the world ahead of all. -/
theorem AllPK.made {w w1 wr : World} {D : Nat} {s : Pm} {u : Value} {n : Nat} {L : List Ev} (h : AllPK w w1 wr D s u n L) : Made w wr u n L := ⟨h.below, h.win, fun k hk => Nat.le_trans (Nat.le_of_lt h.b1) (h.own k hk)⟩
set_option maxRecDepth 100000 in
set_option maxHeartbeats 4000000 in
/-- ALL. -/
theorem pall_any : PinAll := by
  intro bs D hD hz w
  obtain ⟨X, hX⟩ : ∃ X : ByteArray, (⟨bs.toArray⟩ : ByteArray) = X := ⟨_, rfl⟩
  have hsz : X.size = bs.length := by rw [← hX]; exact size_of bs
  have hget : ∀ (i : Nat) (h : i < X.size) (h' : i < bs.length), X[i] = bs[i]'h' := by subst hX; intro i h h'; rfl
  have HGET := Lib.hid hget
  have HSZ := Lib.hid hsz
  have HZ := Lib.hid (And.intro hz hD)
  have HN := Lib.hid (pnew_any D hD w)
  have hx : X.size ≤ 100000000 := by omega
  have HX := Lib.hid hX
  rw [hX]
  clear hX hget hsz hz hD
  go_enter Try.func14, Try.ntmps14
  go_wp2_with fail
  refine HN.out.mono ?_
  rintro r w1 ⟨rfl, hP, hb⟩
  have hs1 : w.heap.size < w1.heap.size := hP.lt
  have H0 : Hid (AllPK w w1 w1 D (runPm D pm0 (bs.take 0)).1 (.slice none 0 0) 0 (runPm D pm0 (bs.take 0)).2) := Lib.hid ⟨⟨_, _, by simpa [runPm] using hP, fun k hk => by simp [Value.owner] at hk⟩, by simpa [runPm] using wfP_0 D, by simpa [runPm, evsC] using Win.nil_ _ _ _, fun k hk => by simp [Value.owner] at hk, hb, hs1, Nat.le_refl _⟩
  clear hP hb hs1
  go_wp2
  go_loopw [7, 8, 9, 10, 17] (fun l _ _ _ i wr => ∃ (j n : Nat) (a : Option Addr) (c : Nat), l = .slice a n c ∧ i = .int .i64 j ∧ j ≤ X.size ∧ n ≤ 18 * j ∧ Hid (AllPK w w1 wr D (runPm D pm0 (bs.take j)).1 (.slice a n c) n (runPm D pm0 (bs.take j)).2)) (fun _ _ _ _ i _ => X.size - (RowKit.intOf i).toNat)
  case atStart => exact ⟨0, 0, none, 0, rfl, rfl, by omega, by omega, H0⟩
  case round =>
    obtain ⟨j, n, a, c, rfl, rfl, hj, hn, HA⟩ := hrel
    clear H0
    obtain ⟨vt, vs, hst, ho⟩ := HA.out.pat
    have HST := Lib.hid (And.intro hst ho)
    by_cases hlt : j < X.size
    · have hjl : j < bs.length := by rw [← HSZ.out]; exact hlt
      have hy := HGET.out j hlt hjl
      have hsn := runPm_snoc D pm0 bs j hjl
      have hS := pstep_at HZ.out.2 hst HA.out.wf bs[j]
      have hF := tolP_step HZ.out.2.2 HA.out.wf bs[j]
      have hwf := wfP_step HZ.out.2.2 HA.out.wf bs[j]
      have hstp := @all_stopP D
      obtain ⟨y, hyy⟩ : ∃ y, bs[j] = y := ⟨_, rfl⟩
      rw [hyy] at hy hS hF hsn hwf
      have hlen : (stepPm D (runPm D pm0 (bs.take j)).1 y).2.length ≤ 18 := by have := hF.len; have := wfP_stk HA.out.wf HZ.out.2.2; omega
      have hTd := hF.told
      clear hF
      generalize runPm D pm0 (bs.take j) = R at *
      obtain ⟨s, L⟩ := R
      simp only at hS hTd hsn hlen HA hwf HST
      generalize stepPm D s y = T at *
      obtain ⟨s', K⟩ := T
      simp only at hTd hsn hlen hwf
      have HS := Lib.hid hS
      have HTD := Lib.hid hTd
      have HSN := Lib.hid hsn
      have HL := Lib.hid hlen
      have HW := Lib.hid hwf
      have HHN := Lib.hid hn
      have hn9 : n ≤ 1800000000 := by omega
      clear hS hTd hsn hlen hyy hstp hjl hn hwf hst ho
      unfold StepPK at HS
      go_wp2_with fail
      refine HS.out.mono ?_
      rintro r w2 ⟨⟨v2, rfl, hV⟩, hrest⟩
      have H2 : Hid (StepPK wr w2 w.heap.size 0 D vt vs (s', K) (.returned (.tuple #[v2, .int .i64 (errPm s' : Nat)]))) := Lib.hid ⟨⟨v2, rfl, hV⟩, hrest⟩
      have HV := Lib.hid hV
      clear hV hrest
      go_wp2_with fail
      refine (pplain_at HV.out HTD.out (by have := HL.out; omega)).mono ?_
      rintro r w3 ⟨u2, rfl, hM⟩
      obtain ⟨a2, c2, rfl, _, _⟩ := hM.2.1.slice_form
      have HW1 := Lib.hid (HA.out.kept HST.out.1 H2.out hM)
      have H3 := Lib.hid hM
      clear hM
      obtain ⟨m, hm⟩ : ∃ m, K.length = m := ⟨_, rfl⟩
      have hm9 : m ≤ 18 := by have := HL.out; omega
      have HW2 : Hid (Win w3 39 5 (.slice a2 m c2) m (evsC K)) := Lib.hid (by have := H3.out.2.1; rwa [hm] at this)
      have H3' : Hid (Made w2 w3 (.slice a2 m c2) m K) := Lib.hid (by have := H3.out; rwa [hm] at this)
      rw [hm]
      clear hm H3
      go_wp2_with (at_builtin; refine wpList_append_win rfl _ _ _ rfl Try.underlying23 info_ev rfl rfl HW1.out _ rfl m _ (HW2.out.src Try.underlying23 (evsC_one _)) ?e1 ?e2 ?_)
      case e1 => unfold maxLen; omega
      case e2 => omega
      intro v4 w4 hW4 hG4 hO4
      have hA4 := HA.out.next HST.out.1 HST.out.2 H2.out HW.out H3'.out hW4.out hG4.out hO4.out
      obtain ⟨a4, c4, rfl, _, _⟩ := hA4.win.slice_form
      have H4 := Lib.hid hA4
      clear hW4 hG4 hO4 hA4
      by_cases he : errPm s' = 0
      · rw [he]
        clear he
        go_wp2
        go_roundw
        case rel => exact ⟨j + 1, n + m, a4, c4, rfl, rfl, hlt, by have := HHN.out; omega, Lib.hid (by rw [HSN.out]; exact H4.out)⟩
        case measure => simp [RowKit.intOf]; omega
      · obtain ⟨e, hbad, hne⟩ := errP_bad he
        have hR : allPm D bs = (L ++ K, e) := by
          have := all_stopP (D := D) (e := e) (j := j + 1) (l := bs) (by rw [HSN.out]; exact hbad)
          rw [this, HSN.out]
        have HR := Lib.hid hR
        have hz : ((e : Int) != 0) = true := by rw [bne_iff_ne]; omega
        rw [hbad]
        simp only [errPm, errCi]
        have hlen : (L ++ K).length = n + m := by
          have h1 := H4.out.win.1
          rw [evsC_length] at h1
          omega
        have HLEN := Lib.hid hlen
        clear he hbad hR hlen hne
        go_wp2
        go_ret2
        rw [HR.out]
        refine ⟨_, rfl, ?_⟩
        have := H4.out.made
        simp only
        rw [HLEN.out]
        exact this
    · obtain rfl : j = X.size := by omega
      have hE := pend_at HZ.out.2.1 hst HA.out.wf
      have hall : allPm D bs = ((runPm D pm0 (bs.take X.size)).2, endPm (runPm D pm0 (bs.take X.size)).1) := by
        rw [List.take_of_length_le (by rw [HSZ.out]; exact Nat.le_refl _)]
        rfl
      generalize runPm D pm0 (bs.take X.size) = R at *
      obtain ⟨s, L⟩ := R
      simp only at hE HA hall
      generalize endPm s = E at *
      have HE := Lib.hid hE
      have HALL := Lib.hid hall
      clear hE hall hn hst ho
      go_wp2_with fail
      refine HE.out.mono ?_
      rintro r w2 ⟨rfl, rfl⟩
      go_wp2
      go_ret2
      rw [HALL.out]
      refine ⟨_, rfl, ?_⟩
      simp only
      have h1 := HA.out.win.1
      rw [evsC_length] at h1
      have hl : L.length = n := by omega
      rw [hl]
      exact HA.out.made
end Go.Proofs.Ytebnhelejebobaa
/-
  PackinChecks, over the program as it landed.
-/
namespace Go.Proofs.Ytebnhelejebobaa
open Go.RowKit
open Go.Lib
theorem pchecks_end (x : ByteArray) (d : Int) (w : World) : Calls Try.prog 3 #[.string x, .int .i64 d] w fun r w' => r = .returned (.bool true) ∧ Below w.heap.size w w' := pchecks_row pall_any x d w
end Go.Proofs.Ytebnhelejebobaa
/-
  PackinDeep, over the program as it landed.
-/
namespace Go.Proofs.Ytebnhelejebobaa
open Go.RowKit
open Go.Lib
theorem pdeep_end (n d : Int) (w : World) : Calls Try.prog 6 #[.int .i64 n, .int .i64 d] w fun r w' => r = .returned (.bool true) ∧ Below w.heap.size w w' := pdeep_row pall_any n d w
end Go.Proofs.Ytebnhelejebobaa
/-
  PackinNumbers, over the program as it landed.
-/
namespace Go.Proofs.Ytebnhelejebobaa
open Go.RowKit
open Go.Lib
theorem pnumbers_end (v F : Int) (w : World) (hv : -9223372036854775808 ≤ v ∧ v < 9223372036854775808) : Calls Try.prog 9 #[.int .i64 v, .int .i64 F] w fun r w' => r = .returned (.bool true) ∧ Below w.heap.size w w' := pnumbers_row pall_any v F w hv
end Go.Proofs.Ytebnhelejebobaa
/-
  PackinBack, over the program as it landed.
-/
namespace Go.Proofs.Ytebnhelejebobaa
open Go.RowKit
open Go.Lib
theorem pback_end (A : Option Addr) (n cp : Nat) (Li : Nat → Int) (d : Int) (w : World) (hL : DLAt w w.heap.size A n Li) : Calls Try.prog 4 #[.slice A n cp, .int .i64 d] w fun r w' => r = .returned (.bool true) ∧ Below w.heap.size w w' := pback_row pall_any A n cp Li d w hL
end Go.Proofs.Ytebnhelejebobaa
/-
  PackinCuts, over the program as it landed.
-/
namespace Go.Proofs.Ytebnhelejebobaa
open Go.RowKit
open Go.Lib
theorem pcuts_end (A : Option Addr) (n cp : Nat) (Li : Nat → Int) (k : Int) (b : UInt8) (w : World) (hL : DLAt w w.heap.size A n Li) : Calls Try.prog 5 #[.slice A n cp, .int .i64 k, .int .u8 b.toNat] w fun r w' => r = .returned (.bool true) ∧ Below w.heap.size w w' := pcuts_row pall_any A n cp Li k b w hL
end Go.Proofs.Ytebnhelejebobaa
/-
  PackinOthers, over the program as it landed.
-/
namespace Go.Proofs.Ytebnhelejebobaa
open Go.RowKit
open Go.Lib
theorem pothers_end (b : UInt8) (o : Bool) (w : World) : Calls Try.prog 8 #[.int .u8 b.toNat, .bool o] w fun r w' => r = .returned (.bool true) ∧ Below w.heap.size w w' := pothers_row pall_any pinP_all b o w
end Go.Proofs.Ytebnhelejebobaa
/-
  PackinKeys, over the program as it landed.
-/
namespace Go.Proofs.Ytebnhelejebobaa
open Go.RowKit
open Go.Lib
theorem pkeys_end (s : ByteArray) (F : Int) (b : UInt8) (w : World) : Calls Try.prog 12 #[.string s, .int .i64 F, .int .u8 b.toNat] w fun r w' => r = .returned (.bool true) ∧ Below w.heap.size w w' := pkeys_row pall_any s F b w
end Go.Proofs.Ytebnhelejebobaa
/-
  PackinCounts, over the program as it landed.
-/
namespace Go.Proofs.Ytebnhelejebobaa
open Go.RowKit
open Go.Lib
theorem pcounts_end (n : Int) (m : Bool) (g : Nat) (hg : g < 4294967296) (w : World) : Calls Try.prog 11 #[.int .i64 n, .bool m, .int .u32 g] w fun r w' => r = .returned (.bool true) ∧ Below w.heap.size w w' := pcounts_row pall_any pinP_all n m g hg w
end Go.Proofs.Ytebnhelejebobaa
/-
  PackinTexts, over the program as it landed.
-/
namespace Go.Proofs.Ytebnhelejebobaa
open Go.RowKit
open Go.Lib
theorem ptexts_end (n : Int) (c : UInt8) (o : Bool) (w : World) : Calls Try.prog 7 #[.int .i64 n, .int .u8 c.toNat, .bool o] w fun r w' => r = .returned (.bool true) ∧ Below w.heap.size w w' := ptexts_row pall_any pinP_all n c o w
end Go.Proofs.Ytebnhelejebobaa
