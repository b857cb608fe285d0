/-
  Parts: PinPh, CinNest, CinNestB, CinNestC, CinNestD, Head, CinPa, BasePure.
-/
import Derived.Test.YtkgconbdmnmbnaaGreatG0j
import Derived.Test.YtkgconbdmnmbnaaGreatG0h
import Derived.Deep.RegionWith
import Derived.Test.YtkgconbdmnmbnaaGreatG0i
import Derived.Test.YtkgconbdmnmbnaaGreatG0c
import Derived.Test.YtkgconbdmnmbnaaGreatG0a
set_option maxRecDepth 100000
set_option maxHeartbeats 16000000
open Go.Lib (hid)
namespace Go.Proofs.YtkgconbdmnmbnaaGreat
section
open Go.RowKit
open Go.Lib
theorem pput_go {w0 w w1 : World} {b o D pl kd nm fm : Nat} {h : Hd} {vt vs : Value} {s : List Bx} (c : PP w b o D pl kd nm fm h 0 0 vt [] st0 vs s.length (inP s)) (hl : Low w0 w b vs) (hvt : ∀ k ∈ Value.owner vt, k < w0.heap.size) (hk : OkP s) (hB : Below w.heap.size w w1) (e : Ev) (g : Nat) (hg : g = w1.heap.size) :
    Calls Tryz.prog 196 #[.pointer (some ⟨b, o, none⟩), .slice (some ⟨g, 0, none⟩) 1 1] (w1.alloc (.cells #[valE e] 20)) fun r w' => ∃ x, r = .returned x ∧ GoM w0 w w' b o D vt vs (liftP (putC s e)) x := by
  subst hg; have h2 : Below w.heap.size w (w1.alloc (.cells #[valE e] 20)) := up_alloc hB _; have hc2 : PP (w1.alloc (.cells #[valE e] 20)) b o D pl kd nm fm h 0 0 vt [] st0 vs (incB s).length (outP (incB s)) := by
    rw [inc_lenK, inP_out]; exact c.go h2
  have hv : Vls w0 (w1.alloc (.cells #[valE e] 20)) (.slice (some ⟨w1.heap.size, 0, none⟩) 1 1) [e] := ⟨win_one w1 _ _ _ rfl, fun k hk => by
    simp only [Value.owner, List.mem_singleton] at hk; have := hl.size; have := hB.size; omega⟩
  refine (pends_at (w0 := w0) hc2 hv (by simp) (Nat.le_trans hl.size h2.size) hl.b hvt hl.vs hk.inc).mono ?_; rintro r w' ⟨x, rfl, hR⟩; exact ⟨x, rfl, pends_go hR (.inr rfl) rfl (fun k hk => by
    simp only [Value.owner, List.mem_singleton] at hk; have := hB.size; omega) (subg_below h2 c.lt _ _ _)⟩
def begP (s : List Bx) (kd nm fm : Nat) : Pm × List Ev :=
  if kd = 7 then liftP (lenP s false nm) else if kd = 8 then liftP (lenP s true nm) else if kd = 9 then liftP (cntP s false nm) else if kd = 10 then liftP (cntP s true nm) else liftP (putC s (partP kd nm fm))
theorem val_two (kd nm fm : Nat) : ∃ T y, valE (partP kd nm fm) = .iface T y ∨ valE (partP kd nm fm) = .nilIface := by
  unfold partP; split
  · exact ⟨_, _, .inl rfl⟩
  split
  · rw [sgnP_eq]
    exact ⟨_, _, .inl rfl⟩
  split
  · exact ⟨_, _, .inl rfl⟩
  split
  · exact ⟨0, .bool true, .inr rfl⟩
  · exact ⟨_, _, .inl rfl⟩
theorem pbegins_1 {w0 w : World} {b o D pl kd nm fm : Nat} {h : Hd} {vt : Value} {vs : Value} {s : List Bx} (c : PP w b o D pl kd nm fm h 0 0 vt [] st0 vs s.length (inP s)) (hl : Low w0 w b vs) (hvt : ∀ k ∈ Value.owner vt, k < w0.heap.size) (hk : OkP s) (v f : Nat) (hf : 1 = 3 → 24 ≤ f ∧ f ≤ 27 ∧ v < 256 ^ (2 ^ (f - 24))) :
    Calls Tryz.prog 189 #[.pointer (some ⟨b, o, none⟩), .agg #[.int .i64 1, .int .u64 (v : Nat), .int .u8 (f : Nat)]] w fun r w' =>
      ∃ x, r = .returned (.tuple #[x, .int .i64 0]) ∧ GoM w0 w w' b o D vt vs (liftP (putC s (partP 1 v f))) x := by
  have HP := hid (fun W => part_any 1 v f (by omega) hf W); have hB : Below w.heap.size w (w.alloc (.cells #[.int .i64 1, .int .u64 (v : Nat), .int .u8 (f : Nat)] 144)) := up_alloc (Below.refl _ _) _; have HE := hid (fun w1 (k : Below w.heap.size w w1) => pput_go (w0 := w0) c hl hvt hk k (partP 1 v f) _ rfl); have HB := hid hB; obtain ⟨T, y, hT⟩ := val_two 1 v f; clear c hl hvt hk hf hB; rcases hT with hT | hT
  · go_enter Tryz.func189, Tryz.ntmps189
    (go_wp2_with fail); refine (HP.out _).mono ?_; rintro r w1 ⟨rfl, b1⟩; have HE1 := hid (HE.out _ (up_trans HB.out b1)); rw [hT] at HE1 ⊢; clear b1 HE HP; (go_wp2_with fail); refine HE1.out.mono ?_; rintro r w' ⟨x, rfl, hR⟩; have HR := hid hR; clear hR; go_wp2; go_ret2; exact ⟨x, rfl, HR.out⟩
  · go_enter Tryz.func189, Tryz.ntmps189
    (go_wp2_with fail); refine (HP.out _).mono ?_; rintro r w1 ⟨rfl, b1⟩; have HE1 := hid (HE.out _ (up_trans HB.out b1)); rw [hT] at HE1 ⊢; clear b1 HE HP; (go_wp2_with fail); refine HE1.out.mono ?_; rintro r w' ⟨x, rfl, hR⟩; have HR := hid hR; clear hR; go_wp2; go_ret2; exact ⟨x, rfl, HR.out⟩
theorem pbegins_2 {w0 w : World} {b o D pl kd nm fm : Nat} {h : Hd} {vt : Value} {vs : Value} {s : List Bx} (c : PP w b o D pl kd nm fm h 0 0 vt [] st0 vs s.length (inP s)) (hl : Low w0 w b vs) (hvt : ∀ k ∈ Value.owner vt, k < w0.heap.size) (hk : OkP s) (v f : Nat) (hf : 2 = 3 → 24 ≤ f ∧ f ≤ 27 ∧ v < 256 ^ (2 ^ (f - 24))) :
    Calls Tryz.prog 189 #[.pointer (some ⟨b, o, none⟩), .agg #[.int .i64 2, .int .u64 (v : Nat), .int .u8 (f : Nat)]] w fun r w' =>
      ∃ x, r = .returned (.tuple #[x, .int .i64 0]) ∧ GoM w0 w w' b o D vt vs (liftP (putC s (partP 2 v f))) x := by
  have HP := hid (fun W => part_any 2 v f (by omega) hf W); have hB : Below w.heap.size w (w.alloc (.cells #[.int .i64 2, .int .u64 (v : Nat), .int .u8 (f : Nat)] 144)) := up_alloc (Below.refl _ _) _; have HE := hid (fun w1 (k : Below w.heap.size w w1) => pput_go (w0 := w0) c hl hvt hk k (partP 2 v f) _ rfl); have HB := hid hB; obtain ⟨T, y, hT⟩ := val_two 2 v f; clear c hl hvt hk hf hB; rcases hT with hT | hT
  · go_enter Tryz.func189, Tryz.ntmps189
    (go_wp2_with fail); refine (HP.out _).mono ?_; rintro r w1 ⟨rfl, b1⟩; have HE1 := hid (HE.out _ (up_trans HB.out b1)); rw [hT] at HE1 ⊢; clear b1 HE HP; (go_wp2_with fail); refine HE1.out.mono ?_; rintro r w' ⟨x, rfl, hR⟩; have HR := hid hR; clear hR; go_wp2; go_ret2; exact ⟨x, rfl, HR.out⟩
  · go_enter Tryz.func189, Tryz.ntmps189
    (go_wp2_with fail); refine (HP.out _).mono ?_; rintro r w1 ⟨rfl, b1⟩; have HE1 := hid (HE.out _ (up_trans HB.out b1)); rw [hT] at HE1 ⊢; clear b1 HE HP; (go_wp2_with fail); refine HE1.out.mono ?_; rintro r w' ⟨x, rfl, hR⟩; have HR := hid hR; clear hR; go_wp2; go_ret2; exact ⟨x, rfl, HR.out⟩
theorem pbegins_3 {w0 w : World} {b o D pl kd nm fm : Nat} {h : Hd} {vt : Value} {vs : Value} {s : List Bx} (c : PP w b o D pl kd nm fm h 0 0 vt [] st0 vs s.length (inP s)) (hl : Low w0 w b vs) (hvt : ∀ k ∈ Value.owner vt, k < w0.heap.size) (hk : OkP s) (v f : Nat) (hf : 3 = 3 → 24 ≤ f ∧ f ≤ 27 ∧ v < 256 ^ (2 ^ (f - 24))) :
    Calls Tryz.prog 189 #[.pointer (some ⟨b, o, none⟩), .agg #[.int .i64 3, .int .u64 (v : Nat), .int .u8 (f : Nat)]] w fun r w' =>
      ∃ x, r = .returned (.tuple #[x, .int .i64 0]) ∧ GoM w0 w w' b o D vt vs (liftP (putC s (partP 3 v f))) x := by
  have HP := hid (fun W => part_any 3 v f (by omega) hf W); have hB : Below w.heap.size w (w.alloc (.cells #[.int .i64 3, .int .u64 (v : Nat), .int .u8 (f : Nat)] 144)) := up_alloc (Below.refl _ _) _; have HE := hid (fun w1 (k : Below w.heap.size w w1) => pput_go (w0 := w0) c hl hvt hk k (partP 3 v f) _ rfl); have HB := hid hB; obtain ⟨T, y, hT⟩ := val_two 3 v f; clear c hl hvt hk hf hB; rcases hT with hT | hT
  · go_enter Tryz.func189, Tryz.ntmps189
    (go_wp2_with fail); refine (HP.out _).mono ?_; rintro r w1 ⟨rfl, b1⟩; have HE1 := hid (HE.out _ (up_trans HB.out b1)); rw [hT] at HE1 ⊢; clear b1 HE HP; (go_wp2_with fail); refine HE1.out.mono ?_; rintro r w' ⟨x, rfl, hR⟩; have HR := hid hR; clear hR; go_wp2; go_ret2; exact ⟨x, rfl, HR.out⟩
  · go_enter Tryz.func189, Tryz.ntmps189
    (go_wp2_with fail); refine (HP.out _).mono ?_; rintro r w1 ⟨rfl, b1⟩; have HE1 := hid (HE.out _ (up_trans HB.out b1)); rw [hT] at HE1 ⊢; clear b1 HE HP; (go_wp2_with fail); refine HE1.out.mono ?_; rintro r w' ⟨x, rfl, hR⟩; have HR := hid hR; clear hR; go_wp2; go_ret2; exact ⟨x, rfl, HR.out⟩
theorem pbegins_4 {w0 w : World} {b o D pl kd nm fm : Nat} {h : Hd} {vt : Value} {vs : Value} {s : List Bx} (c : PP w b o D pl kd nm fm h 0 0 vt [] st0 vs s.length (inP s)) (hl : Low w0 w b vs) (hvt : ∀ k ∈ Value.owner vt, k < w0.heap.size) (hk : OkP s) (v f : Nat) (hf : 4 = 3 → 24 ≤ f ∧ f ≤ 27 ∧ v < 256 ^ (2 ^ (f - 24))) :
    Calls Tryz.prog 189 #[.pointer (some ⟨b, o, none⟩), .agg #[.int .i64 4, .int .u64 (v : Nat), .int .u8 (f : Nat)]] w fun r w' =>
      ∃ x, r = .returned (.tuple #[x, .int .i64 0]) ∧ GoM w0 w w' b o D vt vs (liftP (putC s (partP 4 v f))) x := by
  have HP := hid (fun W => part_any 4 v f (by omega) hf W); have hB : Below w.heap.size w (w.alloc (.cells #[.int .i64 4, .int .u64 (v : Nat), .int .u8 (f : Nat)] 144)) := up_alloc (Below.refl _ _) _; have HE := hid (fun w1 (k : Below w.heap.size w w1) => pput_go (w0 := w0) c hl hvt hk k (partP 4 v f) _ rfl); have HB := hid hB; obtain ⟨T, y, hT⟩ := val_two 4 v f; clear c hl hvt hk hf hB; rcases hT with hT | hT
  · go_enter Tryz.func189, Tryz.ntmps189
    (go_wp2_with fail); refine (HP.out _).mono ?_; rintro r w1 ⟨rfl, b1⟩; have HE1 := hid (HE.out _ (up_trans HB.out b1)); rw [hT] at HE1 ⊢; clear b1 HE HP; (go_wp2_with fail); refine HE1.out.mono ?_; rintro r w' ⟨x, rfl, hR⟩; have HR := hid hR; clear hR; go_wp2; go_ret2; exact ⟨x, rfl, HR.out⟩
  · go_enter Tryz.func189, Tryz.ntmps189
    (go_wp2_with fail); refine (HP.out _).mono ?_; rintro r w1 ⟨rfl, b1⟩; have HE1 := hid (HE.out _ (up_trans HB.out b1)); rw [hT] at HE1 ⊢; clear b1 HE HP; (go_wp2_with fail); refine HE1.out.mono ?_; rintro r w' ⟨x, rfl, hR⟩; have HR := hid hR; clear hR; go_wp2; go_ret2; exact ⟨x, rfl, HR.out⟩
theorem pbegins_7 {w0 w : World} {b o D pl kd nm fm : Nat} {h : Hd} {vt : Value} {vs : Value} {s : List Bx} (c : PP w b o D pl kd nm fm h 0 0 vt [] st0 vs s.length (inP s)) (hl : Low w0 w b vs) (_ : ∀ k ∈ Value.owner vt, k < w0.heap.size) (hk : OkP s) (v f : Nat) :
    Calls Tryz.prog 189 #[.pointer (some ⟨b, o, none⟩), .agg #[.int .i64 7, .int .u64 (v : Nat), .int .u8 (f : Nat)]] w fun r w' =>
      ∃ x, r = .returned (.tuple #[x, .int .i64 (errPm (liftP (lenP s false v)).1 : Nat)]) ∧ GoM w0 w w' b o D vt vs (liftP (lenP s false v)) x := by
  have hB : Below w.heap.size w (w.alloc (.cells #[.int .i64 7, .int .u64 (v : Nat), .int .u8 (f : Nat)] 144)) := up_alloc (Below.refl _ _) _; have HE := hid (pbeginText_at (c.go hB) (hl.up hB) hk false v f); have HF := hid (And.intro hB c.lt); clear c hB hl hk; go_enter Tryz.func189, Tryz.ntmps189; (go_wp2_with fail); refine HE.out.mono ?_; rintro r w' ⟨x, rfl, hR⟩; have HR := hid hR; clear hR; go_wp2; go_ret2; exact ⟨x, rfl, HR.out.up HF.out.1 HF.out.2⟩
theorem pbegins_8 {w0 w : World} {b o D pl kd nm fm : Nat} {h : Hd} {vt : Value} {vs : Value} {s : List Bx} (c : PP w b o D pl kd nm fm h 0 0 vt [] st0 vs s.length (inP s)) (hl : Low w0 w b vs) (_ : ∀ k ∈ Value.owner vt, k < w0.heap.size) (hk : OkP s) (v f : Nat) :
    Calls Tryz.prog 189 #[.pointer (some ⟨b, o, none⟩), .agg #[.int .i64 8, .int .u64 (v : Nat), .int .u8 (f : Nat)]] w fun r w' =>
      ∃ x, r = .returned (.tuple #[x, .int .i64 (errPm (liftP (lenP s true v)).1 : Nat)]) ∧ GoM w0 w w' b o D vt vs (liftP (lenP s true v)) x := by
  have hB : Below w.heap.size w (w.alloc (.cells #[.int .i64 8, .int .u64 (v : Nat), .int .u8 (f : Nat)] 144)) := up_alloc (Below.refl _ _) _; have HE := hid (pbeginText_at (c.go hB) (hl.up hB) hk true v f); have HF := hid (And.intro hB c.lt); clear c hB hl hk; go_enter Tryz.func189, Tryz.ntmps189; (go_wp2_with fail); refine HE.out.mono ?_; rintro r w' ⟨x, rfl, hR⟩; have HR := hid hR; clear hR; go_wp2; go_ret2; exact ⟨x, rfl, HR.out.up HF.out.1 HF.out.2⟩
theorem pbegins_9 {w0 w : World} {b o D pl kd nm fm : Nat} {h : Hd} {vt : Value} {vs : Value} {s : List Bx} (c : PP w b o D pl kd nm fm h 0 0 vt [] st0 vs s.length (inP s)) (hl : Low w0 w b vs) (hvt : ∀ k ∈ Value.owner vt, k < w0.heap.size) (hk : OkP s) (hd : s.length < 16) (v f : Nat) :
    Calls Tryz.prog 189 #[.pointer (some ⟨b, o, none⟩), .agg #[.int .i64 9, .int .u64 (v : Nat), .int .u8 (f : Nat)]] w fun r w' =>
      ∃ x, r = .returned (.tuple #[x, .int .i64 (errPm (liftP (cntP s false v)).1 : Nat)]) ∧ GoM w0 w w' b o D vt vs (liftP (cntP s false v)) x := by
  have hB : Below w.heap.size w (w.alloc (.cells #[.int .i64 9, .int .u64 (v : Nat), .int .u8 (f : Nat)] 144)) := up_alloc (Below.refl _ _) _; have HE := hid (pcon_any (c.go hB) (hl.up hB) hk hvt hd false v f); have HF := hid (And.intro hB c.lt); clear c hB hl hk hvt hd; go_enter Tryz.func189, Tryz.ntmps189; (go_wp2_with fail); refine HE.out.mono ?_; rintro r w' ⟨x, rfl, hR⟩; have HR := hid hR; clear hR; go_wp2; go_ret2; exact ⟨x, rfl, HR.out.up HF.out.1 HF.out.2⟩
theorem pbegins_10 {w0 w : World} {b o D pl kd nm fm : Nat} {h : Hd} {vt : Value} {vs : Value} {s : List Bx} (c : PP w b o D pl kd nm fm h 0 0 vt [] st0 vs s.length (inP s)) (hl : Low w0 w b vs) (hvt : ∀ k ∈ Value.owner vt, k < w0.heap.size) (hk : OkP s) (hd : s.length < 16) (v f : Nat) :
    Calls Tryz.prog 189 #[.pointer (some ⟨b, o, none⟩), .agg #[.int .i64 10, .int .u64 (v : Nat), .int .u8 (f : Nat)]] w fun r w' =>
      ∃ x, r = .returned (.tuple #[x, .int .i64 (errPm (liftP (cntP s true v)).1 : Nat)]) ∧ GoM w0 w w' b o D vt vs (liftP (cntP s true v)) x := by
  have hB : Below w.heap.size w (w.alloc (.cells #[.int .i64 10, .int .u64 (v : Nat), .int .u8 (f : Nat)] 144)) := up_alloc (Below.refl _ _) _; have HE := hid (pcon_any (c.go hB) (hl.up hB) hk hvt hd true v f); have HF := hid (And.intro hB c.lt); clear c hB hl hk hvt hd; go_enter Tryz.func189, Tryz.ntmps189; (go_wp2_with fail); refine HE.out.mono ?_; rintro r w' ⟨x, rfl, hR⟩; have HR := hid hR; clear hR; go_wp2; go_ret2; exact ⟨x, rfl, HR.out.up HF.out.1 HF.out.2⟩
theorem pbegins_at {w0 w : World} {b o D pl kd nm fm : Nat} {h : Hd} {vt : Value} {vs : Value} {s : List Bx} (c : PP w b o D pl kd nm fm h 0 0 vt [] st0 vs s.length (inP s)) (hl : Low w0 w b vs) (hvt : ∀ k ∈ Value.owner vt, k < w0.heap.size) (hk : OkP s)
    (K v f : Nat) (hK : 1 ≤ K ∧ K ≤ 10 ∧ K ≠ 5 ∧ K ≠ 6) (hf : K = 3 → 24 ≤ f ∧ f ≤ 27 ∧ v < 256 ^ (2 ^ (f - 24))) (hd : 9 ≤ K → s.length < 16) :
    Calls Tryz.prog 189 #[.pointer (some ⟨b, o, none⟩), .agg #[.int .i64 (K : Nat), .int .u64 (v : Nat), .int .u8 (f : Nat)]] w fun r w' =>
      ∃ x, r = .returned (.tuple #[x, .int .i64 (errPm (begP s K v f).1 : Nat)]) ∧ GoM w0 w w' b o D vt vs (begP s K v f) x := by
  have hc : K = 1 ∨ K = 2 ∨ K = 3 ∨ K = 4 ∨ K = 7 ∨ K = 8 ∨ K = 9 ∨ K = 10 := by omega
  rcases hc with rfl | rfl | rfl | rfl | rfl | rfl | rfl | rfl
  · exact pbegins_1 c hl hvt hk v f hf
  · exact pbegins_2 c hl hvt hk v f hf
  · exact pbegins_3 c hl hvt hk v f hf
  · exact pbegins_4 c hl hvt hk v f hf
  · exact pbegins_7 c hl hvt hk v f
  · exact pbegins_8 c hl hvt hk v f
  · exact pbegins_9 c hl hvt hk (hd (by omega)) v f
  · exact pbegins_10 c hl hvt hk (hd (by omega)) v f
end
section
open Go.RowKit
open Go.Lib
def ccB (b : Bx) (k : Nat) : List Value := [.bool b.map, .int .i64 (cntB b), .int .i64 (k : Int)]
def outL : List Bx → List Value
  | [] => []
  | b :: r => outL r ++ ccB b (b.have_ - 1)
def inL : List Bx → List Value
  | [] => []
  | b :: r => outL r ++ ccB b b.have_
theorem outL_length : ∀ s : List Bx, (outL s).length = s.length * 3
  | [] => rfl
  | b :: r => by rw [outL, List.length_append, outL_length r]; simp [ccB]; omega
theorem inL_out : ∀ s : List Bx, outL (incB s) = inL s
  | [] => rfl
  | _ :: _ => rfl
structure OkS (s : List Bx) : Prop where
  deep : s.length ≤ 16
  c : ∀ x ∈ s, -1 ≤ x.c ∧ x.c ≤ 1000000
  some_ : ∀ x ∈ s.tail, 1 ≤ x.have_
  most : ∀ x ∈ s, x.have_ ≤ 2000000000
theorem info_cont : (Tryz.prog.info? 247).map (fun i => (i.zero, i.size, i.bytes)) = some (some (.agg #[.bool false, .int .i64 0, .int .i64 0]), 3, 24) := by kernel_rfl
theorem lacks_any (m : Bool) (c : Int) (h : Nat) (w : World) :
    Calls Tryz.prog 178 #[.agg #[.bool m, .int .i64 c, .int .i64 (h : Int)]] w fun r w' => r = .returned (.bool (m && decide (h % 2 = 1))) ∧ Below w.heap.size w w' := by
  have hz : ((h : Int) % 2 != 0) = decide (h % 2 = 1) := by
    rw [Bool.eq_iff_iff, bne_iff_ne, decide_eq_true_eq]; omega
  go_enter Tryz.func178, Tryz.ntmps178; cases m with
  | false =>
    go_wp2; go_ret; exact ⟨rfl, up_alloc (Below.refl _ _) _⟩
  | true =>
    go_wp2; go_ret; exact ⟨rfl, up_alloc (Below.refl _ _) _⟩
theorem nst_last {w : World} {v : Value} {b : Bx} {r : List Bx} {k : Nat} (h : Win w 247 3 v (r.length + 1) (outL r ++ ccB b k)) :
    ∃ g off cap, v = .slice (some ⟨g, off, none⟩) (r.length + 1) cap ∧
      (w.cell? ⟨g, off + r.length * 3, none⟩ = some (.bool b.map) ∧ w.cell? ⟨g, off + r.length * 3 + 1, none⟩ = some (.int .i64 (cntB b)) ∧ w.cell? ⟨g, off + r.length * 3 + 2, none⟩ = some (.int .i64 (k : Int))) ∧
      (w.frozen? ⟨g, off + r.length * 3, none⟩ = false ∧ w.frozen? ⟨g, off + r.length * 3 + 1, none⟩ = false ∧ w.frozen? ⟨g, off + r.length * 3 + 2, none⟩ = false) := by
  obtain ⟨g, off, cap, rfl, h1, h2, _, _, h3⟩ := h.form (by simp); have hl := outL_length r; have hx : ∀ j u, (ccB b k)[j]? = some u → w.cell? ⟨g, off + (r.length * 3 + j), none⟩ = some u ∧ w.frozen? ⟨g, off + (r.length * 3 + j), none⟩ = false := fun j u hu => by
    refine h3 _ u ?_; rw [← hl, List.getElem?_append_right (by omega), Nat.add_sub_cancel_left]; exact hu
  have x0 := hx 0 _ rfl; have x1 := hx 1 _ rfl; have x2 := hx 2 _ rfl; simp only [← Nat.add_assoc, Nat.add_zero] at x0 x1 x2; exact ⟨g, off, cap, rfl, ⟨x0.1, x1.1, x2.1⟩, ⟨x0.2, x1.2, x2.2⟩⟩
theorem nst_store {w : World} {b : Bx} {r : List Bx} {k k' g off cap n : Nat} (_ : n = r.length + 1) (h : Win w 247 3 (.slice (some ⟨g, off, none⟩) n cap) n (outL r ++ ccB b k)) :
    Win (w.setCell ⟨g, off + r.length * 3 + 2, none⟩ (.int .i64 (k' : Int))) 247 3 (.slice (some ⟨g, off, none⟩) n cap) n (outL r ++ ccB b k') := by
  have hw := h.store (r.length * 3 + 2) (by rw [List.length_append, outL_length]; simp [ccB]) (.int .i64 (k' : Int)); have hx : (outL r ++ ccB b k).set (r.length * 3 + 2) (.int .i64 (k' : Int)) = outL r ++ ccB b k' := by
    rw [← outL_length, List.set_append, if_neg (by omega), Nat.add_sub_cancel_left]; rfl
  rw [hx, ← Nat.add_assoc] at hw; exact hw
theorem counts_nil (_ : Nat) (w : World) : ∀ v, Win w 247 3 v 0 [] → Calls Tryz.prog 179 #[v] w fun r w' => r = .returned (.bool false) ∧ w = w' := by
  intro v h; obtain ⟨a, cap, rfl, _, _⟩ := h.slice_form; clear h; go_enter Tryz.func179, Tryz.ntmps179; go_wp2; go_ret; exact ⟨rfl, rfl⟩
theorem counts_at {w : World} {b : Bx} {r : List Bx} {k n : Nat} {v : Value} (hn : n = r.length + 1) (hd : n ≤ 16) (h : Win w 247 3 v n (outL r ++ ccB b k)) (hk : k ≤ 2000000000) :
    Calls Tryz.prog 179 #[v] w fun e w' => e = .returned (.bool (((k + 1 : Nat) : Int) == cntB b)) ∧ ∃ g off cap q, v = .slice (some ⟨g, off, none⟩) n cap ∧ w' = (w.setCell ⟨g, off + r.length * 3 + 2, none⟩ (.int .i64 ((k + 1 : Nat) : Int))).drewN q := by
  subst hn; obtain ⟨g, off, cap, rfl, ⟨c0, c1, c2⟩, ⟨f0, f1, f2⟩⟩ := nst_last h; clear h; generalize r.length = m at *
  have hw : IntKind.i64.wrap ((k : Int) + 1) = (k : Int) + 1 := by simp only [IntKind.wrap_i64]; omega
  have hz : ((m : Int) + 1 == 0) = false := by rw [beq_eq_false_iff_ne]; omega
  have hwm : wrap64 (m : Int) = (m : Int) := by unfold wrap64; omega
  generalize cntB b = C at *
  go_enter Tryz.func179, Tryz.ntmps179; go_wp2
  go_quiet (fail)
  go_wp2; go_ret; exact ⟨rfl, g, off, cap, _, rfl, rfl⟩
end
section
open Go.RowKit
open Go.Lib
structure Nst (w : World) (b o : Nat) (v : Value) (n : Nat) (xs : List Value) : Prop where
  ptr : At w b o [v]
  win : Win w 247 3 v n xs
  far : b ∉ Value.owner v
theorem Nst.subg {g : List Nat} {w w' : World} {b o o' m n : Nat} {v : Value} {xs : List Value} (h : Nst w b o v n xs) (k : Subg g b o' m w w') (hd : o + 1 ≤ o' ∨ o' + m ≤ o) (hg : ∀ x ∈ Value.owner v, x ∉ g) : Nst w' b o v n xs :=
  ⟨h.ptr.subg k hd, h.win.subg k h.far hg, h.far⟩
theorem Nst.keep {w w' : World} {b o n : Nat} {v : Value} {xs : List Value} (h : Nst w b o v n xs) (hk : Below w.heap.size w w') : Nst w' b o v n xs :=
  ⟨h.ptr.keep (hk.block b (h.ptr.lt (by simp))), h.win.keep fun k hx => hk.block k (h.win.lt k hx), h.far⟩
theorem Nst.drewN {w : World} {b o n : Nat} {v : Value} {xs : List Value} (h : Nst w b o v n xs) (q : Nat) : Nst (w.drewN q) b o v n xs := ⟨h.ptr, h.win, h.far⟩
theorem leave_at {w : World} {b o : Nat} {v : Value} {x : Bx} {r : List Bx} {k n : Nat} (hn : n = r.length + 1) (hd : n ≤ 16) (h : Nst w b o v n (outL r ++ ccB x k)) :
    Calls Tryz.prog 166 #[.pointer (some ⟨b, o, none⟩)] w fun e w' => e = .returned (.tuple #[]) ∧ ∃ v', Nst w' b o v' r.length (outL r) ∧ Value.owner v' = Value.owner v ∧ Sub b o 1 w w' := by
  subst hn; obtain ⟨a, cp, rfl, _, _⟩ := h.win.slice_form; have c1 := (h.ptr 0 _ rfl).1; have f1 := (h.ptr 0 _ rfl).2; simp only [Nat.add_zero] at c1 f1; obtain ⟨v', hsl, hw', ho'⟩ := h.win.hi (P := Tryz.prog) (t := 140) Tryz.underlying140 (fun w => by kernel_rfl) r.length (by omega); rw [← outL_length, List.take_left] at hw'; obtain ⟨a', c', rfl, _, _⟩ := hw'.slice_form; have hl : IntKind.i64.wrap (r.length : Int) = (r.length : Int) := by simp only [IntKind.wrap_i64]; omega
  have hfin : Hid (Nst (w.setCell ⟨b, o, none⟩ (.slice a' r.length c')) b o (.slice a' r.length c') r.length (outL r)) := hid ⟨h.ptr.set 0 (by simp) _, hw'.setCell_far (by rw [ho']; exact h.far) _, by rw [ho']; exact h.far⟩; have HO := hid ho'; generalize r.length = m at *
  clear h hw' ho' hd; go_enter Tryz.func166, Tryz.ntmps166; (go_wp2_with fail); refine wp_region_tail 11 (by kernel_rfl) (by kernel_rfl) ?_; simp only [List.take_succ_cons, List.take_zero, List.drop_succ_cons, List.drop_zero]
  repeat still_step
  refine wpStill_nil ?_; go_wp2
  go_end0
  exact ⟨rfl, _, hfin.out.drewN 1, HO.out, (sub_setCell w o _ (by omega)).drewN 1⟩
theorem endItem_at {w : World} {b o : Nat} {v : Value} {s : List Bx} (h : Nst w b o v s.length (outL s)) (hk : ∀ x ∈ s, 1 ≤ x.have_ ∧ x.have_ ≤ 2000000000) (hd : s.length ≤ 16) :
    Calls Tryz.prog 176 #[.pointer (some ⟨b, o, none⟩)] w fun r w' => r = .returned (.int .i64 (numC s : Nat)) ∧ ∃ v', Nst w' b o v' (restC s).length (inL (restC s)) ∧ Value.owner v' = Value.owner v ∧ Subg (Value.owner v) b o 1 w w' := by
  have H := hid (And.intro h hk); obtain ⟨N, hN⟩ : ∃ N, s.length = N := ⟨_, rfl⟩
  have HN := hid hN; rw [hN] at hd; clear h hk hN; go_enter Tryz.func176, Tryz.ntmps176; go_wp2
  go_loopw [3] (fun i wr => ∃ (j : Nat), i = .int .i64 j ∧ j ≤ N ∧ Hid (∃ (q : List Bx) (v' : Value), q.length + j = N ∧ restC s = restC q ∧ numC s = numC q + j ∧ Nst wr b o v' q.length (outL q) ∧ (∀ x ∈ q, 1 ≤ x.have_ ∧ x.have_ ≤ 2000000000) ∧ Value.owner v' = Value.owner v ∧ Subg (Value.owner v) b o 1 w wr)) (fun i _ => N - (RowKit.intOf i).toNat)
  case atStart => exact ⟨0, rfl, by omega, hid ⟨s, v, by rw [HN.out]; rfl, rfl, rfl, H.out.1, H.out.2, rfl, Subg.refl _ _ _ _ _⟩⟩
  case round =>
    obtain ⟨j, rfl, hj, HI⟩ := hrel; obtain ⟨q, v', h1, h2, h3, h4, h5, h6, h7⟩ := HI.out; have hwj : wrap64 ((j : Int) + 1) = (j : Int) + 1 := by unfold wrap64; omega
    have hwj2 : IntKind.i64.wrap ((j : Int) + 1) = (j : Int) + 1 := by simp only [IntKind.wrap_i64]; omega
    cases q with
    | nil =>
      have c1 := (h4.ptr 0 _ rfl).1; have f1 := (h4.ptr 0 _ rfl).2; simp only [Nat.add_zero] at c1 f1; have HC := hid (counts_nil 0 wr v' h4.win); have HR := hid (And.intro h2 (And.intro h3 (And.intro h4 (And.intro h6 h7)))); clear HI h1 h2 h3 h4 h5 h6 h7 H; (go_wp2_with fail); refine HC.out.mono ?_; rintro r w1 ⟨rfl, rfl⟩; go_wp2; go_ret; obtain ⟨h2, h3, h4, h6, h7⟩ := HR.out; refine ⟨by rw [h3]; simp [numC], v', ?_, h6, h7⟩; rw [h2]; exact h4
    | cons x r =>
      have c1 := (h4.ptr 0 _ rfl).1; have f1 := (h4.ptr 0 _ rfl).2; simp only [Nat.add_zero] at c1 f1; have hx := h5 x (by simp); have hkk : x.have_ - 1 + 1 = x.have_ := by omega
      have HC := counts_at (k := x.have_ - 1) rfl (by simp only [List.length_cons] at h1; omega) h4.win (by omega); rw [hkk, ← full_cnt] at HC; have HC := hid HC; have HR := hid (And.intro h1 (And.intro h2 (And.intro h3 (And.intro h4 (And.intro h5 (And.intro h6 h7)))))); have HK := hid hkk; clear HI h1 h2 h3 h4 h5 h6 h7 hx hkk; by_cases hf : fullB x = true
      · rw [hf] at HC
        have HF := hid hf; clear hf; (go_wp2_with fail); refine HC.out.mono ?_; rintro e w1 ⟨rfl, g, off, cap, q, rfl, hw1⟩; have HW1 := hid hw1; have hN1 : Hid (Nst w1 b o (.slice (some ⟨g, off, none⟩) (r.length + 1) cap) (r.length + 1) (outL r ++ ccB x x.have_) ∧ Subg (Value.owner (.slice (some ⟨g, off, none⟩) (r.length + 1) cap)) b o 1 wr w1) := hid (by
          obtain ⟨h1, h2, h3, h4, h5, h6, h7⟩ := HR.out; have hne : g ≠ b := fun e => h4.far (by simp [Value.owner, e])
          have hs := nst_store (k' := x.have_) rfl h4.win; rw [hw1]; have hS : Subg (Value.owner (.slice (some ⟨g, off, none⟩) (r.length + 1) cap)) b o 1 wr (wr.setCell ⟨g, off + r.length * 3 + 2, none⟩ (.int .i64 (x.have_ : Int))) := subg_far wr (by simp [Value.owner]) hne _; exact ⟨⟨h4.ptr.keep (Below.heap_setCell wr _ _ b (fun e => hne e.symm)), hs, h4.far⟩, hS.drewN q⟩)
        clear hw1 HW1; (go_wp2_with fail); refine (leave_at (k := x.have_) rfl (by have := HR.out.1; simp only [List.length_cons] at this; omega) hN1.out.1).mono ?_; rintro e w2 ⟨rfl, v2, hN2, ho2, hS2⟩; have H2 := hid (And.intro hN2 (And.intro ho2 hS2)); clear hN2 ho2 hS2; go_wp2
        go_roundw
        case rel =>
          obtain ⟨h1, h2, h3, h4, h5, h6, h7⟩ := HR.out; simp only [List.length_cons] at h1; refine ⟨j + 1, rfl, by omega, hid ⟨r, v2, by omega, ?_, ?_, H2.out.1, fun y hy => h5 y (List.mem_cons_of_mem _ hy), H2.out.2.1.trans h6, ?_⟩⟩
          · rw [h2, restC, if_pos HF.out]
          · rw [h3, numC, if_pos HF.out]; omega
          · rw [← h6]
            exact (h6 ▸ h7).tr (hN1.out.2.tr (H2.out.2.2.subg _))
        case measure =>
          have := HR.out.1; simp only [List.length_cons] at this; simp [RowKit.intOf]; omega
      · rw [show fullB x = false by simpa using hf] at HC
        have HF := hid hf; clear hf; (go_wp2_with fail); refine HC.out.mono ?_; rintro e w1 ⟨rfl, g, off, cap, q, rfl, hw1⟩; have HW1 := hid hw1; clear hw1; go_wp2; go_ret; obtain ⟨h1, h2, h3, h4, h5, h6, h7⟩ := HR.out; have hne : g ≠ b := fun e => h4.far (by simp [Value.owner, e])
        have hs := nst_store (k' := x.have_) rfl h4.win; have hw1 := HW1.out; rw [hw1]; have hS : Subg (Value.owner (.slice (some ⟨g, off, none⟩) (r.length + 1) cap)) b o 1 wr (wr.setCell ⟨g, off + r.length * 3 + 2, none⟩ (.int .i64 (x.have_ : Int))) := subg_far wr (by simp [Value.owner]) hne _; have hq : restC (x :: r) = x :: r := by rw [restC, if_neg HF.out]
        have hq2 : numC (x :: r) = 0 := by rw [numC, if_neg HF.out]
        refine ⟨by rw [h3, hq2]; simp, _, ?_, h6, ?_⟩
        · rw [h2, hq]
          exact Nst.drewN ⟨h4.ptr.keep (Below.heap_setCell wr _ _ b (fun e => hne e.symm)), hs, h4.far⟩ q
        · rw [← h6]
          exact (h6 ▸ h7).tr (hS.drewN q)
end
section
open Go.RowKit
open Go.Lib
theorem key_any {w : World} {v : Value} {s : List Bx} (h : Win w 247 3 v s.length (inL s)) (hd : s.length ≤ 16) :
    Calls Tryz.prog 174 #[v] w fun r w' => r = .returned (.bool (keyB s)) ∧ Below w.heap.size w w' := by
  cases s with
  | nil =>
    obtain ⟨a, cp, rfl, _, _⟩ := h.slice_form; clear h; go_enter Tryz.func174, Tryz.ntmps174; go_wp2; go_ret; exact ⟨rfl, Below.refl _ _⟩
  | cons x r =>
    obtain ⟨g, off, cap, rfl, ⟨c0, c1, c2⟩, ⟨f0, f1, f2⟩⟩ := nst_last h; rw [key_eq]; obtain ⟨m, c, k⟩ := x; simp only [List.length_cons] at *
    have HL := hid (fun (W : World) => lacks_any m (cntB ⟨m, c, k⟩) k W); generalize cntB ⟨m, c, k⟩ = C at *
    clear h; generalize r.length = n at *
    have hwn : wrap64 (n : Int) = (n : Int) := by unfold wrap64; omega
    have hwn2 : IntKind.i64.wrap (n : Int) = (n : Int) := by simp only [IntKind.wrap_i64]; omega
    have hz : ((n : Int) ≥ 0) = True := by simp
    generalize decide (k % 2 = 1) = K at *
    cases m with
    | false =>
      go_enter Tryz.func174, Tryz.ntmps174; go_wp2; go_ret; exact ⟨rfl, Below.refl _ _⟩
    | true =>
      go_enter Tryz.func174, Tryz.ntmps174; (go_wp2_with fail); refine (HL.out _).mono ?_; rintro r w1 ⟨rfl, b1⟩; have B1 := hid b1; clear b1; go_wp2; go_ret; exact ⟨by simp, B1.out⟩
def mayB : List Bx → Bool
  | [] => false
  | x :: _ => decide (x.c < 0) && !(x.map && decide (x.have_ % 2 = 1))
theorem cnt_neg (x : Bx) : (cntB x == -1) = decide (x.c < 0) := by
  unfold cntB; rw [Bool.eq_iff_iff, beq_iff_eq, decide_eq_true_eq]; split
  · simp_all
  · split <;> omega
theorem mayBreak_any {w : World} {v : Value} {s : List Bx} (h : Win w 247 3 v s.length (inL s)) (hd : s.length ≤ 16) :
    Calls Tryz.prog 172 #[v] w fun r w' => r = .returned (.bool (mayB s)) ∧ Below w.heap.size w w' := by
  cases s with
  | nil =>
    obtain ⟨a, cp, rfl, _, _⟩ := h.slice_form; clear h; go_enter Tryz.func172, Tryz.ntmps172; go_wp2; go_ret; exact ⟨rfl, Below.refl _ _⟩
  | cons x r =>
    obtain ⟨g, off, cap, rfl, ⟨c0, c1, c2⟩, ⟨f0, f1, f2⟩⟩ := nst_last h; have hN := cnt_neg x; obtain ⟨m, c, k⟩ := x; simp only [List.length_cons, mayB] at *
    have HL := hid (fun (W : World) => lacks_any m (cntB ⟨m, c, k⟩) k W); generalize cntB ⟨m, c, k⟩ = C at *
    clear h; generalize r.length = n at *
    have hwn : wrap64 (n : Int) = (n : Int) := by unfold wrap64; omega
    have hwn2 : IntKind.i64.wrap (n : Int) = (n : Int) := by simp only [IntKind.wrap_i64]; omega
    have hz : ((n : Int) ≥ 0) = True := by simp
    generalize (m && decide (k % 2 = 1)) = K at *
    cases hq : decide (c < 0) with
    | false =>
      rw [hq] at hN; clear hq; go_enter Tryz.func172, Tryz.ntmps172; go_wp2; go_ret; exact ⟨rfl, Below.refl _ _⟩
    | true =>
      rw [hq] at hN; clear hq; go_enter Tryz.func172, Tryz.ntmps172; (go_wp2_with fail); refine (HL.out _).mono ?_; rintro r w1 ⟨rfl, b1⟩; have B1 := hid b1; clear b1; go_wp2; go_ret; exact ⟨by simp, B1.out⟩
end
section
open Go.RowKit
open Go.Lib
theorem enter_end {w W w3 : World} {b o n : Nat} {v v3 : Value} {xs ys : List Value} {ob : Obj} (h : Nst W b o v n xs) (hS : Subg (Value.owner v) b o 1 w W) (hb : b < w.heap.size)
    (hW : Win w3 247 3 v3 (n + 1) (xs ++ ys)) (hG : (W.alloc ob).drew.grownBy w3 v.ownBlock) (hO : v3.ownBlock = v.ownBlock ∨ v3.ownBlock = some (W.alloc ob).drew.heap.size ∧ (W.alloc ob).drew.heap.size < w3.heap.size) :
    (w3.cell? ⟨b, o, none⟩ = some v ∧ w3.frozen? ⟨b, o, none⟩ = false) ∧ Nst (w3.setCell ⟨b, o, none⟩ v3) b o v3 (n + 1) (xs ++ ys) ∧ (∀ k ∈ Value.owner v3, k ∈ Value.owner v ∨ w.heap.size ≤ k) ∧ Subg (Value.owner v) b o 1 w (w3.setCell ⟨b, o, none⟩ v3) := by
  have hbW : b < W.heap.size := Nat.lt_of_lt_of_le hb hS.size; have hnb : v.ownBlock ≠ some b := fun e => h.far ((ob_iff _ _).1 e)
  have hblk : w3.heap[b]? = W.heap[b]? := (hG.block b (by show b < (W.alloc ob).heap.size; simp; omega) (fun e => hnb e.symm)).trans (Below.heap_alloc W ob b hbW); have hA := h.ptr.keep hblk; have hown : ∀ k ∈ Value.owner v3, k ∈ Value.owner v ∨ W.heap.size ≤ k := by
    intro k hk; rcases hO with e | ⟨e, _⟩
    · exact .inl ((ob_iff _ _).1 (e ▸ (ob_iff _ _).2 hk))
    · have h2 := (ob_iff _ _).2 hk
      rw [e] at h2; cases h2; exact .inr (by show W.heap.size ≤ (W.alloc ob).heap.size; simp)
  have hfar : b ∉ Value.owner v3 := fun hk => (hown b hk).elim h.far (fun h => by omega)
  refine ⟨hA 0 _ rfl, ⟨hA.set 0 (by simp) v3, hW.setCell_far hfar _, hfar⟩, fun k hk => (hown k hk).imp id (fun h => Nat.le_trans hS.size h), ?_⟩; have h1 : Subg (Value.owner v) b o 1 W w3 := by
    have h2 : Subg (Value.owner v) b o 1 W (W.alloc ob).drew := (subg_below (below_drw ((Below.refl _ W).alloc (Nat.le_refl _) ob)) hbW _ _ _)
    exact h2.tr (subg_grown hG (fun k hk => (ob_iff _ _).1 hk) hnb (by show b < (W.alloc ob).heap.size; simp; omega))
  exact (hS.tr h1).tr ((sub_setCell w3 o v3 (by omega)).subg _)
theorem enter_f {w : World} {b o : Nat} {v : Value} {n : Nat} {xs : List Value} (h : Nst w b o v n xs) (hd : n < 16) (c : Int) :
    Calls Tryz.prog 177 #[.pointer (some ⟨b, o, none⟩), .agg #[.bool false, .int .i64 c]] w fun e w' => e = .returned (.tuple #[]) ∧ ∃ v', Nst w' b o v' (n + 1) (xs ++ [.bool false, .int .i64 (c), .int .i64 0]) ∧ (∀ k ∈ Value.owner v', k ∈ Value.owner v ∨ w.heap.size ≤ k) ∧ Subg (Value.owner v) b o 1 w w' := by
  have hb := h.ptr.lt (by simp); have hbel : Below w.heap.size w ((w.alloc (.cells #[.bool false, .int .i64 c] 163)).alloc (.cells #[.bool false, .int .i64 c, .int .i64 0] 247)) := up_alloc (up_alloc (Below.refl _ _) _) _; have E2 : Hid (Blk ((w.alloc (.cells #[.bool false, .int .i64 c] 163)).alloc (.cells #[.bool false, .int .i64 c, .int .i64 0] 247)) (w.heap.size + 1) #[.bool false, .int .i64 (c), .int .i64 0] 247) := hid (by
    have h0 := blk_new (w.alloc (.cells #[.bool false, .int .i64 c] 163)) #[.bool false, .int .i64 c, .int .i64 0] 247
    rwa [show ∀ x, (w.alloc x).heap.size = w.heap.size + 1 from fun x => by simp] at h0)
  have hN := h.keep hbel; have HN := hid hN; have hS := subg_below hbel hb (Value.owner v) o 1; obtain ⟨a, cp, rfl, _, _⟩ := h.win.slice_form; have WD : ∀ x, Hid (Win ((((w.alloc (.cells #[.bool false, .int .i64 c] 163)).alloc (.cells #[.bool false, .int .i64 c, .int .i64 0] 247))).alloc x).drew 247 3 (.slice a n cp) n xs) := fun x => hid (hN.win.alloc x)
  have h5 : (((w.alloc (.cells #[.bool false, .int .i64 c] 163)).alloc (.cells #[.bool false, .int .i64 c, .int .i64 0] 247))).cell? ⟨b, o, none⟩ = some (.slice a n cp) := (hN.ptr 0 _ rfl).1; have f5 : ∀ x, ((((w.alloc (.cells #[.bool false, .int .i64 c] 163)).alloc (.cells #[.bool false, .int .i64 c, .int .i64 0] 247))).alloc x).cell? ⟨b, o, none⟩ = some (.slice a n cp) := fun x => ((hN.ptr.alloc (by simp) x) 0 _ rfl).1
  have h0 : (((w.alloc (.cells #[.bool false, .int .i64 c] 163)).alloc (.cells #[.bool false, .int .i64 c, .int .i64 0] 247))).cell? ⟨w.heap.size + 1, 0, none⟩ = some (.bool false) := E2.out.cell 0; have h1 : (((w.alloc (.cells #[.bool false, .int .i64 c] 163)).alloc (.cells #[.bool false, .int .i64 c, .int .i64 0] 247))).cell? ⟨w.heap.size + 1, 1, none⟩ = some (.int .i64 (c)) := E2.out.cell 1; have h2 : (((w.alloc (.cells #[.bool false, .int .i64 c] 163)).alloc (.cells #[.bool false, .int .i64 c, .int .i64 0] 247))).cell? ⟨w.heap.size + 1, 2, none⟩ = some (.int .i64 0) := E2.out.cell 2; have e0 : ∀ x, ((((w.alloc (.cells #[.bool false, .int .i64 c] 163)).alloc (.cells #[.bool false, .int .i64 c, .int .i64 0] 247))).alloc x).cell? ⟨w.heap.size + 1, 0, none⟩ = some (.bool false) := fun x => (E2.out.alloc x).cell 0
  have e1 : ∀ x, ((((w.alloc (.cells #[.bool false, .int .i64 c] 163)).alloc (.cells #[.bool false, .int .i64 c, .int .i64 0] 247))).alloc x).cell? ⟨w.heap.size + 1, 1, none⟩ = some (.int .i64 (c)) := fun x => (E2.out.alloc x).cell 1
  have e2 : ∀ x, ((((w.alloc (.cells #[.bool false, .int .i64 c] 163)).alloc (.cells #[.bool false, .int .i64 c, .int .i64 0] 247))).alloc x).cell? ⟨w.heap.size + 1, 2, none⟩ = some (.int .i64 0) := fun x => (E2.out.alloc x).cell 2
  have HE := hid (fun (w3 : World) (a3 : Option Addr) (c3 : Nat) ob hW hG hO => enter_end (w := w) (W := ((w.alloc (.cells #[.bool false, .int .i64 c] 163)).alloc (.cells #[.bool false, .int .i64 c, .int .i64 0] 247))) (w3 := w3) (v3 := .slice a3 (n + 1) c3) (ys := [.bool false, .int .i64 (c), .int .i64 0]) (ob := ob) hN hS hb hW hG hO); clear h hbel hN hb hS E2; go_enter Tryz.func177, Tryz.ntmps177; go_wp2; generalize ((w.alloc (.cells #[.bool false, .int .i64 c] 163)).alloc (.cells #[.bool false, .int .i64 c, .int .i64 0] 247)) = W at *
  go_region_law (first
    | (refine step_append_win rfl _ _ _ rfl Tryz.underlying140 info_cont rfl rfl (WD _).out _ rfl 1 _ (src_new _ Tryz.underlying140 3 1 [.bool false, .int .i64 (c), .int .i64 0] 247 _ rfl (by simp [Value.oneCell']) (heap_alloc_new _ _)) (by unfold maxLen; omega) (by omega) ?_; intro v3 w3 hW3 hG3 hO3; obtain ⟨a3, c3, rfl, _, _⟩ := Win.slice_form hW3.out; have HP := hid (HE.out w3 a3 c3 _ hW3.out hG3.out hO3.out); have g0 := HP.out.1.1; have g1 := HP.out.1.2; clear hW3 hG3 hO3))
  all_goals
    go_wp2
    go_end0
    exact ⟨rfl, _, HP.out.2⟩
theorem enter_n {w : World} {b o : Nat} {v : Value} {n : Nat} {xs : List Value} (h : Nst w b o v n xs) (hd : n < 16) :
    Calls Tryz.prog 177 #[.pointer (some ⟨b, o, none⟩), .agg #[.bool true, .int .i64 (-1)]] w fun e w' => e = .returned (.tuple #[]) ∧ ∃ v', Nst w' b o v' (n + 1) (xs ++ [.bool true, .int .i64 (-1), .int .i64 0]) ∧ (∀ k ∈ Value.owner v', k ∈ Value.owner v ∨ w.heap.size ≤ k) ∧ Subg (Value.owner v) b o 1 w w' := by
  have hb := h.ptr.lt (by simp); have hbel : Below w.heap.size w ((w.alloc (.cells #[.bool true, .int .i64 (-1)] 163)).alloc (.cells #[.bool true, .int .i64 (-1), .int .i64 0] 247)) := up_alloc (up_alloc (Below.refl _ _) _) _; have E2 : Hid (Blk ((w.alloc (.cells #[.bool true, .int .i64 (-1)] 163)).alloc (.cells #[.bool true, .int .i64 (-1), .int .i64 0] 247)) (w.heap.size + 1) #[.bool true, .int .i64 (-1), .int .i64 0] 247) := hid (by
    have h0 := blk_new (w.alloc (.cells #[.bool true, .int .i64 (-1)] 163)) #[.bool true, .int .i64 (-1), .int .i64 0] 247
    rwa [show ∀ x, (w.alloc x).heap.size = w.heap.size + 1 from fun x => by simp] at h0)
  have hN := h.keep hbel; have HN := hid hN; have hS := subg_below hbel hb (Value.owner v) o 1; obtain ⟨a, cp, rfl, _, _⟩ := h.win.slice_form; have WD : ∀ x, Hid (Win ((((w.alloc (.cells #[.bool true, .int .i64 (-1)] 163)).alloc (.cells #[.bool true, .int .i64 (-1), .int .i64 0] 247))).alloc x).drew 247 3 (.slice a n cp) n xs) := fun x => hid (hN.win.alloc x)
  have h5 : (((w.alloc (.cells #[.bool true, .int .i64 (-1)] 163)).alloc (.cells #[.bool true, .int .i64 (-1), .int .i64 0] 247))).cell? ⟨b, o, none⟩ = some (.slice a n cp) := (hN.ptr 0 _ rfl).1; have f5 : ∀ x, ((((w.alloc (.cells #[.bool true, .int .i64 (-1)] 163)).alloc (.cells #[.bool true, .int .i64 (-1), .int .i64 0] 247))).alloc x).cell? ⟨b, o, none⟩ = some (.slice a n cp) := fun x => ((hN.ptr.alloc (by simp) x) 0 _ rfl).1
  have h0 : (((w.alloc (.cells #[.bool true, .int .i64 (-1)] 163)).alloc (.cells #[.bool true, .int .i64 (-1), .int .i64 0] 247))).cell? ⟨w.heap.size + 1, 0, none⟩ = some (.bool true) := E2.out.cell 0; have h1 : (((w.alloc (.cells #[.bool true, .int .i64 (-1)] 163)).alloc (.cells #[.bool true, .int .i64 (-1), .int .i64 0] 247))).cell? ⟨w.heap.size + 1, 1, none⟩ = some (.int .i64 (-1)) := E2.out.cell 1; have h2 : (((w.alloc (.cells #[.bool true, .int .i64 (-1)] 163)).alloc (.cells #[.bool true, .int .i64 (-1), .int .i64 0] 247))).cell? ⟨w.heap.size + 1, 2, none⟩ = some (.int .i64 0) := E2.out.cell 2; have e0 : ∀ x, ((((w.alloc (.cells #[.bool true, .int .i64 (-1)] 163)).alloc (.cells #[.bool true, .int .i64 (-1), .int .i64 0] 247))).alloc x).cell? ⟨w.heap.size + 1, 0, none⟩ = some (.bool true) := fun x => (E2.out.alloc x).cell 0
  have e1 : ∀ x, ((((w.alloc (.cells #[.bool true, .int .i64 (-1)] 163)).alloc (.cells #[.bool true, .int .i64 (-1), .int .i64 0] 247))).alloc x).cell? ⟨w.heap.size + 1, 1, none⟩ = some (.int .i64 (-1)) := fun x => (E2.out.alloc x).cell 1
  have e2 : ∀ x, ((((w.alloc (.cells #[.bool true, .int .i64 (-1)] 163)).alloc (.cells #[.bool true, .int .i64 (-1), .int .i64 0] 247))).alloc x).cell? ⟨w.heap.size + 1, 2, none⟩ = some (.int .i64 0) := fun x => (E2.out.alloc x).cell 2
  have HE := hid (fun (w3 : World) (a3 : Option Addr) (c3 : Nat) ob hW hG hO => enter_end (w := w) (W := ((w.alloc (.cells #[.bool true, .int .i64 (-1)] 163)).alloc (.cells #[.bool true, .int .i64 (-1), .int .i64 0] 247))) (w3 := w3) (v3 := .slice a3 (n + 1) c3) (ys := [.bool true, .int .i64 (-1), .int .i64 0]) (ob := ob) hN hS hb hW hG hO); clear h hbel hN hb hS E2; go_enter Tryz.func177, Tryz.ntmps177; go_wp2; generalize ((w.alloc (.cells #[.bool true, .int .i64 (-1)] 163)).alloc (.cells #[.bool true, .int .i64 (-1), .int .i64 0] 247)) = W at *
  go_region_law (first
    | (refine step_append_win rfl _ _ _ rfl Tryz.underlying140 info_cont rfl rfl (WD _).out _ rfl 1 _ (src_new _ Tryz.underlying140 3 1 [.bool true, .int .i64 (-1), .int .i64 0] 247 _ rfl (by simp [Value.oneCell']) (heap_alloc_new _ _)) (by unfold maxLen; omega) (by omega) ?_; intro v3 w3 hW3 hG3 hO3; obtain ⟨a3, c3, rfl, _, _⟩ := Win.slice_form hW3.out; have HP := hid (HE.out w3 a3 c3 _ hW3.out hG3.out hO3.out); have g0 := HP.out.1.1; have g1 := HP.out.1.2; clear hW3 hG3 hO3))
  all_goals
    go_wp2
    go_end0
    exact ⟨rfl, _, HP.out.2⟩
theorem enter_t {w : World} {b o : Nat} {v : Value} {n : Nat} {xs : List Value} (h : Nst w b o v n xs) (hd : n < 16) {c : Int} (hc : 0 ≤ c ∧ c ≤ 1000000) :
    Calls Tryz.prog 177 #[.pointer (some ⟨b, o, none⟩), .agg #[.bool true, .int .i64 c]] w fun e w' => e = .returned (.tuple #[]) ∧ ∃ v', Nst w' b o v' (n + 1) (xs ++ [.bool true, .int .i64 (c * 2), .int .i64 0]) ∧ (∀ k ∈ Value.owner v', k ∈ Value.owner v ∨ w.heap.size ≤ k) ∧ Subg (Value.owner v) b o 1 w w' := by
  have hb := h.ptr.lt (by simp); have hw : wrap64 (c * 2) = c * 2 := by unfold wrap64; omega
  have hw2 : IntKind.i64.wrap (c * 2) = c * 2 := by simp only [IntKind.wrap_i64]; omega
  have hz : (c != -1) = true := by rw [bne_iff_ne]; omega
  have hbel : Below w.heap.size w ((w.alloc (.cells #[.bool true, .int .i64 c] 163)).alloc (.cells #[.bool true, .int .i64 (c * 2), .int .i64 0] 247)) := up_alloc (up_alloc (Below.refl _ _) _) _; have E2 : Hid (Blk ((w.alloc (.cells #[.bool true, .int .i64 c] 163)).alloc (.cells #[.bool true, .int .i64 (c * 2), .int .i64 0] 247)) (w.heap.size + 1) #[.bool true, .int .i64 (c * 2), .int .i64 0] 247) := hid (by
    have h0 := blk_new (w.alloc (.cells #[.bool true, .int .i64 c] 163)) #[.bool true, .int .i64 (c * 2), .int .i64 0] 247
    rwa [show ∀ x, (w.alloc x).heap.size = w.heap.size + 1 from fun x => by simp] at h0)
  have hN := h.keep hbel; have HN := hid hN; have hS := subg_below hbel hb (Value.owner v) o 1; obtain ⟨a, cp, rfl, _, _⟩ := h.win.slice_form; have WD : ∀ x, Hid (Win ((((w.alloc (.cells #[.bool true, .int .i64 c] 163)).alloc (.cells #[.bool true, .int .i64 (c * 2), .int .i64 0] 247))).alloc x).drew 247 3 (.slice a n cp) n xs) := fun x => hid (hN.win.alloc x)
  have h5 : (((w.alloc (.cells #[.bool true, .int .i64 c] 163)).alloc (.cells #[.bool true, .int .i64 (c * 2), .int .i64 0] 247))).cell? ⟨b, o, none⟩ = some (.slice a n cp) := (hN.ptr 0 _ rfl).1; have f5 : ∀ x, ((((w.alloc (.cells #[.bool true, .int .i64 c] 163)).alloc (.cells #[.bool true, .int .i64 (c * 2), .int .i64 0] 247))).alloc x).cell? ⟨b, o, none⟩ = some (.slice a n cp) := fun x => ((hN.ptr.alloc (by simp) x) 0 _ rfl).1
  have h0 : (((w.alloc (.cells #[.bool true, .int .i64 c] 163)).alloc (.cells #[.bool true, .int .i64 (c * 2), .int .i64 0] 247))).cell? ⟨w.heap.size + 1, 0, none⟩ = some (.bool true) := E2.out.cell 0; have h1 : (((w.alloc (.cells #[.bool true, .int .i64 c] 163)).alloc (.cells #[.bool true, .int .i64 (c * 2), .int .i64 0] 247))).cell? ⟨w.heap.size + 1, 1, none⟩ = some (.int .i64 (c * 2)) := E2.out.cell 1; have h2 : (((w.alloc (.cells #[.bool true, .int .i64 c] 163)).alloc (.cells #[.bool true, .int .i64 (c * 2), .int .i64 0] 247))).cell? ⟨w.heap.size + 1, 2, none⟩ = some (.int .i64 0) := E2.out.cell 2; have e0 : ∀ x, ((((w.alloc (.cells #[.bool true, .int .i64 c] 163)).alloc (.cells #[.bool true, .int .i64 (c * 2), .int .i64 0] 247))).alloc x).cell? ⟨w.heap.size + 1, 0, none⟩ = some (.bool true) := fun x => (E2.out.alloc x).cell 0
  have e1 : ∀ x, ((((w.alloc (.cells #[.bool true, .int .i64 c] 163)).alloc (.cells #[.bool true, .int .i64 (c * 2), .int .i64 0] 247))).alloc x).cell? ⟨w.heap.size + 1, 1, none⟩ = some (.int .i64 (c * 2)) := fun x => (E2.out.alloc x).cell 1
  have e2 : ∀ x, ((((w.alloc (.cells #[.bool true, .int .i64 c] 163)).alloc (.cells #[.bool true, .int .i64 (c * 2), .int .i64 0] 247))).alloc x).cell? ⟨w.heap.size + 1, 2, none⟩ = some (.int .i64 0) := fun x => (E2.out.alloc x).cell 2
  have HE := hid (fun (w3 : World) (a3 : Option Addr) (c3 : Nat) ob hW hG hO => enter_end (w := w) (W := ((w.alloc (.cells #[.bool true, .int .i64 c] 163)).alloc (.cells #[.bool true, .int .i64 (c * 2), .int .i64 0] 247))) (w3 := w3) (v3 := .slice a3 (n + 1) c3) (ys := [.bool true, .int .i64 (c * 2), .int .i64 0]) (ob := ob) hN hS hb hW hG hO); clear h hbel hN hb hS E2; go_enter Tryz.func177, Tryz.ntmps177; go_wp2; generalize ((w.alloc (.cells #[.bool true, .int .i64 c] 163)).alloc (.cells #[.bool true, .int .i64 (c * 2), .int .i64 0] 247)) = W at *
  go_region_law (first
    | (refine step_append_win rfl _ _ _ rfl Tryz.underlying140 info_cont rfl rfl (WD _).out _ rfl 1 _ (src_new _ Tryz.underlying140 3 1 [.bool true, .int .i64 (c * 2), .int .i64 0] 247 _ rfl (by simp [Value.oneCell']) (heap_alloc_new _ _)) (by unfold maxLen; omega) (by omega) ?_; intro v3 w3 hW3 hG3 hO3; obtain ⟨a3, c3, rfl, _, _⟩ := Win.slice_form hW3.out; have HP := hid (HE.out w3 a3 c3 _ hW3.out hG3.out hO3.out); have g0 := HP.out.1.1; have g1 := HP.out.1.2; clear hW3 hG3 hO3))
  all_goals
    go_wp2
    go_end0
    exact ⟨rfl, _, HP.out.2⟩
theorem cnt_t {c : Int} (hc : 0 ≤ c) : cntB ⟨true, c, 0⟩ = c * 2 := by unfold cntB; simp only [if_neg (Int.not_lt.2 hc), if_true]; omega
theorem cnt_f {c : Int} (hc : -1 ≤ c) : cntB ⟨false, c, 0⟩ = c := by
  show (if c < 0 then (-1 : Int) else if false = true then 2 * c else c) = c; split
  · omega
  · rfl
theorem enter_at {w : World} {b o : Nat} {v : Value} {s : List Bx} (h : Nst w b o v s.length (inL s)) (hd : s.length < 16) (m : Bool) (c : Int) (hc : -1 ≤ c ∧ c ≤ 1000000) :
    Calls Tryz.prog 177 #[.pointer (some ⟨b, o, none⟩), .agg #[.bool m, .int .i64 c]] w fun e w' => e = .returned (.tuple #[]) ∧ ∃ v', Nst w' b o v' (s.length + 1) (inL (⟨m, c, 0⟩ :: incB s)) ∧ (∀ k ∈ Value.owner v', k ∈ Value.owner v ∨ w.heap.size ≤ k) ∧ Subg (Value.owner v) b o 1 w w' := by
  simp only [inL, inL_out, ccB]; cases m with
  | false =>
    rw [cnt_f hc.1]; exact enter_f h hd c
  | true =>
    by_cases hn : c = -1
    · subst hn
      exact enter_n h hd
    · rw [cnt_t (by omega)]
      exact enter_t h hd ⟨by omega, hc.2⟩
end
section
open Go.RowKit
open Go.Lib
theorem major_at {w : World} {b o : Nat} {s : Hd} (h : HAt w b o s) :
    Calls Tryz.prog 162 #[.pointer (some ⟨b, o, none⟩)] w fun e w' => e = .returned (.int .i64 (majH s)) ∧ w = w' := by
  have hc : w.cell? ⟨b, o + 2, none⟩ = some (.int .i64 (majH s)) := by cases s <;> exact (At.six h.2).2.2.1.1
  clear h; go_enter Tryz.func162, Tryz.ntmps162; go_wp2; go_ret; exact ⟨rfl, rfl⟩
theorem open_at {w : World} {b o : Nat} {s : Hd} (h : HAt w b o s) :
    Calls Tryz.prog 171 #[.pointer (some ⟨b, o, none⟩)] w fun e w' => e = .returned (.bool (opnH s)) ∧ w = w' := by
  have hc : w.cell? ⟨b, o + 3, none⟩ = some (.bool (opnH s)) := by cases s <;> exact (At.six h.2).2.2.2.1.1
  clear h; go_enter Tryz.func171, Tryz.ntmps171; go_wp2; go_ret; exact ⟨rfl, rfl⟩
end
section
open Go.RowKit
open Go.Lib
structure CP (w : World) (b o D pl : Nat) (h : Hd) (mj : Nat) (ch : Bool) (lk : Nat) (vt : Value) (t : List UInt8) (u : Option (Nat × Nat × Nat)) (vs : Value) (n : Nat) (xs : List Value) : Prop where
  a : At w b o [.int .i64 0, .int .i64 D, .int .i64 pl]
  hd : HAt w b (o + 3) h
  tx : At w b (o + 9) [.int .i64 mj, .bool ch, .int .i64 lk, vt]
  ck : CAt w b (o + 13) u
  op : Nst w b (o + 17) vs n xs
  wt : Win w 5 1 vt t.length (bCells t)
  ft : b ∉ Value.owner vt
theorem CP.lt {w : World} {b o D pl : Nat} {h : Hd} {mj : Nat} {ch : Bool} {lk : Nat} {vt : Value} {t : List UInt8} {u : Option (Nat × Nat × Nat)} {vs : Value} {n : Nat} {xs : List Value} (c : CP w b o D pl h mj ch lk vt t u vs n xs) : b < w.heap.size := c.hd.lt
theorem CP.go {w w' : World} {b o D pl : Nat} {h : Hd} {mj : Nat} {ch : Bool} {lk : Nat} {vt : Value} {t : List UInt8} {u : Option (Nat × Nat × Nat)} {vs : Value} {n : Nat} {xs : List Value} (c : CP w b o D pl h mj ch lk vt t u vs n xs) (k : Below w.heap.size w w') : CP w' b o D pl h mj ch lk vt t u vs n xs := by
  have hk := k.block b c.lt; exact ⟨c.a.keep hk, c.hd.keep hk, c.tx.keep hk, c.ck.keep hk, c.op.keep k, c.wt.keep fun i hi => k.block i (c.wt.lt i hi), c.ft⟩
theorem CP.apart {w : World} {b o D pl : Nat} {h : Hd} {mj : Nat} {ch : Bool} {lk : Nat} {vt : Value} {t : List UInt8} {u : Option (Nat × Nat × Nat)} {vs : Value} {n : Nat} {xs : List Value} (c : CP w b o D pl h mj ch lk vt t u vs n xs) : ∀ k ∈ Value.owner vs, k ∉ Value.owner vt := c.wt.apart2 c.op.win (by decide)
theorem CP.cells {w : World} {b o D pl : Nat} {h : Hd} {mj : Nat} {ch : Bool} {lk : Nat} {vt : Value} {t : List UInt8} {u : Option (Nat × Nat × Nat)} {vs : Value} {n : Nat} {xs : List Value} (c : CP w b o D pl h mj ch lk vt t u vs n xs) :
    ((w.cell? ⟨b, o, none⟩ = some (.int .i64 0) ∧ w.frozen? ⟨b, o, none⟩ = false) ∧ (w.cell? ⟨b, o + 1, none⟩ = some (.int .i64 D) ∧ w.frozen? ⟨b, o + 1, none⟩ = false) ∧ (w.cell? ⟨b, o + 2, none⟩ = some (.int .i64 pl) ∧ w.frozen? ⟨b, o + 2, none⟩ = false)) ∧
    ((w.cell? ⟨b, o + 9, none⟩ = some (.int .i64 mj) ∧ w.frozen? ⟨b, o + 9, none⟩ = false) ∧ (w.cell? ⟨b, o + 9 + 1, none⟩ = some (.bool ch) ∧ w.frozen? ⟨b, o + 9 + 1, none⟩ = false) ∧ (w.cell? ⟨b, o + 9 + 2, none⟩ = some (.int .i64 lk) ∧ w.frozen? ⟨b, o + 9 + 2, none⟩ = false) ∧ (w.cell? ⟨b, o + 9 + 3, none⟩ = some vt ∧ w.frozen? ⟨b, o + 9 + 3, none⟩ = false)) ∧
    (w.cell? ⟨b, o + 17, none⟩ = some vs ∧ w.frozen? ⟨b, o + 17, none⟩ = false) :=
  ⟨⟨c.a 0 _ rfl, c.a 1 _ rfl, c.a 2 _ rfl⟩, ⟨c.tx 0 _ rfl, c.tx 1 _ rfl, c.tx 2 _ rfl, c.tx 3 _ rfl⟩, c.op.ptr 0 _ rfl⟩
theorem hd_six (h : Hd) : ∃ e p m q l v, hdCells h = hd6 e p m q l v := by
  cases h with
  | bad e => exact ⟨_, _, _, _, _, _, rfl⟩
  | new => exact ⟨_, _, _, _, _, _, rfl⟩
  | mid m n v => exact ⟨_, _, _, _, _, _, rfl⟩
  | fin m v o => exact ⟨_, _, _, _, _, _, rfl⟩
theorem hat_box {h : Hd} (hW : WfH h) {e p m : Nat} {q : Bool} {l v : Nat} (hc : hdCells h = hd6 e p m q l v) (w : World) (T : TypeId) : HAt (w.alloc (.cells #[.int .i64 e, .int .i64 p, .int .i64 m, .bool q, .int .i64 l, .int .u64 v] T)) w.heap.size 0 h := by
  refine ⟨hW, ?_⟩; rw [hc]; have hB := blk_new w #[.int .i64 e, .int .i64 p, .int .i64 m, .bool q, .int .i64 l, .int .u64 v] T; intro j u hj; refine ⟨?_, hB.froz _⟩; rw [hB.cell, Nat.zero_add]; simpa [hd6] using hj
def brkH (h : Hd) : Bool := decide (majH h = 7) && opnH h
theorem brk_any {h : Hd} (hW : WfH h) {e p m : Nat} {q : Bool} {l v : Nat} (hc : hdCells h = hd6 e p m q l v) (w : World) :
    Calls Tryz.prog 157 #[.agg #[.int .i64 e, .int .i64 p, .int .i64 m, .bool q, .int .i64 l, .int .u64 v]] w fun r w' => r = .returned (.bool (brkH h)) ∧ Below w.heap.size w w' := by
  have HH := hid (hat_box hW hc w 136); unfold brkH; have HM := hid (major_at HH.out); have HO := hid (open_at HH.out); have hz : ((majH h : Int) == 7) = decide (majH h = 7) := by
    rw [Bool.eq_iff_iff, beq_iff_eq, decide_eq_true_eq]; omega
  generalize majH h = M at *
  generalize opnH h = O at *
  clear hW hc; cases hd : decide (M = 7) with
  | false =>
    rw [hd] at hz; clear hd; go_enter Tryz.func157, Tryz.ntmps157; (go_wp2_with fail); refine HM.out.mono ?_; rintro r w1 ⟨rfl, rfl⟩; go_wp2; go_ret; exact ⟨rfl, up_alloc (Below.refl _ _) _⟩
  | true =>
    rw [hd] at hz; clear hd; go_enter Tryz.func157, Tryz.ntmps157; (go_wp2_with fail); refine HM.out.mono ?_; rintro r w1 ⟨rfl, rfl⟩; (go_wp2_with fail); refine HO.out.mono ?_; rintro r w1 ⟨rfl, rfl⟩; go_wp2; go_ret; exact ⟨by simp, up_alloc (Below.refl _ _) _⟩
theorem mayOpen_any (m : Nat) (w : World) : Calls Tryz.prog 173 #[.int .i64 (m : Int)] w fun r w' => r = .returned (.bool (decide (2 ≤ m ∧ m ≤ 5))) ∧ w = w' := by
  by_cases h1 : 2 ≤ m
  · have hz1 : ((m : Int) ≥ 2) = True := by simp; omega
    by_cases h2 : m ≤ 5
    · have hz2 : ((m : Int) ≤ 5) = True := by simp; omega
      have hd : decide (2 ≤ m ∧ m ≤ 5) = true := by simp; omega
      rw [hd]; clear h1 h2 hd; go_enter Tryz.func173, Tryz.ntmps173; go_wp2; go_ret; exact ⟨rfl, rfl⟩
    · have hz2 : ((m : Int) ≤ 5) = False := by simp; omega
      have hd : decide (2 ≤ m ∧ m ≤ 5) = false := by simp; omega
      rw [hd]; clear h1 h2 hd; go_enter Tryz.func173, Tryz.ntmps173; go_wp2; go_ret; exact ⟨rfl, rfl⟩
  · have hz1 : ((m : Int) ≥ 2) = False := by simp; omega
    have hd : decide (2 ≤ m ∧ m ≤ 5) = false := by simp; omega
    rw [hd]; clear h1 hd; go_enter Tryz.func173, Tryz.ntmps173; go_wp2; go_ret; exact ⟨rfl, rfl⟩
def othE (l : Nat) : Nat := if l = 22 ∨ l = 20 ∨ l = 21 then 0 else if 25 ≤ l ∧ l ≤ 27 then 6 else 8
theorem other_any (l : Nat) (w : World) : Calls Tryz.prog 175 #[.int .u8 (l : Int)] w fun r w' => r = .returned (.int .i64 (othE l : Nat)) ∧ w = w' := by
  by_cases h : l = 20 ∨ l = 21 ∨ l = 22 ∨ l = 25 ∨ l = 26 ∨ l = 27
  · rcases h with rfl | rfl | rfl | rfl | rfl | rfl
    all_goals
      go_enter Tryz.func175, Tryz.ntmps175; go_wp2; go_ret; exact ⟨rfl, rfl⟩
  · have hd : othE l = 8 := by
      unfold othE; rw [if_neg (by omega), if_neg (by omega)]
    have z0 : ((l : Int) == 20) = false := by rw [beq_eq_false_iff_ne]; omega
    have z1 : ((l : Int) == 21) = false := by rw [beq_eq_false_iff_ne]; omega
    have z2 : ((l : Int) == 22) = false := by rw [beq_eq_false_iff_ne]; omega
    have z3 : ((l : Int) == 25) = false := by rw [beq_eq_false_iff_ne]; omega
    have z4 : ((l : Int) == 26) = false := by rw [beq_eq_false_iff_ne]; omega
    have z5 : ((l : Int) == 27) = false := by rw [beq_eq_false_iff_ne]; omega
    rw [hd]; clear h hd; go_enter Tryz.func175, Tryz.ntmps175; go_wp2; go_ret; exact ⟨rfl, rfl⟩
end
section
open Go.Lib
def sgnN (d : Nat) : Nat := if d < 26 then 65 + d else if d < 52 then 71 + d else if d < 62 then d - 4 else if d = 62 then 45 else 95
def sgn (d : Nat) : UInt8 := UInt8.ofNat (sgnN d)
def putS : List UInt8 → List UInt8
  | [] => []
  | [a] => [sgn (a.toNat / 4), sgn (a.toNat % 4 * 16)]
  | [a, b] => [sgn (a.toNat / 4), sgn (a.toNat % 4 * 16 + b.toNat / 16), sgn (b.toNat % 16 * 4)]
  | a :: b :: c :: r => sgn (a.toNat / 4) :: sgn (a.toNat % 4 * 16 + b.toNat / 16) :: sgn (b.toNat % 16 * 4 + c.toNat / 64) :: sgn (c.toNat % 64) :: putS r
theorem u8_lt (b : UInt8) : b.toNat < 256 := b.toNat_lt
theorem three_ind {P : List UInt8 → Prop} (h0 : P []) (h1 : ∀ a, P [a]) (h2 : ∀ a b, P [a, b]) (h3 : ∀ a b c r, P r → P (a :: b :: c :: r)) : ∀ l, P l
  | [] => h0
  | [a] => h1 a
  | [a, b] => h2 a b
  | a :: b :: c :: r => h3 a b c r (three_ind h0 h1 h2 h3 r)
theorem putS_length (l : List UInt8) : (putS l).length = (4 * l.length + 2) / 3 := by
  refine three_ind (P := fun l => (putS l).length = (4 * l.length + 2) / 3) rfl (fun _ => by simp [putS]) (fun _ _ => by simp [putS]) ?_ l; intro a b c r ih; simp only [putS, List.length_cons, ih]; omega
def signs64 : ByteArray := ⟨#[65, 66, 67, 68, 69, 70, 71, 72, 73, 74, 75, 76, 77, 78, 79, 80, 81, 82, 83, 84, 85, 86, 87, 88, 89, 90, 97, 98, 99, 100, 101, 102, 103, 104, 105, 106, 107, 108, 109, 110, 111, 112, 113, 114, 115, 116, 117, 118, 119, 120, 121, 122, 48, 49, 50, 51, 52, 53, 54, 55, 56, 57, 45, 95]⟩
theorem signs64_at : ∀ d : Fin 64, signs64.data.toList[d.val]? = some (sgn d.val) := by decide +kernel
end
end Go.Proofs.YtkgconbdmnmbnaaGreat
