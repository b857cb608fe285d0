/-
  Parts: PinPi, PinPj, PinPk, PinPl, StgD, PipAll.
-/
import Derived.Test.YtkgconbdmnmbnaaGreatG1a
import Derived.Deep.RegionWith
import Derived.Test.YtkgconbdmnmbnaaGreatG0g
import Derived.Test.YtkgconbdmnmbnaaGreatG0d
import Derived.Test.YtkgconbdmnmbnaaGreatHStgC
import Derived.Test.YtkgconbdmnmbnaaGreatG1e
set_option maxRecDepth 100000
set_option maxHeartbeats 16000000
open Go.Lib (hid)
namespace Go.Proofs.YtkgconbdmnmbnaaGreat
section
open Go.RowKit
open Go.Lib
structure FbI (w w2 : World) (b o D : Nat) (kd nm fm : Nat) (h : Hd) (vt vs : Value) (s : List Bx) (g K N F : Nat) : Prop where
  cp : PP w2 b o D 0 kd nm fm h 0 0 vt [] st0 vs s.length (inP s)
  below : Below w.heap.size w w2
  blk : Blk w2 g #[.int .i64 (K : Nat), .int .u64 (N : Nat), .int .u8 (F : Nat)] 144
  new : w.heap.size ≤ g
  lt : b < w.heap.size
theorem FbI.of {w w1 w2 : World} {b o D kd nm fm : Nat} {h : Hd} {vt vs : Value} {s : List Bx} {K N F : Nat} (c : PP w b o D 0 kd nm fm h 0 0 vt [] st0 vs s.length (inP s)) (b1 : Below w.heap.size w w1)
    (b2 : Below (w1.alloc (.cells #[.int .i64 (K : Nat), .int .u64 (N : Nat), .int .u8 (F : Nat)] 144)).heap.size (w1.alloc (.cells #[.int .i64 (K : Nat), .int .u64 (N : Nat), .int .u8 (F : Nat)] 144)) w2) : FbI w w2 b o D kd nm fm h vt vs s w1.heap.size K N F :=
  ⟨c.go (up_trans (up_alloc b1 _) b2), up_trans (up_alloc b1 _) b2, (blk_new w1 _ _).go b2, b1.size, c.lt⟩
theorem pfirst_bad {w0 w : World} {b o D kd nm fm : Nat} {h : Hd} {vt vs : Value} {s : List Bx} (c : PP w b o D 0 kd nm fm h 0 0 vt [] st0 vs s.length (inP s)) (hk : OkP s) (y : UInt8) (he : refP D s (itK y.toNat) ≠ 0) :
    Calls Tryz.prog 188 #[.pointer (some ⟨b, o, none⟩), .int .u8 (y.toNat : Int)] w fun r w' =>
      ∃ x, r = .returned (.tuple #[x, .int .i64 (refP D s (itK y.toNat) : Nat)]) ∧ GoM w0 w w' b o D vt vs (.c (.bad (refP D s (itK y.toNat))), []) x := by
  have HI := hid (item_of y.toNat y.toNat_lt w); unfold itV at HI; have hK := it_le y.toNat y.toNat_lt; obtain ⟨X, hX⟩ : ∃ X, (y.toNat : Int) = X := ⟨_, rfl⟩
  rw [hX] at HI ⊢; generalize itK y.toNat = K at *
  generalize itN y.toNat = N at *
  generalize itF y.toNat = F at *
  have HR := hid (fun w1 (k : Below w.heap.size w w1) => refuses_item (c.go (up_alloc k (.cells #[.int .i64 (K : Nat), .int .u64 (N : Nat), .int .u8 (F : Nat)] 144))) hk K hK); have HC := hid c; have ze : ((refP D s K : Int) != 0) = true := by rw [bne_iff_ne]; omega
  have HE := hid he; generalize refP D s K = E at *
  clear c hk he hX hK; go_enter Tryz.func188, Tryz.ntmps188; (go_wp2_with fail); refine HI.out.mono ?_; rintro r w1 ⟨rfl, b1⟩; have HR1 := hid (HR.out w1 b1); have B1 := hid b1; clear b1 HR HI; (go_wp2_with fail); refine HR1.out.mono ?_; rintro r w2 ⟨rfl, b2⟩; have HF := hid (FbI.of HC.out B1.out b2); clear b2 HR1 B1; go_wp2; go_ret2; exact ⟨_, rfl, ⟨Vls.nil_ _ _, ⟨vt, vs, ⟨HE.out, HF.out.cp.room, HF.out.cp.cells.1.2.1.1⟩, fun k hk => .inl hk⟩, subg_below HF.out.below HF.out.lt _ _ _⟩⟩
theorem pfirst_now {w0 w : World} {b o D kd nm fm : Nat} {h : Hd} {vt vs : Value} {s : List Bx} (c : PP w b o D 0 kd nm fm h 0 0 vt [] st0 vs s.length (inP s)) (hl : Low w0 w b vs) (hvt : ∀ k ∈ Value.owner vt, k < w0.heap.size) (hk : OkP s) (hd : s.length ≤ D) (hD : D ≤ 16) (y : UInt8) (he : refP D s (itK y.toNat) = 0) (hf : itF y.toNat = 0) :
    Calls Tryz.prog 188 #[.pointer (some ⟨b, o, none⟩), .int .u8 (y.toNat : Int)] w fun r w' =>
      ∃ x, r = .returned (.tuple #[x, .int .i64 (errPm (begP s (itK y.toNat) (itN y.toNat) 0).1 : Nat)]) ∧ GoM w0 w w' b o D vt vs (begP s (itK y.toNat) (itN y.toNat) 0) x := by
  have HI := hid (item_of y.toNat y.toNat_lt w); unfold itV at HI; rw [hf] at HI; have hK := it_le y.toNat y.toNat_lt; obtain ⟨r0, r5, r6, rc⟩ := ref_len he hd; have h3 : itK y.toNat ≠ 3 := fun h => it_3 _ y.toNat_lt h hf
  obtain ⟨X, hX⟩ : ∃ X, (y.toNat : Int) = X := ⟨_, rfl⟩
  rw [hX] at HI ⊢; generalize itK y.toNat = K at *
  generalize itN y.toNat = N at *
  have hR : ∀ w1, Below w.heap.size w w1 → Calls Tryz.prog 193 #[.pointer (some ⟨b, o, none⟩), .int .i64 (K : Nat)] (w1.alloc (.cells #[.int .i64 (K : Nat), .int .u64 (N : Nat), .int .u8 0] 144)) fun r w' => r = .returned (.int .i64 0) ∧ Below (w1.alloc (.cells #[.int .i64 (K : Nat), .int .u64 (N : Nat), .int .u8 0] 144)).heap.size (w1.alloc (.cells #[.int .i64 (K : Nat), .int .u64 (N : Nat), .int .u8 0] 144)) w' := fun w1 k => by
    have := refuses_item (c.go (up_alloc k (.cells #[.int .i64 (K : Nat), .int .u64 (N : Nat), .int .u8 0] 144))) hk K hK; rw [he] at this; exact this
  have HR := hid hR; have HB := hid (fun w2 (k : Below w.heap.size w w2) => pbegins_at (w0 := w0) (c.go k) (hl.up k) hvt hk K N 0 ⟨by omega, hK, r5, r6⟩ (fun e => absurd e h3) (fun e => Nat.lt_of_lt_of_le (rc (by omega)) hD)); have HC := hid c; clear c hl hvt hk hd hD he hf hX hK r0 r5 r6 rc h3 hR; go_enter Tryz.func188, Tryz.ntmps188; (go_wp2_with fail); refine HI.out.mono ?_; rintro r w1 ⟨rfl, b1⟩; have HR1 := hid (HR.out w1 b1); have B1 := hid b1; clear b1 HR HI; (go_wp2_with fail); refine HR1.out.mono ?_; rintro r w2 ⟨rfl, b2⟩; have HF := hid (FbI.of (F := 0) HC.out B1.out b2); have x0 := HF.out.blk.cell 0; have x1 := HF.out.blk.cell 1; have x2 := HF.out.blk.cell 2; have HB2 := hid (HB.out w2 HF.out.below); clear b2 HR1 B1 HB; (go_wp2_with fail); refine HB2.out.mono ?_; rintro r w' ⟨x, rfl, hR⟩; have HR := hid hR; clear hR; go_wp2; go_ret2; exact ⟨x, rfl, HR.out.up HF.out.below HF.out.lt⟩
theorem step_form {f : Nat} (hf : f = 24 ∨ f = 25 ∨ f = 26 ∨ f = 27) : stepH .new f = .mid 0 (2 ^ (f - 24)) 0 := by
  rcases hf with rfl | rfl | rfl | rfl <;> rfl
theorem FbI.num {w w2 w5 : World} {b o D kd nm fm : Nat} {h : Hd} {vt vs : Value} {s : List Bx} {g K N F : Nat} (I : FbI w w2 b o D kd nm fm h vt vs s g K N F)
    {w3 : World} (h3 : PP w3 b o D 1 K N F h 0 0 vt [] st0 vs s.length (inP s)) (s3 : Sub b o 20 w2 w3) {w4 : World} (h4 : HPost w3 b (o + 6) .new w4) (h5 : HPost w4.drew b (o + 6) (.mid 0 (2 ^ (F - 24)) 0) w5)
    (hK : K = 1 ∨ K = 3 ∨ K = 7 ∨ K = 8 ∨ K = 9 ∨ K = 10) (hF : F = 24 ∨ F = 25 ∨ F = 26 ∨ F = 27) (w0 : World) : GoM w0 w w5 b o D vt vs (.num s (kOf K) (2 ^ (F - 24)) (2 ^ (F - 24)) 0, []) (.slice none 0 0) := by
  have c4 := h3.setHd h4.2 h4.1; have c5 := (c4.drewN 1).setHd h5.2 h5.1; refine ⟨Vls.nil_ _ _, ⟨vt, vs, ⟨N, ?_⟩, fun k hk => .inl hk⟩, ?_⟩
  · rw [kd_kOf hK, fm_pow hF]
    exact c5
  · exact (((subg_below I.below I.lt _ _ _).tr (s3.subg _)).tr ((h4.2.widen (by omega) (by omega)).subg _)).tr (((Subg.refl _ _ _ _ _).drewN 1).tr ((h5.2.widen (by omega) (by omega)).subg _))
theorem pfirst_num {w0 w : World} {b o D kd nm fm : Nat} {h : Hd} {vt vs : Value} {s : List Bx} (c : PP w b o D 0 kd nm fm h 0 0 vt [] st0 vs s.length (inP s)) (hk : OkP s) (y : UInt8) (he : refP D s (itK y.toNat) = 0) (hf : itF y.toNat ≠ 0) :
    Calls Tryz.prog 188 #[.pointer (some ⟨b, o, none⟩), .int .u8 (y.toNat : Int)] w fun r w' =>
      ∃ x, r = .returned (.tuple #[x, .int .i64 0]) ∧ GoM w0 w w' b o D vt vs (.num s (kOf (itK y.toNat)) (2 ^ (itF y.toNat - 24)) (2 ^ (itF y.toNat - 24)) 0, []) x := by
  have HI := hid (item_of y.toNat y.toNat_lt w); unfold itV at HI; have hK := it_le y.toNat y.toNat_lt; obtain ⟨hF, hKK⟩ := (it_form y.toNat y.toNat_lt).resolve_left hf; obtain ⟨X, hX⟩ : ∃ X, (y.toNat : Int) = X := ⟨_, rfl⟩
  rw [hX] at HI ⊢; generalize itK y.toNat = K at *
  generalize itN y.toNat = N at *
  generalize itF y.toNat = F at *
  have hR : ∀ w1, Below w.heap.size w w1 → Calls Tryz.prog 193 #[.pointer (some ⟨b, o, none⟩), .int .i64 (K : Nat)] (w1.alloc (.cells #[.int .i64 (K : Nat), .int .u64 (N : Nat), .int .u8 (F : Nat)] 144)) fun r w' => r = .returned (.int .i64 0) ∧ Below (w1.alloc (.cells #[.int .i64 (K : Nat), .int .u64 (N : Nat), .int .u8 (F : Nat)] 144)).heap.size (w1.alloc (.cells #[.int .i64 (K : Nat), .int .u64 (N : Nat), .int .u8 (F : Nat)] 144)) w' := fun w1 k => by
    have := refuses_item (c.go (up_alloc k (.cells #[.int .i64 (K : Nat), .int .u64 (N : Nat), .int .u8 (F : Nat)] 144))) hk K hK; rw [he] at this; exact this
  have HR := hid hR; have HC := hid c; have zF : ((F : Int) == 0) = false := by rw [beq_eq_false_iff_ne]; omega
  have HQ := hid (And.intro hKK hF); clear c hk he hf hX hK hKK hF hR; go_enter Tryz.func188, Tryz.ntmps188; (go_wp2_with fail); refine HI.out.mono ?_; rintro r w1 ⟨rfl, b1⟩; have HR1 := hid (HR.out w1 b1); have B1 := hid b1; clear b1 HR HI; (go_wp2_with fail); refine HR1.out.mono ?_; rintro r w2 ⟨rfl, b2⟩; have HF := hid (FbI.of HC.out B1.out b2); obtain ⟨g, hg⟩ : ∃ g, w1.heap.size = g := ⟨_, rfl⟩
  rw [hg] at HF ⊢; have x0 := HF.out.blk.cell 0; have x1 := HF.out.blk.cell 1; have x2 := HF.out.blk.cell 2; obtain ⟨⟨_, _, ⟨c2, f2⟩⟩, ⟨⟨c3, f3⟩, ⟨c4, f4⟩, ⟨c5, f5⟩⟩, _⟩ := HF.out.cp.cells; have hS : Sub b (o + 3) 3 w2 (((w2.setCell ⟨b, o + 3, none⟩ (.int .i64 K)).setCell ⟨b, o + 3 + 1, none⟩ (.int .u64 N)).setCell ⟨b, o + 3 + 2, none⟩ (.int .u8 F)) := ((sub_setCell w2 (o + 3) _ (by omega)).setCell (o + 3 + 1) _ (by omega)).setCell (o + 3 + 2) _ (by omega); have hA : At (((w2.setCell ⟨b, o + 3, none⟩ (.int .i64 K)).setCell ⟨b, o + 3 + 1, none⟩ (.int .u64 N)).setCell ⟨b, o + 3 + 2, none⟩ (.int .u8 F)) b (o + 3) [.int .i64 K, .int .u64 N, .int .u8 F] := ((HF.out.cp.it.set 0 (by simp) (.int .i64 K)).set 1 (by simp) (.int .u64 N)).set 2 (by simp) (.int .u8 F); have hP := (HF.out.cp.setIt hS hA).setPl 1; have hS20 : Sub b o 20 w2 ((((w2.setCell ⟨b, o + 3, none⟩ (.int .i64 K)).setCell ⟨b, o + 3 + 1, none⟩ (.int .u64 N)).setCell ⟨b, o + 3 + 2, none⟩ (.int .u8 F)).setCell ⟨b, o + 2, none⟩ (.int .i64 (1 : Nat))) := (hS.widen (by omega) (by omega)).setCell (o + 2) _ (by omega); have HP := hid (And.intro hP hS20); have HCL := hid (clear_at hP.hd); clear b2 HR1 B1 hS hA hP hS20 hg; (go_wp2_with fail); refine HCL.out.mono ?_; rintro r w4 ⟨rfl, h4⟩; have H4 := hid h4; have hb4 : w4.heap[g]? = w2.heap[g]? := ((HP.out.2.trans (h4.2.widen (by omega) (by omega))).step.block g (Array.getElem?_eq_some_iff.1 HF.out.blk).1 (by simp; have := HF.out.lt; have := HF.out.new; omega))
  have y2 : w4.drew.cell? ⟨g, 2, none⟩ = some (.int .u8 F) := (World.cell?_of_block (w := w2) hb4).trans x2; have HST := hid (hstep_at (x := F) (by have := HQ.out.2; omega) (h4.1.drewN 1)); rw [step_form HQ.out.2] at HST; simp only [endH, errH] at HST; clear h4 HCL hb4; (go_wp2_with fail)
  go_region_with (go_at_call 149; refine (HST.out).mono ?_; rintro r w5 ⟨rfl, h5⟩)
  all_goals
    have HG := hid (HF.out.num HP.out.1 HP.out.2 H4.out h5 HQ.out.1 HQ.out.2 w0); clear h5; go_wp2; go_ret2; exact ⟨_, rfl, HG.out⟩
end
section
open Go.RowKit
open Go.Lib
theorem pfirst_at {w0 w : World} {b o D kd nm fm : Nat} {h : Hd} {vt vs : Value} {s : List Bx} (c : PP w b o D 0 kd nm fm h 0 0 vt [] st0 vs s.length (inP s)) (hl : Low w0 w b vs) (hvt : ∀ k ∈ Value.owner vt, k < w0.heap.size) (hk : OkP s) (hd : s.length ≤ D) (hD : D ≤ 16) (y : UInt8) :
    Calls Tryz.prog 188 #[.pointer (some ⟨b, o, none⟩), .int .u8 (y.toNat : Int)] w fun r w' =>
      ∃ x, r = .returned (.tuple #[x, .int .i64 (errPm (firstB D s y.toNat).1 : Nat)]) ∧ GoM w0 w w' b o D vt vs (firstB D s y.toNat) x := by
  unfold firstB; by_cases he : refP D s (itK y.toNat) = 0
  · rw [if_neg (by simpa using he)]
    by_cases hf : itF y.toNat = 0
    · rw [if_pos hf]
      exact pfirst_now c hl hvt hk hd hD y he hf
    · rw [if_neg hf]
      exact pfirst_num c hk y he hf
  · rw [if_pos he]
    exact pfirst_bad c hk y he
def numB (s : List Bx) (k q n a : Nat) (y : Nat) : Pm × List Ev := if n = 1 then begP s (kdK k) (a * 256 + y) (fmW q) else (.num s k q (n - 1) (a * 256 + y), [])
theorem pnum_mid {w0 w : World} {b o D nm : Nat} {vt vs : Value} {s : List Bx} {k q n a : Nat} (c : PP w b o D 1 (kdK k) nm (fmW q) (.mid 0 n a) 0 0 vt [] st0 vs s.length (inP s)) (y : UInt8) (hn : n ≠ 1) :
    Calls Tryz.prog 186 #[.pointer (some ⟨b, o, none⟩), .int .u8 (y.toNat : Int)] w fun r w' =>
      ∃ x, r = .returned (.tuple #[x, .int .i64 0]) ∧ GoM w0 w w' b o D vt vs (.num s k q (n - 1) (a * 256 + y.toNat), []) x := by
  have hS := hstep_at y.toNat_lt c.hd; have e1 : stepH (.mid 0 n a) y.toNat = .mid 0 (n - 1) (a * 256 + y.toNat) := by simp only [stepH]; rw [if_neg hn]
  rw [e1] at hS; simp only [endH, errH] at hS; have HG : Hid (∀ w', HPost w b (o + 6) (.mid 0 (n - 1) (a * 256 + y.toNat)) w' → GoM w0 w w' b o D vt vs (.num s k q (n - 1) (a * 256 + y.toNat), []) (.slice none 0 0)) := hid (fun w' h =>
    ⟨Vls.nil_ _ _, ⟨vt, vs, ⟨nm, c.setHd h.2 h.1⟩, fun k hk => .inl hk⟩, (h.2.widen (by omega) (by omega)).subg _⟩)
  have HS := hid hS; generalize a * 256 + y.toNat = v at *
  obtain ⟨X, hX⟩ : ∃ X, (y.toNat : Int) = X := ⟨_, rfl⟩
  rw [hX] at HS ⊢; clear c hS e1 hX hn; go_enter Tryz.func186, Tryz.ntmps186; (go_wp2_with fail); refine HS.out.mono ?_; rintro r w1 ⟨rfl, h1⟩; have HG1 := hid (HG.out _ h1); clear h1 HG; go_wp2; go_ret2; exact ⟨_, rfl, HG1.out⟩
theorem pnum_last {w0 w : World} {b o D nm : Nat} {vt vs : Value} {s : List Bx} {K f a : Nat} (c : PP w b o D 1 K nm f (.mid 0 1 a) 0 0 vt [] st0 vs s.length (inP s)) (hl : Low w0 w b vs) (hvt : ∀ k ∈ Value.owner vt, k < w0.heap.size) (hk : OkP s) (y : UInt8)
    (hK : 1 ≤ K ∧ K ≤ 10 ∧ K ≠ 5 ∧ K ≠ 6) (hf : K = 3 → 24 ≤ f ∧ f ≤ 27 ∧ a * 256 + y.toNat < 256 ^ (2 ^ (f - 24))) (hd : 9 ≤ K → s.length < 16) :
    Calls Tryz.prog 186 #[.pointer (some ⟨b, o, none⟩), .int .u8 (y.toNat : Int)] w fun r w' =>
      ∃ x, r = .returned (.tuple #[x, .int .i64 (errPm (begP s K (a * 256 + y.toNat) f).1 : Nat)]) ∧ GoM w0 w w' b o D vt vs (begP s K (a * 256 + y.toNat) f) x := by
  have hS := hstep_at y.toNat_lt c.hd; have e1 : stepH (.mid 0 1 a) y.toNat = .fin 0 (a * 256 + y.toNat) false := by simp [stepH]
  rw [e1] at hS; simp only [endH, errH] at hS; have H := hid (And.intro c (And.intro hl (And.intro hvt (And.intro hk (And.intro hK (And.intro hf hd)))))); have HS := hid hS; generalize a * 256 + y.toNat = v at *
  obtain ⟨X, hX⟩ : ∃ X, (y.toNat : Int) = X := ⟨_, rfl⟩
  rw [hX] at HS ⊢; clear c hS e1 hX hl hvt hk hK hf hd; go_enter Tryz.func186, Tryz.ntmps186; (go_wp2_with fail); refine HS.out.mono ?_; rintro r w1 ⟨rfl, h1⟩; have c1 := H.out.1.setHd h1.2 h1.1; have s1 : Sub b o 20 w w1 := h1.2.widen (by omega) (by omega); have HV := hid (value_at h1.1); simp only [valH] at HV; obtain ⟨⟨d3, g3⟩, ⟨d4, g4⟩, ⟨d5, g5⟩⟩ := c1.cells.2.1; have s2 : Sub b (o + 3) 3 w1 (w1.setCell ⟨b, o + 3 + 1, none⟩ (.int .u64 (v : Nat))) := sub_setCell w1 _ _ (by omega); have c2 : PP (w1.setCell ⟨b, o + 3 + 1, none⟩ (.int .u64 (v : Nat))) b o D 1 K v f (.fin 0 v false) 0 0 vt [] st0 vs s.length (inP s) := c1.setIt s2 (c1.it.set 1 (by simp) _); have HB := hid (pbegins_at (w0 := w0) c2 (H.out.2.1.of (Nat.le_trans s1.step.size s2.step.size) rfl) H.out.2.2.1 H.out.2.2.2.1 K v f H.out.2.2.2.2.1 H.out.2.2.2.2.2.1 H.out.2.2.2.2.2.2); have HX := hid (s1.trans (s2.widen (o' := o) (n' := 20) (by omega) (by omega))); clear h1 c1 s1 s2 c2; (go_wp2_with fail); refine HV.out.mono ?_; rintro r w2 ⟨rfl, rfl⟩; clear HV; (go_wp2_with fail); refine HB.out.mono ?_; rintro r w' ⟨x, rfl, hR⟩; have HR := hid hR; clear hR; go_wp2; go_ret2; exact ⟨x, rfl, HR.out.from_ (HX.out.subg _) (fun _ hk => .inl hk)⟩
def TakeP (w w' : World) (b o D : Nat) (vt vs : Value) (q : Pm × List Ev) (r : Ending) : Prop := ∃ x, r = .returned (.tuple #[x, .int .i64 (errPm q.1 : Nat)]) ∧ GoM w w w' b o D vt vs q x
theorem plow_self {w : World} {b : Nat} {vs : Value} (hb : b < w.heap.size) (hv : ∀ k ∈ Value.owner vs, k < w.heap.size) : Low w w b vs := ⟨Nat.le_refl _, hb, hv⟩
theorem ptake_end {w : World} {b o D kd nm fm : Nat} {h : Hd} {tk lk : Nat} {vt : Value} {t : List UInt8} {u : Option (Nat × Nat × Nat)} {vs : Value} {n : Nat} {xs : List Value} (c : PP w b o D 3 kd nm fm h tk lk vt t u vs n xs) (y : UInt8) :
    Calls Tryz.prog 185 #[.pointer (some ⟨b, o, none⟩), .int .u8 (y.toNat : Int)] w fun r w' => TakeP w w' b o D vt vs (.c (.bad 2), []) r := by
  have c2 := c.cells.1.2.2.1; have HG : Hid (GoM w w w b o D vt vs (.c (.bad 2), []) (.slice none 0 0)) := hid ⟨Vls.nil_ _ _, ⟨vt, vs, ⟨by decide, c.room, c.cells.1.2.1.1⟩, fun k hk => .inl hk⟩, Subg.refl _ _ _ _ _⟩; clear c; go_enter Tryz.func185, Tryz.ntmps185; go_wp2; go_ret2; exact ⟨_, rfl, HG.out⟩
theorem ptake_text {w : World} {b o D : Nat} {vt vs : Value} {q : Pm × List Ev} (hc : w.cell? ⟨b, o + 2, none⟩ = some (.int .i64 (2 : Nat))) {y : UInt8}
    (H : Calls Tryz.prog 187 #[.pointer (some ⟨b, o, none⟩), .int .u8 (y.toNat : Int)] w fun r w' => TakeP w w' b o D vt vs q r) :
    Calls Tryz.prog 185 #[.pointer (some ⟨b, o, none⟩), .int .u8 (y.toNat : Int)] w fun r w' => TakeP w w' b o D vt vs q r := by
  have HH := hid H; clear H; go_enter Tryz.func185, Tryz.ntmps185; (go_wp2_with fail); refine HH.out.mono ?_; rintro r w' ⟨x, rfl, hq⟩; have HQ := hid hq; clear hq; go_wp2; go_ret2; exact ⟨x, rfl, HQ.out⟩
theorem ptake_num {w : World} {b o D : Nat} {vt vs : Value} {q : Pm × List Ev} (hc : w.cell? ⟨b, o + 2, none⟩ = some (.int .i64 (1 : Nat))) {y : UInt8}
    (H : Calls Tryz.prog 186 #[.pointer (some ⟨b, o, none⟩), .int .u8 (y.toNat : Int)] w fun r w' => TakeP w w' b o D vt vs q r) :
    Calls Tryz.prog 185 #[.pointer (some ⟨b, o, none⟩), .int .u8 (y.toNat : Int)] w fun r w' => TakeP w w' b o D vt vs q r := by
  have HH := hid H; clear H; go_enter Tryz.func185, Tryz.ntmps185; (go_wp2_with fail); refine HH.out.mono ?_; rintro r w' ⟨x, rfl, hq⟩; have HQ := hid hq; clear hq; go_wp2; go_ret2; exact ⟨x, rfl, HQ.out⟩
theorem ptake_first {w : World} {b o D : Nat} {vt vs : Value} {q : Pm × List Ev} (hc : w.cell? ⟨b, o + 2, none⟩ = some (.int .i64 (0 : Nat))) {y : UInt8}
    (H : Calls Tryz.prog 188 #[.pointer (some ⟨b, o, none⟩), .int .u8 (y.toNat : Int)] w fun r w' => TakeP w w' b o D vt vs q r) :
    Calls Tryz.prog 185 #[.pointer (some ⟨b, o, none⟩), .int .u8 (y.toNat : Int)] w fun r w' => TakeP w w' b o D vt vs q r := by
  have HH := hid H; clear H; go_enter Tryz.func185, Tryz.ntmps185; (go_wp2_with fail); refine HH.out.mono ?_; rintro r w' ⟨x, rfl, hq⟩; have HQ := hid hq; clear hq; go_wp2; go_ret2; exact ⟨x, rfl, HQ.out⟩
theorem ptake_at {w : World} {b o D : Nat} {s : Pm} {vt vs : Value} (hD : D ≤ 16) (hs : StM w b o D s vt vs) (hw : WfPm D s) (hb : ∀ e, s ≠ .c (.bad e)) (y : UInt8) :
    Calls Tryz.prog 185 #[.pointer (some ⟨b, o, none⟩), .int .u8 (y.toNat : Int)] w fun r w' => TakeP w w' b o D vt vs (stepPm D s y) r := by
  cases s with
  | c x =>
    cases x with
    | bad e => exact absurd rfl (hb e)
    | item s dn =>
      obtain ⟨hp, hd, _⟩ := hw; obtain ⟨kd, nm, fm, h, c⟩ := hs; cases dn with
      | true =>
        have : stepPm D (.c (.item s true)) y = (.c (.bad 2), []) := by simp only [stepPm, firstP]; simp
        rw [this]; exact ptake_end c y
      | false =>
        have c : PP w b o D 0 kd nm fm h 0 0 vt [] st0 vs s.length (inP s) := c; rw [show stepPm D (.c (.item s false)) y = firstB D s y.toNat from first_eqP D s hd y.toNat y.toNat_lt]; exact ptake_first c.cells.1.2.2.1 (pfirst_at c (plow_self c.lt c.op.win.lt) c.wt.lt hp hd hD y)
    | text s m n t u =>
      obtain ⟨hp, hd, hn, ht⟩ := hw; obtain ⟨kd, nm, fm, h, c⟩ := hs; obtain ⟨n', rfl⟩ : ∃ n', n = n' + 1 := ⟨n - 1, by omega⟩
      rw [show stepPm D (.c (.text s m (n' + 1) t u)) y = bytP s m t n' u y from text_eqP D s m n' t u y]; exact ptake_text c.cells.1.2.2.1 (pbyteOfText_at c ht (plow_self c.lt c.op.win.lt) hp y)
    | head _ _ => exact hs.elim
    | open_ _ _ _ => exact hs.elim
    | chead _ _ _ _ => exact hs.elim
    | ctext _ _ _ _ _ => exact hs.elim
  | num s k q n a =>
    obtain ⟨hp, hd, hk, hq, h1, hnq, ha, h4⟩ := hw; obtain ⟨nm, c⟩ := hs; have he : stepPm D (.num s k q n a) y = numB s k q n a y.toNat := by
      simp only [stepPm]; unfold numB; by_cases hn : n = 1
      · rw [if_pos hn, if_pos hn, hed_eqP s hk hq]
      · rw [if_neg hn, if_neg hn]
    rw [he]; unfold numB; refine ptake_num c.cells.1.2.2.1 ?_; by_cases hn : n = 1
    · subst hn
      rw [if_pos rfl]; have hc : k = 0 ∨ k = 1 ∨ k = 2 ∨ k = 3 ∨ k = 4 ∨ k = 5 := by omega
      have hlt := y.toNat_lt; refine pnum_last c (plow_self c.lt c.op.win.lt) c.wt.lt hp y ?_ (fun _ => ?_) (fun e => ?_)
      · rcases hc with rfl | rfl | rfl | rfl | rfl | rfl <;> decide
      · obtain ⟨f1, f2, f3⟩ := pow_fm hq
        refine ⟨f2, f3, ?_⟩; rw [f1]; have e : q = (q - 1) + 1 := by omega
        rw [e, Nat.pow_succ]; omega
      · have h4k : 4 ≤ k := by
          revert e; rcases hc with rfl | rfl | rfl | rfl | rfl | rfl <;> decide
        have := h4 h4k; omega
    · rw [if_neg hn]
      exact pnum_mid c y hn
end
section
open Go.RowKit
open Go.Lib
def paP (e D : Nat) : List Value := [.int .i64 (e : Int), .int .i64 (D : Int), .int .i64 0, .int .i64 0, .int .u64 0, .int .u8 0, .int .i64 0, .int .i64 0, .int .i64 0, .bool false, .int .i64 0, .int .u64 0, .int .i64 0, .int .i64 0, .slice none 0 0, .int .i64 0, .int .u8 0, .int .u8 0, .bool false, .slice none 0 0]
theorem paP_one (e D : Nat) : (paP e D).toArray.all (·.oneCell') = true := by simp [paP, Value.oneCell']
def StPm (w : World) (b o D : Nat) (s : Pm) (vt vs : Value) : Prop :=
  match s with
  | .c (.bad e) => e ≠ 0 ∧ At w b o (paP e D) ∧ vt = .slice none 0 0 ∧ vs = .slice none 0 0
  | .c (.item s dn) => StM w b o D (.c (.item s dn)) vt vs
  | .c (.text s m n t u) => StM w b o D (.c (.text s m n t u)) vt vs
  | .num s k q n a => StM w b o D (.num s k q n a) vt vs
  | _ => False
theorem StPm.of {w : World} {b o D : Nat} {s : Pm} {vt vs : Value} (h : StM w b o D s vt vs) (hb : ∀ e, s ≠ .c (.bad e)) : StPm w b o D s vt vs := by
  cases s with
  | c x =>
    cases x with
    | bad e => exact absurd rfl (hb e)
    | item _ _ => exact h
    | text _ _ _ _ _ => exact h
    | head _ _ => exact h
    | open_ _ _ _ => exact h
    | chead _ _ _ _ => exact h
    | ctext _ _ _ _ _ => exact h
  | num _ _ _ _ _ => exact h
theorem StPm.st {w : World} {b o D : Nat} {s : Pm} {vt vs : Value} (h : StPm w b o D s vt vs) (hb : ∀ e, s ≠ .c (.bad e)) : StM w b o D s vt vs := by
  cases s with
  | c x =>
    cases x with
    | bad e => exact absurd rfl (hb e)
    | item _ _ => exact h
    | text _ _ _ _ _ => exact h
    | head _ _ => exact h
    | open_ _ _ _ => exact h
    | chead _ _ _ _ => exact h
    | ctext _ _ _ _ _ => exact h
  | num _ _ _ _ _ => exact h
def stkP : Pm → List Bx
  | .c (.item s _) => s
  | .c (.text s _ _ _ _) => s
  | .num s _ _ _ _ => s
  | _ => []
theorem StM.pp {w : World} {b o D : Nat} {s : Pm} {vt vs : Value} (h : StM w b o D s vt vs) (hb : ∀ e, s ≠ .c (.bad e)) (hw : WfPm D s) :
    ∃ pl kd nm fm hh tk lk t u, PP w b o D pl kd nm fm hh tk lk vt t u vs (stkP s).length (inP (stkP s)) ∧ heldPm s = t.length + (stkP s).length ∧ (pl = 3 ↔ donePm s = true) ∧ t.length ≤ 200 ∧ (stkP s).length ≤ 16 := by
  cases s with
  | c x =>
    cases x with
    | bad e => exact absurd rfl (hb e)
    | item s dn =>
      obtain ⟨kd, nm, fm, hh, c⟩ := h; refine ⟨_, _, _, _, _, _, _, _, _, c, by simp [heldPm, heldCi, stkP], ?_, by simp, hw.1.deep⟩; cases dn with
      | false => simp [donePm, doneCi]
      | true =>
        obtain rfl := hw.2.2 rfl; simp [donePm, doneCi]
    | text s m n t u =>
      obtain ⟨kd, nm, fm, hh, c⟩ := h; exact ⟨_, _, _, _, _, _, _, _, _, c, rfl, by simp [donePm, doneCi], by have := hw.2.2.2; omega, hw.1.deep⟩
    | head _ _ => exact h.elim
    | open_ _ _ _ => exact h.elim
    | chead _ _ _ _ => exact h.elim
    | ctext _ _ _ _ _ => exact h.elim
  | num s k q n a =>
    obtain ⟨nm, c⟩ := h; exact ⟨_, _, _, _, _, _, _, _, _, c, by simp [heldPm, stkP], by simp [donePm], by simp, hw.1.deep⟩
theorem StPm.any {w : World} {b o D : Nat} {s : Pm} {vt vs : Value} (h : StPm w b o D s vt vs) : (∃ e, s = .c (.bad e) ∧ e ≠ 0 ∧ At w b o (paP e D) ∧ vt = .slice none 0 0 ∧ vs = .slice none 0 0) ∨ ((∀ e, s ≠ .c (.bad e)) ∧ ∃ pl kd nm fm hh tk lk t u, PP w b o D pl kd nm fm hh tk lk vt t u vs (stkP s).length (inP (stkP s))) := by
  cases s with
  | c x =>
    cases x with
    | bad e => exact .inl ⟨e, rfl, h⟩
    | item _ _ => obtain ⟨kd, nm, fm, hh, c⟩ := h; exact .inr ⟨fun e h => (by cases h), _, _, _, _, _, _, _, _, _, c⟩
    | text _ _ _ _ _ => obtain ⟨kd, nm, fm, hh, c⟩ := h; exact .inr ⟨fun e h => (by cases h), _, _, _, _, _, _, _, _, _, c⟩
    | head _ _ => exact h.elim
    | open_ _ _ _ => exact h.elim
    | chead _ _ _ _ => exact h.elim
    | ctext _ _ _ _ _ => exact h.elim
  | num _ _ _ _ _ => obtain ⟨nm, c⟩ := h; exact .inr ⟨fun e h => (by cases h), _, _, _, _, _, _, _, _, _, c⟩
theorem StPm.lt {w : World} {b o D : Nat} {s : Pm} {vt vs : Value} (h : StPm w b o D s vt vs) : b < w.heap.size := by
  rcases h.any with ⟨e, _, _, hA, _⟩ | ⟨_, _, _, _, _, _, _, _, _, _, c⟩
  · exact hA.lt (by simp [paP])
  · exact c.lt
theorem StPm.err {w : World} {b o D : Nat} {s : Pm} {vt vs : Value} (h : StPm w b o D s vt vs) : w.cell? ⟨b, o, none⟩ = some (.int .i64 (errPm s : Nat)) ∧ w.cell? ⟨b, o + 1, none⟩ = some (.int .i64 (D : Nat)) := by
  cases s with
  | c x =>
    cases x with
    | bad e => exact ⟨(h.2.1 0 _ rfl).1, (h.2.1 1 _ rfl).1⟩
    | item _ _ => obtain ⟨kd, nm, fm, hh, c⟩ := h; exact ⟨c.cells.1.1.1, c.cells.1.2.1.1⟩
    | text _ _ _ _ _ => obtain ⟨kd, nm, fm, hh, c⟩ := h; exact ⟨c.cells.1.1.1, c.cells.1.2.1.1⟩
    | head _ _ => exact h.elim
    | open_ _ _ _ => exact h.elim
    | chead _ _ _ _ => exact h.elim
    | ctext _ _ _ _ _ => exact h.elim
  | num _ _ _ _ _ => obtain ⟨nm, c⟩ := h; exact ⟨c.cells.1.1.1, c.cells.1.2.1.1⟩
theorem pp_new {w : World} {b o D : Nat} (h : At w b o (paP 0 D)) : PP w b o D 0 0 0 0 .new 0 0 (.slice none 0 0) [] st0 (.slice none 0 0) 0 [] := by
  have e1 := h.right (vs := [.int .i64 ((0 : Nat) : Int), .int .i64 (D : Int), .int .i64 0]) (us := _); have e2 := e1.right (vs := [.int .i64 0, .int .u64 0, .int .u8 0]) (us := _); have e3 := e2.right (vs := hd6 0 0 0 false 0 0) (us := _); have e4 := e3.right (vs := [.int .i64 0, .int .i64 0, .slice none 0 0]) (us := _); have e5 := e4.right (vs := ckCells 0 0 0 false) (us := _); exact ⟨h.left (vs := [.int .i64 ((0 : Nat) : Int), .int .i64 (D : Int), .int .i64 0]), e1.left (vs := [.int .i64 0, .int .u64 0, .int .u8 0]), ⟨trivial, e2.left (vs := hd6 0 0 0 false 0 0)⟩, e3.left (vs := [.int .i64 0, .int .i64 0, .slice none 0 0]), cat_zero (e4.left (vs := ckCells 0 0 0 false)), ⟨e5, Win.nil_ _ _ _, by simp [Value.owner]⟩, Win.nil_ _ _ _, by simp [Value.owner]⟩
theorem phad_at {w : World} {b o D e : Nat} (hD : 1 ≤ D) (c0 : w.cell? ⟨b, o, none⟩ = some (.int .i64 (e : Nat))) (c1 : w.cell? ⟨b, o + 1, none⟩ = some (.int .i64 (D : Nat))) :
    Calls Tryz.prog 184 #[.pointer (some ⟨b, o, none⟩)] w fun r w' => r = .returned (.int .i64 (e : Nat)) ∧ w = w' := by
  have hz : ((D : Int) == 0) = false := by rw [beq_eq_false_iff_ne]; omega
  clear hD; go_enter Tryz.func184, Tryz.ntmps184; go_wp2; go_ret; exact ⟨rfl, rfl⟩
theorem pdone_cell {w : World} {b o pl : Nat} (c2 : w.cell? ⟨b, o + 2, none⟩ = some (.int .i64 (pl : Nat))) :
    Calls Tryz.prog 180 #[.pointer (some ⟨b, o, none⟩)] w fun r w' => r = .returned (.bool (decide (pl = 3))) ∧ w = w' := by
  have hz : ((pl : Int) == 3) = decide (pl = 3) := by rw [Bool.eq_iff_iff, beq_iff_eq, decide_eq_true_eq]; omega
  generalize decide (pl = 3) = B at *
  go_enter Tryz.func180, Tryz.ntmps180; go_wp2; go_ret; exact ⟨rfl, rfl⟩
theorem pdone_at {w : World} {b o D : Nat} {s : Pm} {vt vs : Value} (h : StPm w b o D s vt vs) (hw : WfPm D s) :
    Calls Tryz.prog 180 #[.pointer (some ⟨b, o, none⟩)] w fun r w' => r = .returned (.bool (donePm s)) ∧ w = w' := by
  rcases h.any with ⟨e, rfl, _, hA, _⟩ | ⟨hb, _⟩
  · exact pdone_cell (pl := 0) (hA 2 _ rfl).1
  · obtain ⟨pl, _, _, _, _, _, _, _, _, c, _, hd, _⟩ := (h.st hb).pp hb hw
    have := pdone_cell c.cells.1.2.2.1; have e : decide (pl = 3) = donePm s := by rw [Bool.eq_iff_iff, decide_eq_true_eq]; exact hd
    rwa [e] at this
theorem pend_at {w : World} {b o D : Nat} {s : Pm} {vt vs : Value} (hD : 1 ≤ D) (h : StPm w b o D s vt vs) (hw : WfPm D s) :
    Calls Tryz.prog 181 #[.pointer (some ⟨b, o, none⟩)] w fun r w' => r = .returned (.int .i64 (endPm s : Nat)) ∧ w = w' := by
  have HH := hid (phad_at hD h.err.1 h.err.2); have HD := hid (pdone_at h hw); rcases h.any with ⟨e, rfl, he, _⟩ | ⟨hb, _⟩
  · have hz : ((e : Int) != 0) = true := by rw [bne_iff_ne]; omega
    simp only [errPm, errCi, endPm, endCi] at HH ⊢; clear h hw he HD; go_enter Tryz.func181, Tryz.ntmps181; (go_wp2_with fail); refine HH.out.mono ?_; rintro r w1 ⟨rfl, rfl⟩; go_wp2; go_ret; exact ⟨rfl, rfl⟩
  · have hE : errPm s = 0 ∧ endPm s = if donePm s = true then 0 else 3 := by
      cases s with
      | c x =>
        cases x with
        | bad e => exact absurd rfl (hb e)
        | item s dn =>
          cases dn with
          | false => exact ⟨rfl, by simp [endPm, endCi, donePm, doneCi]⟩
          | true =>
            obtain rfl := hw.2.2 rfl; exact ⟨rfl, rfl⟩
        | text _ _ _ _ _ => exact ⟨rfl, rfl⟩
        | head _ _ => exact hw.elim
        | open_ _ _ _ => exact hw.elim
        | chead _ _ _ _ => exact hw.elim
        | ctext _ _ _ _ _ => exact hw.elim
      | num _ _ _ _ _ => exact ⟨rfl, rfl⟩
    rw [hE.1] at HH; rw [hE.2]; generalize donePm s = B at *
    clear h hw hE hb; cases B with
    | true =>
      go_enter Tryz.func181, Tryz.ntmps181; (go_wp2_with fail); refine HH.out.mono ?_; rintro r w1 ⟨rfl, rfl⟩; (go_wp2_with fail); refine HD.out.mono ?_; rintro r w1 ⟨rfl, rfl⟩; go_wp2; go_ret; exact ⟨rfl, rfl⟩
    | false =>
      go_enter Tryz.func181, Tryz.ntmps181; (go_wp2_with fail); refine HH.out.mono ?_; rintro r w1 ⟨rfl, rfl⟩; (go_wp2_with fail); refine HD.out.mono ?_; rintro r w1 ⟨rfl, rfl⟩; go_wp2; go_ret; exact ⟨rfl, rfl⟩
end
section
open Go.RowKit
open Go.Lib
theorem errP_bad {s : Pm} (h : errPm s ≠ 0) : ∃ e, s = .c (.bad e) ∧ e ≠ 0 := by
  cases s with
  | num _ _ _ _ _ => exact absurd rfl h
  | c x =>
    obtain ⟨e, h1, h2⟩ := err_bad (s := x) h; exact ⟨e, by rw [h1], h2⟩
def StepPK (w w' : World) (b o D : Nat) (vt vs : Value) (q : Pm × List Ev) (r : Ending) : Prop :=
  (∃ u, r = .returned (.tuple #[u, .int .i64 (errPm q.1 : Nat)]) ∧ Vls w w' u q.2) ∧ (∃ vt' vs', StPm w' b o D q.1 vt' vs' ∧ ∀ k ∈ Value.owner vt' ++ Value.owner vs', k ∈ Value.owner vt ++ Value.owner vs ∨ w.heap.size ≤ k) ∧ Subg (Value.owner vt ++ Value.owner vs) b o 20 w w'
theorem pstep_at {w : World} {b o D : Nat} {s : Pm} {vt vs : Value} (hD : 1 ≤ D ∧ D ≤ 16) (h : StPm w b o D s vt vs) (hw : WfPm D s) (y : UInt8) :
    Calls Tryz.prog 183 #[.pointer (some ⟨b, o, none⟩), .int .u8 (y.toNat : Int)] w fun r w' => StepPK w w' b o D vt vs (stepPm D s y) r := by
  have HH := hid (phad_at hD.1 h.err.1 h.err.2); rcases h.any with ⟨e, rfl, hne, _⟩ | ⟨hb, _⟩
  · have hz : ((e : Int) != 0) = true := by rw [bne_iff_ne]; omega
    have HK : Hid (StepPK w w b o D vt vs (stepPm D (.c (.bad e)) y) (.returned (.tuple #[.slice none 0 0, .int .i64 (e : Nat)]))) := hid ⟨⟨_, rfl, Vls.nil_ _ _⟩, ⟨vt, vs, h, fun k hk => .inl hk⟩, Subg.refl _ _ _ _ _⟩; simp only [errPm, errCi] at HH; clear h hw hD hne; go_enter Tryz.func183, Tryz.ntmps183; (go_wp2_with fail); refine HH.out.mono ?_; rintro r w1 ⟨rfl, rfl⟩; go_wp2; go_ret2; exact HK.out
  · have e0 : errPm s = 0 := by
      by_cases h0 : errPm s = 0
      · exact h0
      · obtain ⟨e, h1, _⟩ := errP_bad h0
        exact absurd h1 (hb e)
    have hT := ptake_at (y := y) hD.2 (h.st hb) hw hb; have HL := hid h.lt; rw [e0] at HH; generalize stepPm D s y = R at *
    have HT := hid hT; clear hT h hw hb e0 hD; by_cases he : errPm R.1 = 0
    · have HE := hid he
      have HF : Hid (∀ (w' : World) (x : Value), GoM w w w' b o D vt vs R x → StepPK w w' b o D vt vs R (.returned (.tuple #[x, .int .i64 (errPm R.1 : Nat)]))) := hid (fun w' x hg => by
        obtain ⟨vt', vs', hst, ho⟩ := hg.st; have hnb : ∀ e, R.1 ≠ .c (.bad e) := fun e h => by
          rw [h] at hst he; exact hst.1 he
        exact ⟨⟨x, rfl, hg.vls⟩, ⟨vt', vs', StPm.of hst hnb, ho⟩, hg.sub⟩)
      unfold TakeP at HT; rw [he] at HT HF; go_enter Tryz.func183, Tryz.ntmps183; (go_wp2_with fail); refine HH.out.mono ?_; rintro r w1 ⟨rfl, rfl⟩; (go_wp2_with fail); refine HT.out.mono ?_; rintro r w1 ⟨x, rfl, hg⟩; have HG := hid hg; clear hg; go_wp2; go_ret2; exact HF.out _ _ HG.out
    · obtain ⟨e, hR, hne⟩ := errP_bad he
      obtain ⟨R1, R2⟩ := R; simp only at hR; subst hR; have hz : ((e : Int) != 0) = true := by rw [bne_iff_ne]; omega
      unfold TakeP at HT; simp only [errPm, errCi] at HT; have HN := hid hne; clear he hne; go_enter Tryz.func183, Tryz.ntmps183; (go_wp2_with fail); refine HH.out.mono ?_; rintro r w1 ⟨rfl, rfl⟩; (go_wp2_with fail); refine HT.out.mono ?_; rintro r w1 ⟨x, rfl, hg⟩; have HG := hid hg; obtain ⟨vt', vs', ⟨_, hroom, c1⟩, _⟩ := hg.st; have HR := hid hroom; clear hg hroom
      go_wp2_with (refine wpList_store_room rfl 150 _ _ rfl b o (paP e D) rfl rfl HR.out (by kernel_rfl) (paP_one _ _) ?_)
      intro w2 h2; have HA := hid h2.out.1; have HS2 := hid h2.out.2; clear h2; go_wp2; go_ret2; refine ⟨⟨x, rfl, HG.out.vls.sub HS2.out HL.out⟩, ⟨.slice none 0 0, .slice none 0 0, ⟨HN.out, HA.out, rfl, rfl⟩, fun k hk => by simp [Value.owner] at hk⟩, HG.out.sub.tr (HS2.out.subg _)⟩
theorem pnew_any (D : Nat) (hD : 1 ≤ D ∧ D ≤ 16) (w : World) :
    Calls Tryz.prog 39 #[.int .i64 D] w fun r w' => r = .returned (.pointer (some ⟨w.heap.size, 0, none⟩)) ∧ StPm w' w.heap.size 0 D pm0 (.slice none 0 0) (.slice none 0 0) ∧ Below w.heap.size w w' := by
  have h1 : ((D : Int) < 1) = False := by simp; omega
  have h2 : ((16 : Int) < (D : Int)) = False := by simp; omega
  have HP : Hid (StPm (w.alloc (.cells (paP 0 D).toArray 150)) w.heap.size 0 D pm0 (.slice none 0 0) (.slice none 0 0)) := hid ⟨_, _, _, _, pp_new (at_block (heap_alloc_new w _))⟩; clear hD; go_enter Tryz.func39, Tryz.ntmps39; go_wp2; go_ret; exact ⟨rfl, HP.out, up_alloc (Below.refl _ _) _⟩
end
section
open Go.RowKit
open Go.Lib
theorem valE_form (e : Ev) : valE e = .nilIface ∨ ∃ d z, valE e = .iface d z := by
  unfold valE
  repeat' split
  all_goals first | exact .inl rfl | exact .inr ⟨_, _, rfl⟩
structure SgR (w : World) (b lim z : Nat) (vh vo : Value) (H : List Ev) (op : List Cn) : Prop where
  blk : Sgb w b 0 lim vh z vo
  wh : Win w 20 1 vh H.length (H.map valE)
  wo : Win w 170 4 vo op.length (cnL op)
def rowsG (b : Nat) (vh vo : Value) : List Nat := b :: (Value.owner vh ++ Value.owner vo)
theorem SgR.go {w w' : World} {b lim z : Nat} {vh vo : Value} {H : List Ev} {op : List Cn} (h : SgR w b lim z vh vo H op) (k : Below w.heap.size w w') : SgR w' b lim z vh vo H op :=
  ⟨h.blk.go k, h.wh.keep fun i hi => k.block i (h.wh.lt i hi), h.wo.keep fun i hi => k.block i (h.wo.lt i hi)⟩
theorem ggrown {w w3 : World} {b lim z : Nat} {vh vo v3 : Value} {H : List Ev} {op : List Cn} {e : Ev} (h : SgR w b lim z vh vo H op)
    (hW : Win w3 20 1 v3 (H.length + 1) (H.map valE ++ [valE e])) (hG : w.grownBy w3 vh.ownBlock) (hO : v3.ownBlock = vh.ownBlock ∨ v3.ownBlock = some w.heap.size ∧ w.heap.size < w3.heap.size) :
    Sgb w3 b 0 lim vh z vo ∧ Win w3 20 1 v3 (H ++ [e]).length ((H ++ [e]).map valE) ∧ Win w3 170 4 vo op.length (cnL op) ∧ b ∉ Value.owner v3 ∧ b ∉ Value.owner vo ∧
      (∀ k ∈ Value.owner v3, k ∈ Value.owner vh ∨ w.heap.size ≤ k) ∧ Step (rowsG b vh vo) (rowsG b v3 vo) w w3 := by
  have hbv := h.wh.apart h.blk (by decide); have hbo := h.wo.apart h.blk (by decide); have hvo := h.wh.apart2 h.wo (by decide); have h3 : Sgb w3 b 0 lim vh z vo := (hG.block b h.blk.lt (fun e => hbv ((ob_iff _ _).1 e.symm))).trans h.blk; have hx : ∀ k ∈ Value.owner v3, k ∈ Value.owner vh ∨ w.heap.size ≤ k := fun k hk => by
    rcases hO with e | ⟨e, _⟩
    · exact .inl ((ob_iff _ _).1 (e ▸ (ob_iff _ _).2 hk))
    · right
      have h2 := (ob_iff _ _).2 hk; rw [e] at h2; cases h2; exact Nat.le_refl _
  refine ⟨h3, by simpa using hW, h.wo.keep fun k hk => hG.block k (h.wo.lt k hk) (fun e => hvo k hk ((ob_iff _ _).1 e.symm)), hW.apart h3 (by decide), hbo, hx, ?_⟩; refine (step_grown (F := rowsG b vh vo) hG (fun k hk => ?_)).widen (fun k hk => ?_)
  · have := (ob_iff _ _).1 hk
    simp [rowsG, this]
  · simp only [rowsG, List.mem_cons, List.mem_append] at hk ⊢
    rcases hk with rfl | hk | hk
    · exact .inl (.inl rfl)
    · exact (hx k hk).imp (fun h => .inr (.inl h)) id
    · exact .inl (.inr (.inr hk))
theorem gfree_at {w : World} {b lim z : Nat} {vh vo : Value} {H : List Ev} {x : Cn} (h : SgR w b lim z vh vo H [x]) (hx : x.at_ < H.length ∧ x.n ≤ 100000) (hl : H.length ≤ 90000) (e : Ev) :
    Calls Tryz.prog 54 #[.pointer (some ⟨b, 0, none⟩), valE e] w fun q w' => ∃ v' vo', q = .returned v' ∧ Win w' 20 1 v' (endHg H [x] ++ [e]).length ((endHg H [x] ++ [e]).map valE) ∧ SgR w' b lim 0 (.slice none 0 0) vo' [] [] ∧
      (∀ k ∈ Value.owner v', k ∈ Value.owner vh ∨ w.heap.size ≤ k) ∧ Step (rowsG b vh vo) (rowsG b (.slice none 0 0) vo') w w' := by
  have HE := hid (gend_at (e := 0) (r := []) h.blk h.wh h.wo (by simp) hx (by omega)); have hform := valE_form e; obtain ⟨a, cp, rfl, _, _⟩ := h.wh.slice_form; obtain ⟨N, hN⟩ : ∃ N, H.length = N := ⟨_, rfl⟩
  have hlen : (H.set x.at_ (cntE x)).length = N := by simp [hN]
  rw [hN] at HE hl ⊢; have hK : ∀ (w1 w2 w3 : World) (vo' : Value) (a3 : Option Addr) (c3 : Nat), Sgb w1 b 0 lim (.slice a N cp) z vo' → Win w1 20 1 (.slice a N cp) N ((H.set x.at_ (cntE x)).map valE) → Win w1 170 4 vo' 0 (cnL []) → Value.owner vo' = Value.owner vo → Step (b :: Value.owner (.slice a N cp)) (b :: Value.owner (.slice a N cp)) w w1 → Below w1.heap.size w1 w2 →
      Win w3 20 1 (.slice a3 (N + 1) c3) (N + 1) ((H.set x.at_ (cntE x)).map valE ++ [valE e]) → w2.grownBy w3 (Value.slice a N cp).ownBlock → ((Value.slice a3 (N + 1) c3).ownBlock = (Value.slice a N cp).ownBlock ∨ (Value.slice a3 (N + 1) c3).ownBlock = some w2.heap.size ∧ w2.heap.size < w3.heap.size) →
      ((∃ u, w3.cell? ⟨b, 3, none⟩ = some u) ∧ w3.frozen? ⟨b, 3, none⟩ = false ∧ (∃ u, w3.cell? ⟨b, 4, none⟩ = some u) ∧ w3.frozen? ⟨b, 4, none⟩ = false) ∧
      (∃ vo', Win ((w3.setCell ⟨b, 3, none⟩ (.slice none 0 0)).setCell ⟨b, 4, none⟩ (.int .i64 0)) 20 1 (.slice a3 (N + 1) c3) (endHg H [x] ++ [e]).length ((endHg H [x] ++ [e]).map valE) ∧ SgR ((w3.setCell ⟨b, 3, none⟩ (.slice none 0 0)).setCell ⟨b, 4, none⟩ (.int .i64 0)) b lim 0 (.slice none 0 0) vo' [] [] ∧
        (∀ k ∈ Value.owner (.slice a3 (N + 1) c3), k ∈ Value.owner (.slice a N cp) ∨ w.heap.size ≤ k) ∧ Step (rowsG b (.slice a N cp) vo) (rowsG b (.slice none 0 0) vo') w ((w3.setCell ⟨b, 3, none⟩ (.slice none 0 0)).setCell ⟨b, 4, none⟩ (.int .i64 0))) := by
    intro w1 w2 w3 vo' a3 c3 hS1 hH1 hW1 ho1 hst1 hb2 hW3 hG3 hO3; have hR1 : SgR w1 b lim z (.slice a N cp) vo' (H.set x.at_ (cntE x)) [] := ⟨hS1, by rw [hlen]; exact hH1, hW1⟩
    have hR2 := hR1.go hb2; obtain ⟨g1, g2, g3, g4, g5, g6, g7⟩ := ggrown (e := e) hR2 (by rw [hlen]; exact hW3) hG3 hO3; have hsz : w.heap.size ≤ w2.heap.size := Nat.le_trans hst1.size hb2.size; refine ⟨⟨⟨_, g1.cell 3⟩, g1.froz 3, ⟨_, g1.cell 4⟩, g1.froz 4⟩, vo', (g2.setCell_far g4 _).setCell_far g4 _, ⟨(g1.set 3 _).set 4 _, Win.nil_ _ _ _, (g3.setCell_far g5 _).setCell_far g5 _⟩, fun k hk => (g6 k hk).imp id (fun h => by omega), ?_⟩; have s1 := hst1.mono_ (rowsG b (.slice a N cp) vo) (fun k hk => by simp only [rowsG, List.mem_cons, List.mem_append] at hk ⊢; rcases hk with h | h <;> simp [h]); have s2 := s1.trans (Step.of_below _ hb2); rw [show rowsG b (.slice a N cp) vo = rowsG b (.slice a N cp) vo' by simp only [rowsG, ho1]] at s2 ⊢; refine (((s2.trans g7).trans (step_setCell _ _ _ _ (by simp [rowsG]))).trans (step_setCell _ _ _ _ (by simp [rowsG]))).widen fun k hk => ?_
    simp only [rowsG, Value.owner, List.nil_append, List.mem_cons, List.mem_append] at hk ⊢; rcases hk with h | h
    · exact .inl (.inl h)
    · exact .inl (.inr (.inr h))
  have HK := hid hK; clear hK hlen h hx hN; generalize (valE e) = V at *
  generalize (H.set x.at_ (cntE x)).map valE = XS at *
  go_enter Tryz.func54, Tryz.ntmps54; (go_wp2_with fail); refine HE.out.mono ?_; rintro q w1 ⟨rfl, vo', hS1, hH1, hW1, ho1, hst1⟩; have hb2 : Below w1.heap.size w1 (w1.alloc (.cells #[V] 20)) := up_alloc (Below.refl _ _) _; have HA := hid (fun w3 a3 c3 => HK.out w1 _ w3 vo' a3 c3 hS1 hH1 hW1 ho1 hst1 hb2); have h3 := hS1.cell 3; have HH1 := hid hH1; clear HK HE hS1 hH1 hW1 ho1 hst1 hb2; rcases hform with rfl | ⟨d, zz, rfl⟩
  all_goals
    go_wp2_with (at_builtin; refine wpList_append_win rfl _ _ _ rfl Tryz.underlying67 info_any rfl rfl (HH1.out.alloc _) _ rfl 1 [_] (src_one _ Tryz.underlying67 _ _ _ ?e3 rfl) ?e1 ?e2 ?_)
    case e1 => unfold maxLen; omega
    case e2 => omega
    case e3 => rfl
    intro v3 w3 hW3 hG3 hO3; obtain ⟨a3, c3, rfl, _, _⟩ := hW3.out.slice_form; have HP := hid (HA.out w3 a3 c3 hW3.out hG3.out (by simpa using hO3.out)); obtain ⟨⟨⟨u3, x3⟩, y3, ⟨u4, x4⟩, y4⟩, _⟩ := HP.out; clear hW3 hG3 hO3 HA; go_wp2; go_ret; obtain ⟨vo2, p1, p2, p3, p4⟩ := HP.out.2; exact ⟨_, vo2, rfl, p1, p2, p3, p4⟩
structure SgP (w w' : World) (b lim z : Nat) (vh vo vh' vo' : Value) (H : List Ev) (op : List Cn) : Prop where
  sg : SgR w' b lim z vh' vo' H op
  step : Step (rowsG b vh vo) (rowsG b vh' vo') w w'
theorem SgP.go {w w' w2 : World} {b lim z : Nat} {vh vo vh' vo' : Value} {H : List Ev} {op : List Cn} (h : SgP w w' b lim z vh vo vh' vo' H op) (k : Below w'.heap.size w' w2) : SgP w w2 b lim z vh vo vh' vo' H op :=
  ⟨h.sg.go k, h.step.trans (Step.of_below _ k)⟩
theorem gcount_at {w : World} {b lim z : Nat} {vh vo : Value} {H : List Ev} {op : List Cn} (h : SgR w b lim z vh vo H op) (hd : op.length ≤ 90000) (hn : ∀ x ∈ op, x.n ≤ 100000) :
    Calls Tryz.prog 58 #[vo] w fun r w' => r = .returned (.tuple #[]) ∧ SgP w w' b lim z vh vo vh vo H (incN op) := by
  refine (scount_any h.wo (by omega) hn).mono ?_; rintro r w1 ⟨rfl, hW, hS⟩; have hvo := h.wo.apart2 h.wh (by decide); have hbo := h.wo.apart h.blk (by decide); refine ⟨rfl, ⟨(hS.block b h.blk.lt hbo).trans h.blk, h.wh.keep fun k hk => hS.block k (h.wh.lt k hk) (hvo k hk), by rw [incN_length]; exact hW⟩, hS.mono_ _ fun k hk => by simp [rowsG, hk]⟩
theorem gend_p {w : World} {b lim z : Nat} {vh vo : Value} {H : List Ev} {x : Cn} {r : List Cn} (h : SgR w b lim z vh vo H (x :: r)) (hd : r.length ≤ 90000) (hx : x.at_ < H.length ∧ x.n ≤ 100000) (hl : H.length ≤ 90000) :
    Calls Tryz.prog 57 #[.pointer (some ⟨b, 0, none⟩)] w fun q w' => q = .returned (.tuple #[]) ∧ ∃ vo', SgP w w' b lim z vh vo vh vo' (H.set x.at_ (cntE x)) r := by
  refine (gend_at h.blk h.wh h.wo (by omega) hx (by omega)).mono ?_; rintro q w1 ⟨rfl, vo', h1, h2, h3, h4, h5⟩; refine ⟨rfl, vo', ⟨h1, by rw [List.length_set]; exact h2, h3⟩, ?_⟩; have := h5.mono_ (rowsG b vh vo) (fun k hk => by simp only [rowsG, List.mem_cons, List.mem_append] at hk ⊢; rcases hk with h | h <;> simp [h])
  rwa [show rowsG b vh vo = rowsG b vh vo' by simp only [rowsG, h4]] at this ⊢
theorem genter_p {w : World} {b lim z : Nat} {vh vo : Value} {H : List Ev} {r : List Cn} (h : SgR w b lim z vh vo H r) (hd : r.length ≤ 90000) (x : Cn) :
    Calls Tryz.prog 59 #[.pointer (some ⟨b, 5, none⟩), .agg #[.bool x.m, .int .i64 x.c, .int .i64 (x.at_ : Int), .int .i64 (x.n : Int)]] w fun q w' => q = .returned (.tuple #[]) ∧ ∃ vo', SgP w w' b lim z vh vo vh vo' H (x :: r) := by
  refine (senter_any h.blk h.wo (by omega) x).mono ?_; rintro q w1 ⟨rfl, vo', h1, h2, h3⟩; have hvo := h.wo.apart2 h.wh (by decide); have hbv := h.wh.apart h.blk (by decide); refine ⟨rfl, vo', ⟨h1, h.wh.keep fun k hk => h3.block k (h.wh.lt k hk) (fun e => ?_), h2⟩, ?_⟩
  · rcases List.mem_cons.1 e with rfl | e
    · exact hbv hk
    · exact hvo k hk e
  · refine ⟨h3.os, h3.tape, h3.output, h3.size, fun k hk hn => h3.block k hk (fun e => hn ?_), fun k hk => ?_⟩
    · simp only [rowsG, List.mem_cons, List.mem_append] at e ⊢
      rcases e with h | h <;> simp [h]
    · simp only [rowsG, List.mem_cons, List.mem_append] at hk ⊢
      rcases hk with hk | hk | hk
      · exact .inl (.inl hk)
      · exact .inl (.inr (.inl hk))
      · rcases h3.foot k (List.mem_cons_of_mem _ hk) with h | h
        · rcases List.mem_cons.1 h with h | h
          · exact .inl (.inl h)
          · exact .inl (.inr (.inr h))
        · exact .inr h
theorem gpush {w w1 w2 w3 : World} {b lim z z' : Nat} {vh vo vh1 vo1 v3 : Value} {H : List Ev} {op : List Cn} {e : Ev} (hP : SgP w w1 b lim z vh vo vh1 vo1 H op) (hb2 : Below w1.heap.size w1 w2)
    (hW : Win w3 20 1 v3 (H.length + 1) (H.map valE ++ [valE e])) (hG : w2.grownBy w3 vh1.ownBlock) (hO : v3.ownBlock = vh1.ownBlock ∨ v3.ownBlock = some w2.heap.size ∧ w2.heap.size < w3.heap.size) :
    ((∃ u, w3.cell? ⟨b, 3, none⟩ = some u) ∧ w3.frozen? ⟨b, 3, none⟩ = false ∧ w3.cell? ⟨b, 4, none⟩ = some (.int .i64 (z : Int)) ∧ w3.frozen? ⟨b, 4, none⟩ = false) ∧
    ∃ vh' vo', SgP w ((w3.setCell ⟨b, 3, none⟩ v3).setCell ⟨b, 4, none⟩ (.int .i64 (z' : Int))) b lim z' vh vo vh' vo' (H ++ [e]) op := by
  have h2 := hP.sg.go hb2; obtain ⟨g1, g2, g3, g4, g5, g6, g7⟩ := ggrown (e := e) h2 hW hG hO; refine ⟨⟨⟨_, g1.cell 3⟩, g1.froz 3, g1.cell 4, g1.froz 4⟩, v3, vo1, ⟨(g1.set 3 _).set 4 _, (g2.setCell_far g4 _).setCell_far g4 _, (g3.setCell_far g5 _).setCell_far g5 _⟩, ?_⟩; have s2 := hP.step.trans (Step.of_below _ hb2); exact ((s2.trans g7).trans (step_setCell _ _ _ _ (by simp [rowsG]))).trans (step_setCell _ _ _ _ (by simp [rowsG]))
end
section
open Go.Lib
theorem run_over (D lim e : Nat) : ∀ l, runPp D lim (.over e) l = (.over e, [])
  | [] => rfl
  | b :: l => by simp only [runPp, stepPp, run_over D lim e l, List.append_nil]
theorem step_err_over {D lim : Nat} {s : Pp} {b : UInt8} (h : (stepPp D lim s b).2.2 ≠ 0) : ∃ e, (stepPp D lim s b).1 = .over e ∧ overE e = (stepPp D lim s b).2.2 := by
  cases s with
  | over e => exact ⟨e, rfl, rfl⟩
  | live r g q =>
    simp only [stepPp] at h ⊢; split
    · rename_i h1
      exact ⟨_, rfl, by unfold overE; rw [if_neg h1]⟩
    · rename_i h1
      rw [if_neg h1] at h; exact absurd h h1
theorem run_prefix (D lim : Nat) (b : List UInt8) : ∀ (a : List UInt8) (s : Pp), ∃ t, (batchPp D lim s (a ++ b)).1 = (runPp D lim s a).2 ++ t
  | [], s => ⟨_, rfl⟩
  | x :: a, s => by
    simp only [List.cons_append, batchPp, runPp]; by_cases h : (stepPp D lim s x).2.2 ≠ 0
    · rw [if_pos h]
      obtain ⟨e, he, _⟩ := step_err_over h; rw [he, run_over]; exact ⟨[], by simp⟩
    · rw [if_neg h]
      obtain ⟨t, ht⟩ := run_prefix D lim b a (stepPp D lim s x).1; exact ⟨t, by simp only [ht, List.append_assoc]⟩
theorem runPp_snoc (D lim : Nat) (b : UInt8) : ∀ (a : List UInt8) (s : Pp), runPp D lim s (a ++ [b]) = ((stepPp D lim (runPp D lim s a).1 b).1, (runPp D lim s a).2 ++ (stepPp D lim (runPp D lim s a).1 b).2.1)
  | [], s => by simp [runPp]
  | x :: a, s => by simp only [List.cons_append, runPp, runPp_snoc D lim b a, List.append_assoc]
theorem runPp_take {D lim : Nat} {s : Pp} {l : List UInt8} {i : Nat} (h : i < l.length) : runPp D lim s (l.take (i + 1)) = ((stepPp D lim (runPp D lim s (l.take i)).1 l[i]).1, (runPp D lim s (l.take i)).2 ++ (stepPp D lim (runPp D lim s (l.take i)).1 l[i]).2.1) := by
  rw [List.take_add_one, List.getElem?_eq_getElem h]; exact runPp_snoc D lim l[i] _ s
end
end Go.Proofs.YtkgconbdmnmbnaaGreat
