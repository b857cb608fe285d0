/-
  Parts: PipG, PipH, PipI, PipLa, FmtX.
-/
import Derived.Test.YtkgconbdmnmbnaaGreatG2a
import Derived.Test.YtkgconbdmnmbnaaGreatG2b
import Derived.Deep.RegionWith
import Derived.Test.YtkgconbdmnmbnaaGreatG0p
import Derived.Test.YtkgconbdmnmbnaaGreatG1g
import Derived.Test.YtkgconbdmnmbnaaGreatG0q
import Derived.Test.YtkgconbdmnmbnaaGreatG0l
import Derived.Test.YtkgconbdmnmbnaaGreatG0o
set_option maxRecDepth 100000
set_option maxHeartbeats 16000000
open Go.Lib (hid)
namespace Go.Proofs.YtkgconbdmnmbnaaGreat
section
open Go.RowKit
open Go.Lib
def suV (f t D S L : Int) : Value := .agg #[.int .i64 f, .int .i64 t, .int .i64 D, .int .i64 S, .int .i64 L]
def fmtP (f : Int) : Prop := f = 1 ∨ f = 2 ∨ f = 3
instance (f : Int) : Decidable (fmtP f) := by unfold fmtP; infer_instance
def inP3 (n a b : Int) : Prop := a ≤ n ∧ n ≤ b
instance (n a b : Int) : Decidable (inP3 n a b) := by unfold inP3; infer_instance
def RightP (f t D S L : Int) : Prop := fmtP f ∧ fmtP t ∧ inP3 D 1 16 ∧ inP3 S 0 2000 ∧ inP3 L 0 255
instance (f t D S L : Int) : Decidable (RightP f t D S L) := by unfold RightP; infer_instance
theorem isfmt_any (n : Int) (w : World) : Calls Tryz.prog 21 #[.int .i64 n] w fun r w' => r = .returned (.bool (decide (fmtP n))) ∧ w = w' := by
  by_cases h1 : n = 1
  · subst h1
    go_enter Tryz.func21, Tryz.ntmps21; go_wp2; go_ret; exact ⟨rfl, rfl⟩
  · by_cases h2 : n = 2
    · subst h2
      go_enter Tryz.func21, Tryz.ntmps21; go_wp2; go_ret; exact ⟨rfl, rfl⟩
    · have e1 : (n == 1) = false := by rw [beq_eq_false_iff_ne]; exact h1
      have e2 : (n == 2) = false := by rw [beq_eq_false_iff_ne]; exact h2
      have e3 : (n == 3) = decide (fmtP n) := by rw [Bool.eq_iff_iff, beq_iff_eq, decide_eq_true_eq]; unfold fmtP; omega
      generalize decide (fmtP n) = B at *
      clear h1 h2; go_enter Tryz.func21, Tryz.ntmps21; go_wp2; go_ret; exact ⟨rfl, rfl⟩
theorem isin_any (n a b : Int) (w : World) : Calls Tryz.prog 22 #[.int .i64 n, .int .i64 a, .int .i64 b] w fun r w' => r = .returned (.bool (decide (inP3 n a b))) ∧ w = w' := by
  by_cases h1 : a ≤ n
  · have e1 : (a ≤ n) = True := by simp [h1]
    by_cases h2 : n ≤ b
    · have e2 : (n ≤ b) = True := by simp [h2]
      rw [decide_eq_true (show inP3 n a b from ⟨h1, h2⟩)]; clear h1 h2; go_enter Tryz.func22, Tryz.ntmps22; go_wp2; go_ret; exact ⟨rfl, rfl⟩
    · have e2 : (n ≤ b) = False := by simp only [eq_iff_iff, iff_false]; omega
      rw [decide_eq_false (fun h : inP3 n a b => h2 h.2)]; clear h1 h2; go_enter Tryz.func22, Tryz.ntmps22; go_wp2; go_ret; exact ⟨rfl, rfl⟩
  · have e1 : (a ≤ n) = False := by simp only [eq_iff_iff, iff_false]; omega
    rw [decide_eq_false (fun h : inP3 n a b => h1 h.1)]; clear h1; go_enter Tryz.func22, Tryz.ntmps22; go_wp2; go_ret; exact ⟨rfl, rfl⟩
theorem piright_any (f t D S L : Int) (w : World) : Calls Tryz.prog 11 #[suV f t D S L] w fun r w' => r = .returned (.bool (decide (RightP f t D S L))) ∧ Below w.heap.size w w' := by
  have HB := hid (up_alloc (Below.refl w.heap.size w) (.cells #[.int .i64 f, .int .i64 t, .int .i64 D, .int .i64 S, .int .i64 L] 23)); have H1 := hid (fun W => isfmt_any f W); have H2 := hid (fun W => isfmt_any t W); have H3 := hid (fun W => isin_any D 1 16 W); have H4 := hid (fun W => isin_any S 0 2000 W); have H5 := hid (fun W => isin_any L 0 255 W); have hR : decide (RightP f t D S L) = (decide (fmtP f) && (decide (fmtP t) && (decide (inP3 D 1 16) && (decide (inP3 S 0 2000) && decide (inP3 L 0 255))))) := by
    rw [Bool.eq_iff_iff]; simp only [decide_eq_true_eq, Bool.and_eq_true]; rfl
  rw [hR]; clear hR; generalize decide (fmtP f) = B1 at *
  generalize decide (fmtP t) = B2 at *
  generalize decide (inP3 D 1 16) = B3 at *
  generalize decide (inP3 S 0 2000) = B4 at *
  generalize decide (inP3 L 0 255) = B5 at *
  unfold suV; cases B1 with
  | false =>
    go_enter Tryz.func11, Tryz.ntmps11; (go_wp2_with fail); refine (H1.out _).mono ?_; rintro r w1 ⟨rfl, rfl⟩; go_wp2; go_ret; exact ⟨rfl, HB.out⟩
  | true =>
    cases B2 with
    | false =>
      go_enter Tryz.func11, Tryz.ntmps11; (go_wp2_with fail); refine (H1.out _).mono ?_; rintro r w1 ⟨rfl, rfl⟩; (go_wp2_with fail); refine (H2.out _).mono ?_; rintro r w1 ⟨rfl, rfl⟩; go_wp2; go_ret; exact ⟨rfl, HB.out⟩
    | true =>
      cases B3 with
      | false =>
        go_enter Tryz.func11, Tryz.ntmps11; (go_wp2_with fail); refine (H1.out _).mono ?_; rintro r w1 ⟨rfl, rfl⟩; (go_wp2_with fail); refine (H2.out _).mono ?_; rintro r w1 ⟨rfl, rfl⟩; (go_wp2_with fail); refine (H3.out _).mono ?_; rintro r w1 ⟨rfl, rfl⟩; go_wp2; go_ret; exact ⟨rfl, HB.out⟩
      | true =>
        cases B4 with
        | false =>
          go_enter Tryz.func11, Tryz.ntmps11; (go_wp2_with fail); refine (H1.out _).mono ?_; rintro r w1 ⟨rfl, rfl⟩; (go_wp2_with fail); refine (H2.out _).mono ?_; rintro r w1 ⟨rfl, rfl⟩; (go_wp2_with fail); refine (H3.out _).mono ?_; rintro r w1 ⟨rfl, rfl⟩; (go_wp2_with fail); refine (H4.out _).mono ?_; rintro r w1 ⟨rfl, rfl⟩; go_wp2; go_ret; exact ⟨rfl, HB.out⟩
        | true =>
          go_enter Tryz.func11, Tryz.ntmps11; (go_wp2_with fail); refine (H1.out _).mono ?_; rintro r w1 ⟨rfl, rfl⟩; (go_wp2_with fail); refine (H2.out _).mono ?_; rintro r w1 ⟨rfl, rfl⟩; (go_wp2_with fail); refine (H3.out _).mono ?_; rintro r w1 ⟨rfl, rfl⟩; (go_wp2_with fail); refine (H4.out _).mono ?_; rintro r w1 ⟨rfl, rfl⟩; (go_wp2_with fail); refine (H5.out _).mono ?_; rintro r w1 ⟨rfl, rfl⟩; go_wp2; go_ret; exact ⟨rfl, HB.out⟩
theorem reader_js (t S L : Int) (D : Nat) (hD : 1 ≤ D ∧ D ≤ 16) (w : World) : Calls Tryz.prog 23 #[suV 1 t D S L] w fun r w' => ∃ V F, r = .returned V ∧ RdAt w' D V F (rs0 1) ∧ Below w.heap.size w w' ∧ (∀ k ∈ F, w.heap.size ≤ k) := by
  have HB := hid (up_alloc (Below.refl w.heap.size w) (.cells #[.int .i64 1, .int .i64 t, .int .i64 (D : Int), .int .i64 S, .int .i64 L] 23)); have HN := hid (fun W => jnew_any D hD W); unfold suV; clear hD; go_enter Tryz.func23, Tryz.ntmps23; (go_wp2_with fail); refine (HN.out _).mono ?_; rintro r w1 ⟨rfl, hp, hb⟩; have HF : Hid (∃ F, RdAt w1 D (.iface 86 (.pointer (some ⟨w.heap.size + 1, 0, none⟩))) F (rs0 1) ∧ Below w.heap.size w w1 ∧ (∀ k ∈ F, w.heap.size ≤ k)) := hid (by
    have hp2 : PAt w1 (w.heap.size + 1) 0 D j0 := by simpa using hp
    exact ⟨_, ⟨_, rfl, rfl, hp2⟩, up_trans HB.out hb, fun k hk => by simp at hk; omega⟩)
  clear hp hb HN HB; go_wp2; go_ret; obtain ⟨F, h1, h2, h3⟩ := HF.out; exact ⟨.iface 86 (.pointer (some ⟨w.heap.size + 1, 0, none⟩)), F, rfl, h1, h2, h3⟩
theorem reader_cb (t S L : Int) (D : Nat) (hD : 1 ≤ D ∧ D ≤ 16) (w : World) : Calls Tryz.prog 23 #[suV 2 t D S L] w fun r w' => ∃ V F, r = .returned V ∧ RdAt w' D V F (rs0 2) ∧ Below w.heap.size w w' ∧ (∀ k ∈ F, w.heap.size ≤ k) := by
  have HB := hid (up_alloc (Below.refl w.heap.size w) (.cells #[.int .i64 2, .int .i64 t, .int .i64 (D : Int), .int .i64 S, .int .i64 L] 23)); have HN := hid (fun W => cnew_any D hD W); unfold suV; clear hD; go_enter Tryz.func23, Tryz.ntmps23; (go_wp2_with fail); refine (HN.out _).mono ?_; rintro r w1 ⟨rfl, hp, hb⟩; have HF : Hid (∃ F, RdAt w1 D (.iface 88 (.pointer (some ⟨w.heap.size + 1, 0, none⟩))) F (rs0 2) ∧ Below w.heap.size w w1 ∧ (∀ k ∈ F, w.heap.size ≤ k)) := hid (by
    have hp2 : StP w1 (w.heap.size + 1) 0 D ci0 (.slice none 0 0) (.slice none 0 0) := by simpa using hp
    exact ⟨_, ⟨_, _, _, rfl, rfl, hp2⟩, up_trans HB.out hb, fun k hk => by simp [Value.owner] at hk; omega⟩)
  clear hp hb HN HB; go_wp2; go_ret; obtain ⟨F, h1, h2, h3⟩ := HF.out; exact ⟨.iface 88 (.pointer (some ⟨w.heap.size + 1, 0, none⟩)), F, rfl, h1, h2, h3⟩
theorem reader_pk (t S L : Int) (D : Nat) (hD : 1 ≤ D ∧ D ≤ 16) (w : World) : Calls Tryz.prog 23 #[suV 3 t D S L] w fun r w' => ∃ V F, r = .returned V ∧ RdAt w' D V F (rs0 3) ∧ Below w.heap.size w w' ∧ (∀ k ∈ F, w.heap.size ≤ k) := by
  have HB := hid (up_alloc (Below.refl w.heap.size w) (.cells #[.int .i64 3, .int .i64 t, .int .i64 (D : Int), .int .i64 S, .int .i64 L] 23)); have HN := hid (fun W => pnew_any D hD W); unfold suV; clear hD; go_enter Tryz.func23, Tryz.ntmps23; (go_wp2_with fail); refine (HN.out _).mono ?_; rintro r w1 ⟨rfl, hp, hb⟩; have HF : Hid (∃ F, RdAt w1 D (.iface 90 (.pointer (some ⟨w.heap.size + 1, 0, none⟩))) F (rs0 3) ∧ Below w.heap.size w w1 ∧ (∀ k ∈ F, w.heap.size ≤ k)) := hid (by
    have hp2 : StPm w1 (w.heap.size + 1) 0 D pm0 (.slice none 0 0) (.slice none 0 0) := by simpa using hp
    exact ⟨_, ⟨_, _, _, rfl, rfl, hp2⟩, up_trans HB.out hb, fun k hk => by simp [Value.owner] at hk; omega⟩)
  clear hp hb HN HB; go_wp2; go_ret; obtain ⟨F, h1, h2, h3⟩ := HF.out; exact ⟨.iface 90 (.pointer (some ⟨w.heap.size + 1, 0, none⟩)), F, rfl, h1, h2, h3⟩
theorem reader_any (f t S L : Int) (D : Nat) (hf : fmtP f) (hD : 1 ≤ D ∧ D ≤ 16) (w : World) : Calls Tryz.prog 23 #[suV f t D S L] w fun r w' => ∃ V F, r = .returned V ∧ RdAt w' D V F (rs0 f) ∧ Below w.heap.size w w' ∧ (∀ k ∈ F, w.heap.size ≤ k) := by
  rcases hf with rfl | rfl | rfl
  · exact reader_js t S L D hD w
  · exact reader_cb t S L D hD w
  · exact reader_pk t S L D hD w
theorem writer_js {pr : Bool → Nat → List UInt8} {w0 : World} (hP : PrintC w0 pr) (f S L D : Int) (w : World) (hw : Below w0.heap.size w0 w) : Calls Tryz.prog 24 #[suV f 1 D S L] w fun r w' => ∃ V F, r = .returned V ∧ WtAt w0 w' V F (ws0 pr 1) ∧ Below w.heap.size w w' ∧ (∀ k ∈ F, w.heap.size ≤ k) := by
  have k1 := up_alloc (Below.refl w.heap.size w) (.cells #[.int .i64 f, .int .i64 1, .int .i64 D, .int .i64 S, .int .i64 L] 23); have HW : Hid (JW w0 ((w.alloc (.cells #[.int .i64 f, .int .i64 1, .int .i64 D, .int .i64 S, .int .i64 L] 23)).alloc (.cells #[.int .i64 0, .slice none 0 0] 95)) (w.heap.size + 1) [] ⟨[], false⟩) := hid (by
    have := jw_new w0 (w.alloc (.cells #[.int .i64 f, .int .i64 1, .int .i64 D, .int .i64 S, .int .i64 L] 23)) (hw.trans (k1.mono hw.size)); simpa using this)
  have HB := hid (up_alloc k1 (.cells #[.int .i64 0, .slice none 0 0] 95)); have HP := hid hP; unfold suV; clear hw k1; go_enter Tryz.func24, Tryz.ntmps24; go_wp2; go_ret; refine ⟨_, _, rfl, ⟨_, _, rfl, rfl, HW.out, hP⟩, HB.out, fun k hk => ?_⟩; simp only [List.mem_singleton] at hk; omega
theorem writer_cb {pr : Bool → Nat → List UInt8} {w0 : World} (hP : PrintC w0 pr) (f S L D : Int) (w : World) (hw : Below w0.heap.size w0 w) : Calls Tryz.prog 24 #[suV f 2 D S L] w fun r w' => ∃ V F, r = .returned V ∧ WtAt w0 w' V F (ws0 pr 2) ∧ Below w.heap.size w w' ∧ (∀ k ∈ F, w.heap.size ≤ k) := by
  have k1 := up_alloc (Below.refl w.heap.size w) (.cells #[.int .i64 f, .int .i64 2, .int .i64 D, .int .i64 S, .int .i64 L] 23); have HW : Hid (QW w0 ((w.alloc (.cells #[.int .i64 f, .int .i64 2, .int .i64 D, .int .i64 S, .int .i64 L] 23)).alloc (.cells #[.slice none 0 0, .bool false] 100)) (w.heap.size + 1) [] ⟨[], false⟩) := hid (by
    have := qw_new w0 (w.alloc (.cells #[.int .i64 f, .int .i64 2, .int .i64 D, .int .i64 S, .int .i64 L] 23)) (hw.trans (k1.mono hw.size)); simpa using this)
  have HB := hid (up_alloc k1 (.cells #[.slice none 0 0, .bool false] 100)); have HP := hid hP; unfold suV; clear hw k1; go_enter Tryz.func24, Tryz.ntmps24; go_wp2; go_ret; refine ⟨_, _, rfl, ⟨_, _, rfl, rfl, HW.out⟩, HB.out, fun k hk => ?_⟩; simp only [List.mem_singleton] at hk; omega
theorem writer_pk {pr : Bool → Nat → List UInt8} {w0 : World} (hP : PrintC w0 pr) (f S L D : Int) (w : World) (hw : Below w0.heap.size w0 w) : Calls Tryz.prog 24 #[suV f 3 D S L] w fun r w' => ∃ V F, r = .returned V ∧ WtAt w0 w' V F (ws0 pr 3) ∧ Below w.heap.size w w' ∧ (∀ k ∈ F, w.heap.size ≤ k) := by
  have k1 := up_alloc (Below.refl w.heap.size w) (.cells #[.int .i64 f, .int .i64 3, .int .i64 D, .int .i64 S, .int .i64 L] 23); have HW : Hid (PoW w0 ((w.alloc (.cells #[.int .i64 f, .int .i64 3, .int .i64 D, .int .i64 S, .int .i64 L] 23)).alloc (.cells #[.slice none 0 0, .bool false] 105)) (w.heap.size + 1) [] ⟨[], false⟩) := hid (by
    have := pow_new w0 (w.alloc (.cells #[.int .i64 f, .int .i64 3, .int .i64 D, .int .i64 S, .int .i64 L] 23)) (hw.trans (k1.mono hw.size)); simpa using this)
  have HB := hid (up_alloc k1 (.cells #[.slice none 0 0, .bool false] 105)); have HP := hid hP; unfold suV; clear hw k1; go_enter Tryz.func24, Tryz.ntmps24; go_wp2; go_ret; refine ⟨_, _, rfl, ⟨_, _, rfl, rfl, HW.out⟩, HB.out, fun k hk => ?_⟩; simp only [List.mem_singleton] at hk; omega
theorem writer_any {pr : Bool → Nat → List UInt8} {w0 : World} (hP : PrintC w0 pr) (f t S L D : Int) (ht : fmtP t) (w : World) (hw : Below w0.heap.size w0 w) : Calls Tryz.prog 24 #[suV f t D S L] w fun r w' => ∃ V F, r = .returned V ∧ WtAt w0 w' V F (ws0 pr t) ∧ Below w.heap.size w w' ∧ (∀ k ∈ F, w.heap.size ≤ k) := by
  rcases ht with rfl | rfl | rfl
  · exact writer_js hP f S L D w hw
  · exact writer_cb hP f S L D w hw
  · exact writer_pk hP f S L D w hw
theorem wants_js (b : Nat) (w : World) : Calls Tryz.prog 25 #[.iface 92 (.pointer (some ⟨b, 0, none⟩))] w fun r w' => r = .returned (.bool false) ∧ w = w' := by
  have a1 : ∀ W, (Instr.typeAssert (.iface 92 (.pointer (some ⟨b, 0, none⟩))) 58 101 true).run Tryz.prog W = .ok (.tuple #[.pointer none, .bool false]) W := fun W => by kernel_rfl
  go_enter Tryz.func25, Tryz.ntmps25; go_wp2; go_ret; exact ⟨rfl, rfl⟩
theorem wants_cb (b : Nat) (w : World) : Calls Tryz.prog 25 #[.iface 96 (.pointer (some ⟨b, 0, none⟩))] w fun r w' => r = .returned (.bool false) ∧ w = w' := by
  have a1 : ∀ W, (Instr.typeAssert (.iface 96 (.pointer (some ⟨b, 0, none⟩))) 58 101 true).run Tryz.prog W = .ok (.tuple #[.pointer none, .bool false]) W := fun W => by kernel_rfl
  go_enter Tryz.func25, Tryz.ntmps25; go_wp2; go_ret; exact ⟨rfl, rfl⟩
theorem wants_pk (b : Nat) (w : World) : Calls Tryz.prog 25 #[.iface 101 (.pointer (some ⟨b, 0, none⟩))] w fun r w' => r = .returned (.bool true) ∧ w = w' := by
  have a1 : ∀ W, (Instr.typeAssert (.iface 101 (.pointer (some ⟨b, 0, none⟩))) 58 101 true).run Tryz.prog W = .ok (.tuple #[.pointer (some ⟨b, 0, none⟩), .bool true]) W := fun W => by kernel_rfl
  go_enter Tryz.func25, Tryz.ntmps25; go_wp2; go_ret; exact ⟨rfl, rfl⟩
theorem wants_any {pr : Bool → Nat → List UInt8} {w0 w : World} {V : Value} {F : List Nat} {t : Int} (ht : fmtP t) (h : WtAt w0 w V F (ws0 pr t)) : Calls Tryz.prog 25 #[V] w fun r w' => r = .returned (.bool (decide (t = 3))) ∧ w = w' := by
  rcases ht with rfl | rfl | rfl
  · obtain ⟨b, F', rfl, _⟩ := h
    exact wants_js b w
  · obtain ⟨b, F', rfl, _⟩ := h
    exact wants_cb b w
  · obtain ⟨b, F', rfl, _⟩ := h
    exact wants_pk b w
end
section
open Go.RowKit
open Go.Lib
theorem pp0_live (pr : Bool → Nat → List UInt8) (f t : Int) : pp0 pr f t = .live (rs0 f) (if t = 3 then some gs0 else none) (ws0 pr t) := rfl
structure NewI (w W : World) (D pb : Nat) (pr : Bool → Nat → List UInt8) (f t : Int) (RV WV : Value) (FR FW : List Nat) : Prop where
  blk : Blk W pb (pipC 0 RV (.pointer none) WV) 62
  rd : RdAt W D RV FR (rs0 f)
  wt : WtAt w W WV FW (ws0 pr t)
  lo : w.heap.size ≤ pb
  low : ∀ k ∈ FR ++ FW, w.heap.size ≤ k ∧ k < pb
  ap : ∀ k ∈ FR, k ∉ FW
  bel : Below w.heap.size w W
theorem newI_a {w w1 w2 : World} {D : Nat} {pr : Bool → Nat → List UInt8} {f t : Int} {RV WV : Value} {FR FW : List Nat} (b1 : Below w.heap.size w w1) (r1 : RdAt w1 D RV FR (rs0 f)) (r2 : ∀ k ∈ FR, w.heap.size ≤ k) (b2 : Below w1.heap.size w1 w2) (q1 : WtAt w w2 WV FW (ws0 pr t)) (q2 : ∀ k ∈ FW, w1.heap.size ≤ k) :
    NewI w (w2.alloc (.cells (pipC 0 RV (.pointer none) WV) 62)) D w2.heap.size pr f t RV WV FR FW := by
  have k2 := up_alloc (Below.refl w2.heap.size w2) (.cells (pipC 0 RV (.pointer none) WV) 62); have h1 := b1.size; have h2 := b2.size; refine ⟨blk_new _ _ _, (r1.go b2).go k2, q1.go k2, by omega, fun k hk => ?_, fun k hk hm => ?_, up_trans (up_trans b1 b2) k2⟩
  · rcases List.mem_append.1 hk with hk | hk
    · exact ⟨r2 k hk, (r1.go b2).lt k hk⟩
    · exact ⟨by have := q2 k hk; omega, q1.lt k hk⟩
  · have := r1.lt k hk
    have := q2 k hm; omega
theorem NewI.nost {w W : World} {D pb lim : Nat} {pr : Bool → Nat → List UInt8} {f t : Int} {RV WV : Value} {FR FW : List Nat} (h : NewI w W D pb pr f t RV WV FR FW) (ht : t ≠ 3) : ∃ F, PipAt w W pb D lim F (pp0 pr f t) := by
  rw [pp0_live, if_neg ht]; exact ⟨_, RV, _, WV, FR, [], FW, h.blk, h.rd, ⟨rfl, rfl⟩, h.wt, h.lo, fun k hk => by
    have := h.low k (by simpa using hk); exact ⟨this.1, by omega⟩, by simpa using h.ap, by simp, h.bel, rfl⟩
theorem NewI.st {w W W2 : World} {D pb lim b : Nat} {pr : Bool → Nat → List UInt8} {f : Int} {RV WV vh vo : Value} {FR FW : List Nat} (h : NewI w W D pb pr f 3 RV WV FR FW) (hs : StG W2 b lim vh vo gs0) (hr : ∀ k ∈ rowsG b vh vo, W.heap.size ≤ k) (k2 : Below W.heap.size W W2) :
    ∃ F, PipAt w (W2.setCell ⟨pb, 2, none⟩ (.pointer (some ⟨b, 0, none⟩))) pb D lim F (pp0 pr f 3) := by
  have hpb : pb < W.heap.size := h.blk.lt; have b2 := h.blk.go k2; have hb3 : Blk (W2.setCell ⟨pb, 2, none⟩ (.pointer (some ⟨b, 0, none⟩))) pb (pipC 0 RV (.pointer (some ⟨b, 0, none⟩)) WV) 62 := by
    have := b2.set 2 (.pointer (some ⟨b, 0, none⟩)); simpa [pipC] using this
  have hst : ∀ k, k ≠ pb → (W2.setCell ⟨pb, 2, none⟩ (.pointer (some ⟨b, 0, none⟩))).heap[k]? = W2.heap[k]? := fun k hk => Below.heap_setCell W2 _ _ k hk
  have hbel : Below w.heap.size w (W2.setCell ⟨pb, 2, none⟩ (.pointer (some ⟨b, 0, none⟩))) := up_set (up_trans h.bel k2) h.lo _ _; rw [pp0_live, if_pos rfl]; refine ⟨_, RV, _, WV, FR, rowsG b vh vo, FW, hb3, (h.rd.go k2).keep fun k hk => hst k (by have := (h.low k (by simp [hk])).2; omega), ⟨b, vh, vo, rfl, rfl, hs.keep fun k hk => hst k (by have := hr k hk; omega)⟩, (h.wt.go k2).keep (fun k hk => hst k (by have := (h.low k (by simp [hk])).2; omega)) hbel, h.lo, fun k hk => ?_, fun k hk hm => ?_, fun k hk hm => ?_, hbel, rfl⟩
  · rcases List.mem_append.1 hk with hk | hk
    · have := h.low k (by simp [hk])
      exact ⟨this.1, by omega⟩
    · rcases List.mem_append.1 hk with hk | hk
      · have := hr k hk
        have := h.lo; exact ⟨by omega, by omega⟩
      · have := h.low k (by simp [hk])
        exact ⟨this.1, by omega⟩
  · rcases List.mem_append.1 hm with hm | hm
    · have := hr k hm
      have := (h.low k (by simp [hk])).2; omega
    · exact h.ap k hk hm
  · have := hr k hk
    have := (h.low k (by simp [hm])).2; omega
theorem pinew_no (f t D S L : Int) (h : ¬ RightP f t D S L) (w : World) : Calls Tryz.prog 13 #[suV f t D S L] w fun r w' => r = .returned (.pointer none) ∧ Below w.heap.size w w' := by
  have HB := hid (up_alloc (Below.refl w.heap.size w) (.cells #[.int .i64 f, .int .i64 t, .int .i64 D, .int .i64 S, .int .i64 L] 23)); have HR := hid (fun W => piright_any f t D S L W); rw [decide_eq_false h] at HR; unfold suV at HR ⊢; clear h; go_enter Tryz.func13, Tryz.ntmps13; (go_wp2_with fail); refine (HR.out _).mono ?_; rintro r w1 ⟨rfl, b1⟩; have HB1 := hid (up_trans HB.out b1); clear b1; go_wp2; go_ret; exact ⟨rfl, HB1.out⟩
theorem WtAt.form {w0 w : World} {V : Value} {F : List Nat} {q : Ws} (h : WtAt w0 w V F q) : ∃ d b, V = .iface d (.pointer (some ⟨b, 0, none⟩)) := by
  cases q with
  | js pr q => obtain ⟨b, _, rfl, _⟩ := h; exact ⟨_, b, rfl⟩
  | cb q => obtain ⟨b, _, rfl, _⟩ := h; exact ⟨_, b, rfl⟩
  | pk q => obtain ⟨b, _, rfl, _⟩ := h; exact ⟨_, b, rfl⟩
structure SuI (w W : World) (f t D S L : Int) : Prop where
  bel : Below w.heap.size w W
  blk : Blk W w.heap.size #[.int .i64 f, .int .i64 t, .int .i64 D, .int .i64 S, .int .i64 L] 23
theorem SuI.go {w W W2 : World} {f t D S L : Int} (h : SuI w W f t D S L) (k : Below W.heap.size W W2) : SuI w W2 f t D S L := ⟨up_trans h.bel k, h.blk.go k⟩
theorem SuI.drew {w W : World} {f t D S L : Int} (h : SuI w W f t D S L) : SuI w W.drew f t D S L := ⟨below_drw h.bel, h.blk.drew⟩
theorem SuI.cells {w W : World} {f t D S L : Int} (h : SuI w W f t D S L) : W.cell? ⟨w.heap.size, 0, none⟩ = some (.int .i64 f) ∧ W.cell? ⟨w.heap.size, 1, none⟩ = some (.int .i64 t) ∧ W.cell? ⟨w.heap.size, 2, none⟩ = some (.int .i64 D) ∧ W.cell? ⟨w.heap.size, 3, none⟩ = some (.int .i64 S) ∧ W.cell? ⟨w.heap.size, 4, none⟩ = some (.int .i64 L) :=
  ⟨h.blk.cell 0, h.blk.cell 1, h.blk.cell 2, h.blk.cell 3, h.blk.cell 4⟩
theorem pinew_ok {pr : Bool → Nat → List UInt8} {w : World} (hP : PrintC w pr) (f t L : Int) (D S : Nat) (h : RightP f t D S L) : Calls Tryz.prog 13 #[suV f t D S L] w fun r w' => ∃ pb F, r = .returned (.pointer (some ⟨pb, 0, none⟩)) ∧ PipAt w w' pb D S F (pp0 pr f t) := by
  have hh := h; obtain ⟨hf, ht, hD, hS, _⟩ := hh; have hD2 : 1 ≤ D ∧ D ≤ 16 := by unfold inP3 at hD; omega
  have hS2 : (min (max (S : Int) 0) 2000).toNat = S := by unfold inP3 at hS; omega
  have HR := hid (fun W => piright_any f t D S L W); rw [decide_eq_true h] at HR; have HRO := hid (fun W => reader_any f t S L D hf hD2 W); have HWO := hid (fun W hw => writer_any (w0 := w) hP f t S L D ht W hw); have HWC := hid (fun (W : World) (V : Value) (F : List Nat) (k : WtAt w W V F (ws0 pr t)) => wants_any ht k); have H0 : Hid (SuI w (w.alloc (.cells #[.int .i64 f, .int .i64 t, .int .i64 D, .int .i64 S, .int .i64 L] 23)) f t D S L) := hid ⟨up_alloc (Below.refl _ _) _, blk_new _ _ _⟩; have HST := hid (fun W => gnew_any (S : Int) W); rw [hS2] at HST; unfold suV at HR HRO HWO ⊢; clear h hf ht hD hS hD2 hS2 hP; go_enter Tryz.func13, Tryz.ntmps13; (go_wp2_with fail); refine (HR.out _).mono ?_; rintro r w1 ⟨rfl, b1⟩; have H1 := hid (H0.out.go b1); obtain ⟨c0, c1, c2, c3, c4⟩ := (H0.out.go b1).cells; clear b1 H0 HR; (go_wp2_with fail)
  go_region_with (first
    | (go_at_call 23; refine (HRO.out _).mono ?_; rintro r wa ⟨RV, FR, rfl, r1, ba, r2⟩
       obtain ⟨dR, bR, rfl⟩ := r1.form
       first
       | (have HA := hid (And.intro r1 (And.intro ba r2)); have HI := hid (H2.out.go ba))
       | (have HA := hid (And.intro r1 (And.intro ba r2)); have H3 := hid (H1.out.drew.go ba); obtain ⟨d0, d1, d2, d3, d4⟩ := (H1.out.drew.go ba).cells)
       clear r1 ba r2)
    | (go_at_call 24; first | refine (HWO.out _ H3.out.bel).mono ?_ | refine (HWO.out _ H1.out.drew.bel).mono ?_
       rintro r wb ⟨WV, FW, rfl, q1, bb, q2⟩; obtain ⟨dW, bW, rfl⟩ := q1.form
       first
       | (have HW := hid (And.intro q1 (And.intro bb q2)); have HI := hid (H3.out.go bb))
       | (have HW := hid (And.intro q1 (And.intro bb q2)); have H2 := hid (H1.out.drew.go bb); obtain ⟨d0, d1, d2, d3, d4⟩ := (H1.out.drew.go bb).cells)
       clear q1 bb q2))
  all_goals
    have HN := hid (newI_a H3.out.bel HA.out.1 (fun k hk => Nat.le_trans H1.out.bel.size (HA.out.2.2 k hk)) HW.out.2.1 HW.out.1 HW.out.2.2); have HS2 := hid (HI.out.go (up_alloc (Below.refl wb.heap.size wb) (.cells (pipC 0 (.iface dR (.pointer (some ⟨bR, 0, none⟩))) (.pointer none) (.iface dW (.pointer (some ⟨bW, 0, none⟩)))) 62))); have e3 := HS2.out.cells.2.2.2.1; have k3 := HN.out.blk.cell 3; have k2 := HN.out.blk.cell 2; have f2 := HN.out.blk.froz 2; simp only [pipC] at HN HS2 e3 k3 k2 f2; generalize hpb : wb.heap.size = pb at *
    generalize hW2 : wb.alloc (.cells #[.int .i64 ((0 : Nat) : Int), .iface dR (.pointer (some ⟨bR, 0, none⟩)), .pointer none, .iface dW (.pointer (some ⟨bW, 0, none⟩))] 62) = W2 at *
    have HWC1 := hid (HWC.out _ _ _ HN.out.wt); clear HRO HWO HWC hW2 HI; by_cases ht3 : t = 3
    · rw [decide_eq_true ht3] at HWC1
      subst ht3; (go_wp2_with fail); refine HWC1.out.mono ?_; rintro r w3 ⟨rfl, rfl⟩; (go_wp2_with fail); refine (HST.out _).mono ?_; rintro r w4 ⟨rfl, hg, hb⟩; have HF := hid (HN.out.st hg (fun k hk => by simp [rowsG, Value.owner] at hk; omega) hb); have g2 := (HN.out.blk.go hb).cell 2; have gf := (HN.out.blk.go hb).froz 2; simp only [pipC] at g2; clear hg hb; go_wp2; go_ret; obtain ⟨F, hF⟩ := HF.out; exact ⟨pb, F, rfl, hF⟩
    · rw [decide_eq_false ht3] at HWC1
      have HF := hid (HN.out.nost (lim := S) ht3); clear ht3; (go_wp2_with fail); refine HWC1.out.mono ?_; rintro r w3 ⟨rfl, rfl⟩; go_wp2; go_ret; obtain ⟨F, hF⟩ := HF.out; exact ⟨pb, F, rfl, hF⟩
end
section
open Go.RowKit
open Go.Lib
theorem PrintC.up {w w' : World} {pr : Bool → Nat → List UInt8} (h : PrintC w pr) (k : Below w.heap.size w w') : PrintC w' pr := ⟨fun y m hm W hW => h.call y m hm W (up_trans k hW), h.size⟩
theorem turn_len {lim : Nat} (hlim : lim ≤ 2000) : ∀ (L : List Ev) (g : Option Gs) (q : Ws) (told : Nat), OkOG lim g → PrW q → (∀ e ∈ L, TolE e) → lenOG g + dpW q + L.length ≤ 880 → (turnP lim g q L told).1.1.length ≤ 90000900 * L.length
  | [], g, q, told, _, _, _, _ => by simp [turnP]
  | e :: L, g, q, told, h, hp, hL, hd => by
    simp only [List.length_cons] at hd; obtain ⟨h1, h2, h3⟩ := dpW_pass hlim h q (hL e (by simp)); obtain ⟨h4, h5⟩ := h3 hp; have h6 := turn_len hlim L (passP lim g q e).2.1 (passP lim g q e).2.2 told h1 h5 (fun x hx => hL x (by simp [hx])) (by omega); have h7 : 100001 * (lenOG g + 1) ≤ 90000900 := by omega
    rw [turn_cons]; split
    · simp only [List.length_cons]; omega
    · simp only [List.length_append, List.length_cons]; omega
def PrP : Pp → Prop
  | .over _ => True
  | .live _ _ q => PrW q
theorem PipAt.prP {w0 w : World} {pb D lim : Nat} {F : List Nat} {s : Pp} (h : PipAt w0 w pb D lim F s) : PrP s := by
  cases s with
  | over e => trivial
  | live r g q =>
    obtain ⟨_, _, _, _, _, _, _, _, _, h4, _⟩ := h; exact h4.prW
theorem step_out {D lim M : Nat} {s : Pp} (hw : WfPp D lim M s) (hM : M ≤ 430) (hD : D ≤ 16) (hlim : lim ≤ 2000) (hp : PrP s) (y : UInt8) : (stepPp D lim s y).2.1.length ≤ 80000000000 := by
  cases s with
  | over e => simp [stepPp]
  | live r g q =>
    obtain ⟨h1, h2, h3⟩ := hw; obtain ⟨t1, t2, t3⟩ := told_rs hD h1 y; have h := turn_len hlim (stepRs D r y).2 g q (errRs (stepRs D r y).1) h2 hp (fun e he => tol_of (t2 e he)) (by omega); have h4 : 90000900 * (stepRs D r y).2.length ≤ 90000900 * 880 := Nat.mul_le_mul_left _ (by omega); simp only [stepPp]; split
    · simp only; omega
    · simp only; omega
theorem end_out {D lim M : Nat} {s : Pp} (hw : WfPp D lim M s) (hM : M ≤ 430) (hlim : lim ≤ 2000) (hp : PrP s) : (endPp D lim s).2.1.length ≤ 80000000000 := by
  cases s with
  | over e => simp [endPp]
  | live r g q =>
    obtain ⟨h1, h2, h3⟩ := hw; obtain ⟨t2, t3⟩ := told_end_rs D r; have h := turn_len hlim (endRs D r).1 g q (endRs D r).2 h2 hp (fun e he => tol_of (t2 e he)) (by omega); have h4 : 90000900 * (endRs D r).1.length ≤ 90000900 * 880 := Nat.mul_le_mul_left _ (by omega); simp only [endPp]; omega
structure BatI (w0 w1 wr : World) (pb D S : Nat) (R : List UInt8 × Nat) (l : List UInt8) (j : Nat) (sj : Pp) (F G : List Nat) (acc : List UInt8) : Prop where
  pip : PipAt w0 wr pb D S F sj
  bld : BdAt wr w1.heap.size w1.heap.size G acc
  ap : ∀ k ∈ F, k ≠ w1.heap.size ∧ k ∉ G
  wf : WfPp D S j sj
  eq : R = (acc ++ (batchPp D S sj (l.drop j)).1, (batchPp D S sj (l.drop j)).2)
  len : acc.length ≤ 80000000000 * j
  sz : w0.heap.size ≤ w1.heap.size ∧ w1.heap.size ≤ wr.heap.size
theorem bdrop_at {L : List UInt8} {j : Nat} (h : j < L.length) : L.drop j = L[j] :: L.drop (j + 1) := List.drop_eq_getElem_cons h
theorem batch_cons (D lim : Nat) (s : Pp) (b : UInt8) (l : List UInt8) : batchPp D lim s (b :: l) = if (stepPp D lim s b).2.2 ≠ 0 then (stepPp D lim s b).2 else ((stepPp D lim s b).2.1 ++ (batchPp D lim (stepPp D lim s b).1 l).1, (batchPp D lim (stepPp D lim s b).1 l).2) := rfl
theorem BatI.step {w0 w1 wr w2 w3 : World} {pb D S : Nat} {R : List UInt8 × Nat} {l : List UInt8} {j : Nat} {sj s2 : Pp} {F F2 G G2 : List Nat} {acc T : List UInt8} (h : BatI w0 w1 wr pb D S R l j sj F G acc) (hp : PipAt w0 w2 pb D S F2 s2) (hs : Step F F2 wr w2)
    (_hb : BdAt w3 w1.heap.size w1.heap.size G2 (acc ++ T)) (ht : Step (w1.heap.size :: G) (w1.heap.size :: G2) w2 w3) (hbel : Below w1.heap.size w2 w3) :
    PipAt w0 w3 pb D S F2 s2 ∧ (∀ k ∈ F2, k ≠ w1.heap.size ∧ k ∉ G2) ∧ w1.heap.size ≤ w3.heap.size := by
  obtain ⟨l1, l2⟩ := h.bld.lt; have a2 : ∀ k ∈ F2, k ≠ w1.heap.size ∧ k ∉ G := fun k hk => (hs.foot k hk).elim (h.ap k) (fun hge => ⟨by omega, fun hg => by have := (l2 k hg).1; omega⟩)
  refine ⟨hp.keep (fun k hk => ht.block k (hp.low k hk).2 (fun hm => (List.mem_cons.1 hm).elim (a2 k hk).1 (a2 k hk).2)) (hp.bel.trans (hbel.mono h.sz.1)), fun k hk => ⟨(a2 k hk).1, fun hg => ?_⟩, ?_⟩
  · rcases ht.foot k (by simp [hg]) with h1 | h1
    · exact (List.mem_cons.1 h1).elim (a2 k hk).1 (a2 k hk).2
    · have := (hp.low k hk).2
      omega
  · have := hs.size
    have := ht.size; have := h.sz.2; omega
theorem BatI.bd {w0 w1 wr w2 : World} {pb D S : Nat} {R : List UInt8 × Nat} {l : List UInt8} {j : Nat} {sj : Pp} {F F2 G : List Nat} {acc : List UInt8} (h : BatI w0 w1 wr pb D S R l j sj F G acc) (hs : Step F F2 wr w2) : BdAt w2 w1.heap.size w1.heap.size G acc ∧ w1.heap.size ≤ w2.heap.size :=
  ⟨h.bld.keep fun k hk => by
    obtain ⟨l1, l2⟩ := h.bld.lt; rcases hk with rfl | hk
    · exact hs.block _ l1 (fun hf => (h.ap _ hf).1 rfl)
    · exact hs.block _ (l2 k hk).1 (fun hf => (h.ap _ hf).2 hk), Nat.le_trans h.sz.2 hs.size⟩
theorem pibatch_any {pr : Bool → Nat → List UInt8} {w : World} (hP : PrintC w pr) (f t L : Int) (D S : Nat) (h : RightP f t D S L) (l : List UInt8) (hl : l.length ≤ 425) :
    Calls Tryz.prog 15 #[suV f t D S L, .string ⟨l.toArray⟩] w fun r w' => r = .returned (.tuple #[.string ⟨(batchPp D S (pp0 pr f t) l).1.toArray⟩, .int .i64 ((batchPp D S (pp0 pr f t) l).2 : Nat)]) ∧ Below w.heap.size w w' := by
  obtain ⟨X, hX⟩ : ∃ X : ByteArray, (⟨l.toArray⟩ : ByteArray) = X := ⟨_, rfl⟩
  have hsz : X.size = l.length := by rw [← hX]; exact size_of l
  have hget : ∀ (i : Nat) (h : i < X.size) (h' : i < l.length), X[i] = l[i]'h' := by subst hX; intro i h h'; rfl
  have hD : 1 ≤ D ∧ D ≤ 16 := by have := h.2.2.1; unfold inP3 at this; omega
  have hS : S ≤ 2000 := by have := h.2.2.2.1; unfold inP3 at this; omega
  have k0 := up_alloc (Below.refl w.heap.size w) (.cells #[.int .i64 f, .int .i64 t, .int .i64 (D : Int), .int .i64 (S : Int), .int .i64 L] 23); have HN := hid (pinew_ok (hP.up k0) f t L D S h); have HK0 := hid k0; have HGET := hid hget; have HSZ := hid hsz; have HDS := hid (And.intro hD (And.intro hS hl)); have hx : X.size ≤ 425 := by omega
  obtain ⟨R, hR⟩ : ∃ R, batchPp D S (pp0 pr f t) l = R := ⟨_, rfl⟩
  have HR := hid hR; have HW0 := hid (wfPp_0 D S pr f t); generalize pp0 pr f t = s0 at *
  rw [hX, hR]; unfold suV at HN ⊢; clear hX hget hsz hl hD hS hR k0 h hP; go_enter Tryz.func15, Tryz.ntmps15; (go_wp2_with fail); refine HN.out.mono ?_; rintro r w1 ⟨pb, F0, rfl, hp⟩; have k1 : Below w1.heap.size w1 (w1.alloc (.cells #[.pointer none, .slice none 0 0] 72)) := up_alloc (Below.refl _ _) _; have H0 : Hid (BatI (w.alloc (.cells #[.int .i64 f, .int .i64 t, .int .i64 (D : Int), .int .i64 (S : Int), .int .i64 L] 23)) w1 (w1.alloc (.cells #[.pointer none, .slice none 0 0] 72)) pb D S R l 0 s0 F0 [] []) := hid ⟨hp.go k1, bd_new w1, fun k hk => ⟨by have := (hp.low k hk).2; omega, by simp⟩, HW0.out, by rw [List.drop_zero, HR.out]; simp, by simp, hp.bel.size, k1.size⟩; clear hp k1 HN; generalize (w.alloc (.cells #[.int .i64 f, .int .i64 t, .int .i64 (D : Int), .int .i64 (S : Int), .int .i64 L] 23)) = w0 at *
  go_wp2
  go_loopw [8, 9, 10, 19] (fun _ _ _ i wr => ∃ (j : Nat) (sj : Pp) (F G : List Nat) (acc : List UInt8), i = .int .i64 j ∧ j ≤ X.size ∧ Hid (BatI w0 w1 wr pb D S R l j sj F G acc)) (fun _ _ _ i _ => X.size - (RowKit.intOf i).toNat)
  case atStart => exact ⟨0, _, _, _, _, rfl, by omega, H0⟩
  case round =>
    obtain ⟨j, sj, F, G, acc, rfl, hj, HI⟩ := hrel; clear H0; by_cases hlt : j < X.size
    · have hjl : j < l.length := by rw [← HSZ.out]; exact hlt
      have hy := HGET.out j hlt hjl; have hwf := HI.out.wf; have hjM : j ≤ 430 := by omega
      have HS := hid (pistep_any HI.out.pip hwf hjM HDS.out.1 HDS.out.2.1 l[j]); have hso := step_out hwf hjM HDS.out.1.2 HDS.out.2.1 HI.out.pip.prP l[j]; have hwn := wfPp_step HDS.out.1.2 HDS.out.2.1 hwf l[j]; have heq := HI.out.eq; rw [bdrop_at hjl, batch_cons] at heq; obtain ⟨y, hyy⟩ : ∃ y, l[j] = y := ⟨_, rfl⟩
      rw [hyy] at hy HS hso hwn heq; generalize stepPp D S sj y = Q at *
      obtain ⟨s2, T, e⟩ := Q; simp only [PipR] at HS; simp only at hso hwn heq; obtain ⟨Z, hZ⟩ : ∃ Z : ByteArray, (⟨T.toArray⟩ : ByteArray) = Z := ⟨_, rfl⟩
      have hZl : Z.data.toList = T := by rw [← hZ]
      have hZs : Z.size ≤ 80000000000 := by rw [← hZ, size_of]; exact hso
      rw [hZ] at HS; have HZ := hid (And.intro hZl (And.intro hZs (And.intro hso hwn))); have HEQ := hid heq; have HAL : Hid (acc.length ≤ 80000000000 * 425) := hid (by have := HI.out.len; have : 80000000000 * j ≤ 80000000000 * 425 := Nat.mul_le_mul_left _ (by omega); omega); clear hZ hZl hZs hso hwn hwf hjM heq hjl hyy; (go_wp2_with fail); refine HS.out.mono ?_; rintro r w2 ⟨rfl, F2, hp2, hs2⟩; have H2 := hid (And.intro hp2 (And.intro hs2 (HI.out.bd hs2))); clear hp2 hs2 HS; (go_wp2_with fail); refine (bd_write H2.out.2.2.1 Z (by have := HAL.out; have := HZ.out.2.1; omega) H2.out.2.2.2).mono ?_; rintro r w3 ⟨rfl, G2, g1, g2, g3⟩; rw [HZ.out.1] at g1; have H3 := hid (And.intro g1 (HI.out.step H2.out.1 H2.out.2.1 g1 g2 g3)); clear g1 g2 g3; by_cases h0 : e = 0
      · subst h0
        have HN := hid (show BatI w0 w1 w3 pb D S R l (j + 1) s2 F2 G2 (acc ++ T) from ⟨H3.out.2.1, H3.out.1, H3.out.2.2.1, HZ.out.2.2.2, by
          have := HEQ.out; rw [if_neg (by simp)] at this; rw [this]; simp, by
          have := HI.out.len; have := HZ.out.2.2.1; rw [List.length_append]; omega, HI.out.sz.1, H3.out.2.2.2⟩)
        go_wp2
        go_roundw
        case rel => exact ⟨j + 1, _, _, _, _, rfl, hlt, HN⟩
        case measure => simp [RowKit.intOf]; omega
      · have hne : ((e : Int) != 0) = true := by rw [bne_iff_ne]; omega
        have hRR : R = (acc ++ T, e) := by
          have := HEQ.out; rw [if_pos h0] at this; exact this
        have HRR := hid hRR; have HB := hid (HK0.out.trans (H3.out.2.1.bel.mono HK0.out.size)); clear hRR h0; (go_wp2_with fail); refine (sb_string w1.heap.size w1.heap.size (acc ++ T) w3 H3.out.1.isB H3.out.2.2.2).mono ?_; rintro r w4 ⟨rfl, i4, b4, k4⟩; have HB4 := hid (HB.out.trans (b4.mono (Nat.le_trans HK0.out.size HI.out.sz.1))); clear i4 b4 k4; go_wp2; go_ret2; rw [HRR.out]; exact ⟨rfl, HB4.out⟩
    · obtain rfl : j = X.size := by omega
      have HE := hid (piend_any HI.out.pip HI.out.wf (by omega) HDS.out.1 HDS.out.2.1); have hso := end_out HI.out.wf (by omega) HDS.out.2.1 HI.out.pip.prP; have heq := HI.out.eq; rw [List.drop_of_length_le (by rw [HSZ.out]; exact Nat.le_refl _)] at heq; simp only [batchPp] at heq; generalize endPp D S sj = Q at *
      obtain ⟨s2, T, e⟩ := Q; simp only [PipR] at HE; simp only at hso heq; have HEQ := hid heq; have HSO := hid hso; have HAL := hid HI.out.len; obtain ⟨Z, hZ⟩ : ∃ Z : ByteArray, (⟨T.toArray⟩ : ByteArray) = Z := ⟨_, rfl⟩
      obtain ⟨A, hA⟩ : ∃ A : ByteArray, (⟨acc.toArray⟩ : ByteArray) = A := ⟨_, rfl⟩
      have hcat : (⟨(acc ++ T).toArray⟩ : ByteArray) = A ++ Z := by rw [← hA, ← hZ]; exact (cat_of acc T).symm
      have hsum : ¬ 9223372036854775807 < A.size + Z.size := by
        rw [← hA, ← hZ, size_of, size_of]; have := HI.out.len; omega
      have HCAT := hid hcat; have HA := hid hA; rw [hZ] at HE; clear heq hso hcat hA hZ; (go_wp2_with fail); refine HE.out.mono ?_; rintro r w2 ⟨rfl, F2, hp2, hs2⟩; have H2 := hid (HI.out.bd hs2); have HB := hid (HK0.out.trans (hp2.bel.mono HK0.out.size)); clear hp2 hs2 HE; (go_wp2_with fail); refine (sb_string w1.heap.size w1.heap.size acc w2 H2.out.1.isB H2.out.2).mono ?_; rintro r w4 ⟨rfl, i4, b4, k4⟩; rw [HA.out]; have HB4 := hid (HB.out.trans (b4.mono (Nat.le_trans HK0.out.size HI.out.sz.1))); clear i4 b4 k4; go_wp2; go_ret2; rw [HEQ.out]; simp only []; rw [HCAT.out]; exact ⟨rfl, HB4.out⟩
end
section
open Go.RowKit
open Go.Lib
def PrintX (w : World) : Prop := ∃ pr, PrintC w pr ∧ ∀ m, m < 100 → pr false m = printD (false, m)
theorem PrintX.up {w w' : World} (h : PrintX w) (k : Below w.heap.size w w') : PrintX w' := by
  obtain ⟨pr, hp, hs⟩ := h; exact ⟨pr, hp.up k, hs⟩
theorem alive_pure (pr : Bool → Nat → List UInt8) : batchPp 2 9 (pp0 pr 1 3) [91, 49, 93] = ([145, 1], 0) := by kernel_rfl
theorem pialive_any {w : World} (hP : PrintX w) : Calls Tryz.prog 12 #[] w fun r w' => r = .returned (.bool true) ∧ Below w.heap.size w w' := by
  obtain ⟨pr, hP, _⟩ := hP; have HB := hid (pibatch_any hP 1 3 0 2 9 (by decide) [91, 49, 93] (by decide)); rw [alive_pure] at HB; have H1 := hid (fun W => piright_any 1 1 1 0 0 W); have H2 := hid (fun W => piright_any 0 0 0 0 0 W); rw [decide_eq_true (by decide)] at H1; rw [decide_eq_false (by decide)] at H2; unfold suV at HB H1 H2; clear hP; go_enter Tryz.func12, Tryz.ntmps12; (go_wp2_with fail); refine HB.out.mono ?_; rintro r w1 ⟨rfl, b1⟩; have B1 := hid b1; clear b1; (go_wp2_with fail); refine (H1.out _).mono ?_; rintro r w2 ⟨rfl, b2⟩; have B2 := hid (up_trans B1.out b2); clear b2; (go_wp2_with fail); refine (H2.out _).mono ?_; rintro r w3 ⟨rfl, b3⟩; have B3 := hid (up_trans B2.out b3); clear b3; go_wp2; go_ret; exact ⟨rfl, B3.out⟩
end
section
open Go.RowKit Go.Sort
open Go.Lib
def nd0Z (u : Nat) : Nat := Lib.bitLen u * 78913 / 262144
def ndZ (X : Nat → Nat) (u : Nat) : Nat := nd0Z u + if X (nd0Z u) ≤ u then 1 else 0
structure TabX (w : World) (X : Nat → Nat) : Prop where
  lt : 2 < w.heap.size
  cell : ∀ i, i < 20 → X i < 18446744073709551616 ∧ w.cell? ⟨2, i, none⟩ = some (.int .u64 (X i : Int))
theorem tab_of_shape {W : World} (h : W.ShapedOpen Tryz.prog) : ∃ X, TabX W X := by
  obtain ⟨cs, hh, hs, hr⟩ := h.1 2 (Array.replicate 20 (.int .u64 0)) 272 (of_decide_eq_true (by kernel_rfl)) (by kernel_rfl); obtain ⟨ts, hts, _, hall⟩ := hr (by kernel_rfl); have e : Tryz.prog.cellTypes Tryz.prog.depth 272 = some (List.replicate 20 41) := by kernel_rfl
  rw [e] at hts; obtain rfl := Option.some.inj hts; have hs' : cs.size = 20 := hs.trans (by simp); have hc : ∀ i, i < 20 → ∃ x : Nat, x < 18446744073709551616 ∧ W.cell? ⟨2, i, none⟩ = some (.int .u64 (x : Int)) := fun i hi => by
    have hi' : i < cs.size := by omega
    obtain ⟨u, hu, hok⟩ := hall i cs[i] (by simp [hi']); rw [List.length_replicate, Nat.mod_eq_of_lt hi, List.getElem?_replicate, if_pos hi] at hu; obtain rfl := Option.some.inj hu; have hcell : W.cell? ⟨2, i, none⟩ = some cs[i] := by simp [World.cell?, hh, hi']
    rw [hcell]; unfold Cell.ok at hok; rw [Tryz.underlying41] at hok; cases hv : cs[i] <;> rw [hv] at hok <;> simp at hok
    case int k' n =>
      obtain ⟨hk, hn⟩ := hok; subst hk; have hb : 0 ≤ n ∧ n < 18446744073709551616 := by unfold IntKind.has IntKind.min IntKind.max at hn; simp [IntKind.signed, IntKind.bits] at hn; omega
      refine ⟨n.toNat, by omega, ?_⟩; rw [show ((n.toNat : Nat) : Int) = n by omega]
  refine ⟨fun i => if h : i < 20 then (hc i h).choose else 0, ?_, fun i hi => ?_⟩
  · rcases Nat.lt_or_ge 2 W.heap.size with h' | h'
    · exact h'
    · rw [Array.getElem?_eq_none h'] at hh; simp at hh
  · simp only [dif_pos hi]
    exact (hc i hi).choose_spec
theorem TabX.below {w w' : World} {X : Nat → Nat} (h : TabX w X) (hb : Below w.heap.size w w') : TabX w' X :=
  ⟨Nat.lt_of_lt_of_le h.lt hb.size, fun i hi => ⟨(h.cell i hi).1, by
    have e := hb.block _ h.lt; rw [← (h.cell i hi).2]; simp only [World.cell?, e]⟩⟩
theorem log10_any (x : Nat) (h : x ≤ 64) (w : World) : Calls Tryz.prog 237 #[.int .i64 x] w fun e w' => e = .returned (.int .i64 ((x * 78913 / 262144 : Nat) : Int)) ∧ w' = w := Any.internal_strconv_log10Pow2 { laysM284 with } x h w
theorem bool2_any (b : Bool) (w : World) : Calls Tryz.prog 238 #[.bool b] w fun e w' => e = .returned (.int .i64 (if b then 1 else 0)) ∧ w' = w := Any.internal_strconv_bool2_int { laysM284 with } b w
theorem nd0X_le (u : Nat) (h : u < 18446744073709551616) : nd0Z u ≤ 19 := by
  have := (bitLen_le u 64 h).2 h; unfold nd0Z; omega
theorem ndX_le (X : Nat → Nat) (u : Nat) (h : u < 18446744073709551616) : ndZ X u ≤ 20 := by
  have := nd0X_le u h; unfold ndZ; split <;> omega
theorem pow_l10 : ∀ b : Fin 65, 2 ^ b.val ≤ 10 ^ (b.val * 78913 / 262144 + 1) := by decide +kernel
theorem lt_ndX (X : Nat → Nat) (u : Nat) (h : u < 18446744073709551616) : u < 10 ^ (ndZ X u + 1) := by
  have h1 : Lib.bitLen u ≤ 64 := (bitLen_le u 64 h).2 h; have h2 : u < 2 ^ Lib.bitLen u := (bitLen_le u _ h).1 (Nat.le_refl _); have h3 := pow_l10 ⟨Lib.bitLen u, by omega⟩; have h4 : 10 ^ (nd0Z u + 1) ≤ 10 ^ (ndZ X u + 1) := Nat.pow_le_pow_right (by decide) (by unfold ndZ; omega); exact Nat.lt_of_lt_of_le h2 (Nat.le_trans h3 h4)
theorem numX_any (u : Nat) (hu : u < 18446744073709551616) (X : Nat → Nat) (w : World) (hT : TabX w X) : Calls Tryz.prog 232 #[.int .u64 u] w fun e w' => e = .returned (.int .i64 (ndZ X u)) ∧ w' = w := by
  have hL : Lib.bitLen u ≤ 64 := (bitLen_le u 64 hu).2 hu; have h19 := nd0X_le u hu; obtain ⟨hx, hcell⟩ := hT.cell (nd0Z u) (by omega); have hq0 : Lib.bitLen u * 78913 / 262144 = nd0Z u := rfl; have hn : ndZ X u = nd0Z u + if X (nd0Z u) ≤ u then 1 else 0 := rfl
  generalize hq : nd0Z u = q at hn hcell h19 hx hq0; generalize hx' : X q = x at hn hcell hx; clear hT; have HN := hid hn; clear hn hx' hq; go_enter Tryz.func232, Tryz.ntmps232; (go_wp2_with fail); refine (len64_any u hu _).mono ?_; rintro e w1 ⟨rfl, rfl⟩; (go_wp2_with fail); refine (log10_any _ hL _).mono ?_; rintro e w1 ⟨rfl, rfl⟩; rw [hq0]; (go_wp2_with fail); refine (bool2_any _ _).mono ?_; rintro e w1 ⟨rfl, rfl⟩; go_wp2
  all_goals go_ret
  all_goals (
    refine ⟨?_, rfl⟩; have hn := HN.out; congr 2; split at hn <;> simp_all <;> omega)
def fmtX (X : Nat → Nat) (u : Nat) : List UInt8 := if u < 100 then decDigits u else fmtL (ndZ X u) u
theorem fmtX_len (X : Nat → Nat) (u : Nat) (h : u < 18446744073709551616) : (fmtX X u).length ≤ 20 := by
  unfold fmtX; split
  · rw [decDigits_length]; exact nDigits_le u (by omega)
  · rw [fmtL_len]; exact ndX_le X u h
theorem fmtInX (u : Nat) (hu : u < 18446744073709551616) (X : Nat → Nat) (w : World) (hT : TabX w X) :
    Calls Tryz.prog 228 #[.int .u64 u, .int .i64 10] w fun e w' => e = .returned (.string ⟨(fmtX X u).toArray⟩) ∧ Below w.heap.size w w' := by
  by_cases hs : (u : Int) < 100
  · have hwr : IntKind.i64.wrap (u : Int) = (u : Int) := by have := IntKind.wrap_i64 (u : Int); omega
    have e : fmtX X u = decDigits u := if_pos (by omega); rw [e]; go_enter Tryz.func228, Tryz.ntmps228
    go_wp2_with (go_at_call 231; refine (internal_strconv_small u (by omega) _).mono ?_; rintro e w' ⟨rfl, rfl⟩)
    go_ret; exact ⟨rfl, Below.refl _ _⟩
  · have e0 : fmtX X u = fmtL (ndZ X u) u := if_neg (by omega)
    rw [e0]; have hnd : ndZ X u ≤ 20 := ndX_le X u hu; have hlt := lt_ndX X u hu; have HN : ∀ W, TabX W X → Calls Tryz.prog 232 #[.int .u64 u] W fun e w' => e = .returned (.int .i64 (ndZ X u)) ∧ w' = W := fun W h => numX_any u hu X W h
    generalize ndZ X u = n at hnd hlt HN; have hal : Tryz.prog.arrayLen 266 = 24 := by kernel_rfl
    have hsl : ∀ W, (Instr.sliceAt 266 (.pointer (some ⟨w.heap.size, 0, none⟩)) none (some (.int .i64 (n : Int))) none).run Tryz.prog W = .ok (.slice (some ⟨w.heap.size, 0, none⟩) n 24) W := fun W => by
      rw [run_sliceAt_array_h W 266 ⟨w.heap.size, 0, none⟩ Tryz.underlying266 .i64 (n : Int) (by omega) (by rw [hal]; omega)]; go_simp
    have hH0 := holds_zero0 w 266 n (by omega); have hfmt := fmt10_any w.heap.size 0 24 u (Array.replicate n 0) (w.alloc (.cells Lib.zeros24 266)) hH0 (by rw [Array.size_replicate]; exact hlt) hu (by rw [Array.size_replicate]; omega); rw [Array.size_replicate] at hfmt; have HH0 := hid hH0; have HT := hid (hT.below ((Below.refl w.heap.size w).alloc (Nat.le_refl _) (.cells Lib.zeros24 266))); have HN' := hid HN; have HF := hid hfmt; clear hH0 hal hlt HN hfmt e0; go_enter Tryz.func228, Tryz.ntmps228; (go_wp2_with fail); refine (HN'.out _ HT.out).mono ?_; rintro e w' ⟨rfl, rfl⟩; (go_wp2_with fail); refine HF.out.mono ?_; rintro e w' ⟨rfl, k, dk, rfl, hds, hF⟩; have hcv : (convert 51 9 (.slice (some ⟨w.heap.size, 0, none⟩) n 24)).run Tryz.prog ((putRow (fun (b : UInt8) => Value.int .u8 (b.toNat : Int)) (w.alloc (.cells Lib.zeros24 266)) w.heap.size 0 dk).drewN k) = .ok (.string ⟨(fmtL n u).toArray⟩) ((putRow (fun (b : UInt8) => Value.int .u8 (b.toNat : Int)) (w.alloc (.cells Lib.zeros24 266)) w.heap.size 0 dk).drewN k) := by
      have h := run_convert_bytes_back (P := Tryz.prog) ((putRow (fun (b : UInt8) => Value.int .u8 (b.toNat : Int)) (w.alloc (.cells Lib.zeros24 266)) w.heap.size 0 dk).drewN k) 51 9 5 ⟨w.heap.size, 0, none⟩ 24 (fmtL n u) Tryz.underlying51 Tryz.underlying5 Tryz.underlying9 (fun j hj => by
        have hj' : j < n := by rw [fmtL_len] at hj; exact hj
        have hl : (fmtL n u)[j] = dk[j]! := by
          rw [hF j hj']; simp [fmtL]
        rw [hl, Lib.add_plain, World.cell?_drewN]; exact cell?_putRow (fun (b : UInt8) => Value.int .u8 (b.toNat : Int)) _ w.heap.size 0 _ dk HH0.out (by rw [hds, Array.size_replicate]) j (by rw [hds]; exact hj'))
      rw [fmtL_len] at h; exact h
    have hB := hid (below_putRow w (.cells Lib.zeros24 266) dk k); go_wp2; go_ret; exact ⟨rfl, hB.out⟩
theorem fmtX_any (u : Nat) (hu : u < 18446744073709551616) (X : Nat → Nat) (w : World) (hT : TabX w X) :
    Calls Tryz.prog 222 #[.int .u64 u, .int .i64 10] w fun e w' => e = .returned (.string ⟨(fmtX X u).toArray⟩) ∧ Below w.heap.size w w' := by
  go_enter Tryz.func222, Tryz.ntmps222
  go_wp2_with (go_at_call 228; refine (fmtInX u hu X _ hT).mono ?_; rintro e w' ⟨rfl, hB⟩)
  go_ret; exact ⟨rfl, hB⟩
theorem TabX.drewN {w : World} {X : Nat → Nat} (h : TabX w X) (q : Nat) : TabX (w.drewN q) X := ⟨h.lt, h.cell⟩
def negX (X : Nat → Nat) (t o : Nat) : List UInt8 := (if t = 0 then [] else fmtX X t) ++ fmtX X o
theorem printX_pos (u : Nat) (hu : u < 18446744073709551616) (w : World) (X : Nat → Nat) (hT : TabX w X) :
    Calls Tryz.prog 217 #[.agg #[.bool false, .int .u64 u]] w fun e w' => e = .returned (.string ⟨(fmtX X u).toArray⟩) ∧ Below w.heap.size w w' := by
  have HT := hid (hT.below ((Below.refl w.heap.size w).alloc (Nat.le_refl _) (.cells #[.bool false, .int .u64 u] 123))); have HB := hid ((Below.refl w.heap.size w).alloc (Nat.le_refl _) (.cells #[.bool false, .int .u64 u] 123)); go_enter Tryz.func217, Tryz.ntmps217
  go_wp2_with (go_at_call 222; refine (fmtX_any u hu X _ HT.out).mono ?_; rintro e w' ⟨rfl, hB⟩)
  go_ret; exact ⟨rfl, HB.out.trans (hB.mono (by simp))⟩
theorem printX_neg (u lo hi t o : Nat) (ht : t < 18446744073709551616) (ho : o < 10) (w : World) (X : Nat → Nat) (hT : TabX w X)
    (hA : ∀ W, (callFunc 135 #[.int .u64 u, .int .u64 1, .int .u64 0]).run Tryz.prog W = .ok (.value (.tuple #[.int .u64 lo, .int .u64 hi])) W)
    (hD : ∀ W, Calls Tryz.prog 223 #[.int .u64 hi, .int .u64 lo, .int .u64 10] W fun e w' => e = .returned (.tuple #[.int .u64 t, .int .u64 o]) ∧ ∃ q, w' = W.drewN q) :
    Calls Tryz.prog 217 #[.agg #[.bool true, .int .u64 u]] w fun e w' => e = .returned (.string ⟨(45 :: negX X t o).toArray⟩) ∧ Below w.heap.size w w' := by
  have HT := hid (hT.below ((Below.refl w.heap.size w).alloc (Nat.le_refl _) (.cells #[.bool true, .int .u64 u] 123))); have HB := hid ((Below.refl w.heap.size w).alloc (Nat.le_refl _) (.cells #[.bool true, .int .u64 u] 123)); have HA := hid hA; clear hA; have ld : ∀ n, n < 18446744073709551616 → (⟨(fmtX X n).toArray⟩ : ByteArray).size ≤ 20 := fun n h => by
    rw [size_of]; exact fmtX_len X n h
  obtain ⟨Y, hY⟩ : ∃ Y : ByteArray, Y = ⟨(fmtX X o).toArray⟩ := ⟨_, rfl⟩
  have hYs : Y.size ≤ 20 := by rw [hY]; exact ld o (by omega)
  by_cases h0 : t = 0
  · have hn : negX X t o = fmtX X o := by unfold negX; rw [if_pos h0]; rfl
    rw [hn]; subst h0; have hz : (((0 : Nat) : Int) != 0) = false := rfl; have hr : (⟨#[45]⟩ : ByteArray) ++ Y = ⟨(45 :: fmtX X o).toArray⟩ := by rw [hY]; exact cat_of [45] _
    have HR := hid hr; have HY := hid hY; clear hr hY hn ld; go_enter Tryz.func217, Tryz.ntmps217
    go_wp2_with (simp only [HA.out])
    refine (hD _).mono ?_; rintro e w1 ⟨rfl, q, rfl⟩; (go_wp2_with fail); refine (fmtX_any o (by omega) X _ (HT.out.drewN q)).mono ?_; rintro e w2 ⟨rfl, hB⟩; rw [← HY.out]; have HB2 := hid ((below_dr HB.out q).trans ((hB.mono (by simp)) : Below w.heap.size _ w2)); clear hB; go_wp2; go_ret; exact ⟨congrArg (fun s => Ending.returned (Value.string s)) HR.out, HB2.out⟩
  · have hn : negX X t o = fmtX X t ++ fmtX X o := by unfold negX; rw [if_neg h0]
    rw [hn]; have hz : ((t : Int) != 0) = true := by simp; omega
    obtain ⟨XB, hX⟩ : ∃ XB : ByteArray, XB = ⟨(fmtX X t).toArray⟩ := ⟨_, rfl⟩
    have hXs : XB.size ≤ 20 := by rw [hX]; exact ld t ht
    have hr : (⟨#[45]⟩ : ByteArray) ++ XB ++ Y = ⟨(45 :: (fmtX X t ++ fmtX X o)).toArray⟩ := by
      rw [hX, hY, show (⟨#[45]⟩ : ByteArray) = ⟨[45].toArray⟩ from rfl, cat_of, cat_of]; rfl
    have hs : ((⟨#[45]⟩ : ByteArray) ++ XB).size ≤ 21 := by
      rw [ByteArray.size_append]; show 1 + XB.size ≤ 21; omega
    obtain ⟨Z, hZ⟩ : ∃ Z : ByteArray, (⟨#[45]⟩ : ByteArray) ++ XB = Z := ⟨_, rfl⟩
    rw [hZ] at hr hs; have HR := hid hr; have HX := hid hX; have HY := hid hY; have HZ := hid hZ; clear hr hX hY hZ hn ld; go_enter Tryz.func217, Tryz.ntmps217
    go_wp2_with (simp only [HA.out])
    refine (hD _).mono ?_; rintro e w1 ⟨rfl, q, rfl⟩; (go_wp2_with fail); refine (fmtX_any t ht X _ (HT.out.drewN q)).mono ?_; rintro e w2 ⟨rfl, hB⟩; rw [← HX.out]; have HT2 := hid (TabX.below (w := ((w.alloc (.cells #[.bool true, .int .u64 u] 123)).drewN q)) (HT.out.drewN q) hB); have HB2 := hid ((below_dr HB.out q).trans ((hB.mono (by simp)) : Below w.heap.size _ w2)); clear hB; (go_wp2_with fail); refine (fmtX_any o (by omega) X _ HT2.out).mono ?_; rintro e w3 ⟨rfl, hB⟩; rw [← HY.out]; have HB3 := hid (HB2.out.trans (hB.mono HB2.out.size)); clear hB; have hZ := HZ.out; go_wp2; go_ret; exact ⟨congrArg (fun s => Ending.returned (Value.string s)) HR.out, HB3.out⟩
def prX (X : Nat → Nat) (m : Bool) (u : Nat) : List UInt8 := if u < 18446744073709551616 then (if m = true then 45 :: negX X ((u + 1) / 10) ((u + 1) % 10) else fmtX X u) else []
theorem printX_any (m : Bool) (u : Nat) (hu : u < 18446744073709551616) (X : Nat → Nat) (w : World) (hT : TabX w X) :
    Calls Tryz.prog 217 #[.agg #[.bool m, .int .u64 u]] w fun e w' => e = .returned (.string ⟨(prX X m u).toArray⟩) ∧ Below w.heap.size w w' := by
  unfold prX; rw [if_pos hu]; cases m with
  | false => exact printX_pos u hu w X hT
  | true =>
    rw [if_pos rfl]; by_cases hm : u = 18446744073709551615
    · subst hm
      refine printX_neg 18446744073709551615 0 1 ((18446744073709551615 + 1) / 10) ((18446744073709551615 + 1) % 10) (by decide) (by decide) w X hT (fun W => run_add64 18446744073709551615 1 0 (by decide) W) fun W => ?_
      refine (div_big W).mono ?_; rintro e w' ⟨rfl, rfl⟩; exact ⟨rfl, 0, rfl⟩
    · refine printX_neg u (u + 1) 0 ((u + 1) / 10) ((u + 1) % 10) (by omega) (by omega) w X hT (fun W => ?_) fun W => div_small (u + 1) (by omega) W
      have h := run_add64 u 1 0 (by decide) W; rw [show (u + 1 + 0) % 18446744073709551616 = u + 1 by omega, show (u + 1 + 0) / 18446744073709551616 = 0 by omega] at h; exact h
theorem printx_of {W : World} (h : W.ShapedOpen Tryz.prog) : PrintX W := by
  obtain ⟨X, hX⟩ := tab_of_shape h; refine ⟨prX X, ⟨fun y m hm w hw => printX_any y m hm X w (hX.below hw), fun y m => ?_⟩, fun m hm => ?_⟩
  · unfold prX
    split
    · rename_i hu
      split
      · unfold negX
        have h1 := fmtX_len X ((m + 1) / 10) (by omega); have h2 := fmtX_len X ((m + 1) % 10) (by omega); split <;> simp only [List.length_cons, List.length_append, List.length_nil] <;> omega
      · have := fmtX_len X m hu
        omega
    · simp
  · have e : prX X false m = fmtX X m := (if_pos (by omega)).trans (if_neg (by simp))
    rw [e]; exact if_pos hm
end
end Go.Proofs.YtkgconbdmnmbnaaGreat
