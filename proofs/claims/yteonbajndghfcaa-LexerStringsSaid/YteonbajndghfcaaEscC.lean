/-
  CONTRACTS of escape.Reader, part C: take.
-/
import Derived.Test.YteonbajndghfcaaEscB
namespace Go.Proofs.Yteonbajndghfcaa
open Go.RowKit
open Go.Lib
/-- WHAT take LEAVES: the state, but for the error's cell, which does not turn; behind an error whatever. -/
def TPost (w : World) (b o : Nat) (s : Ins) (w' : World) : Prop := Sub b (o + 1) 7 w w' ∧ (errI s = 0 → WfI s ∧ CAt w' b (o + 1) (utfI s) ∧ At w' b (o + 5) (tail3 (seenI s) (codeI s) (highI s)))
theorem At.zeros {w : World} {b o s c h : Nat} (hT : At w b (o + 5) (tail3 s c h)) (s' c' h' : Int) (e1 : s' = s) (e2 : c' = c) (e3 : h' = h) :
    (w.cell? ⟨b, o + 5, none⟩ = some (.int .i64 s') ∧ w.frozen? ⟨b, o + 5, none⟩ = false) ∧ (w.cell? ⟨b, o + 6, none⟩ = some (.int .i64 c') ∧ w.frozen? ⟨b, o + 6, none⟩ = false) ∧
    (w.cell? ⟨b, o + 7, none⟩ = some (.int .i64 h') ∧ w.frozen? ⟨b, o + 7, none⟩ = false) := by
  subst e1 e2 e3
  exact hT.tail
theorem tpost_bad {w w' : World} {b o n : Nat} {u : Bool} (h : Sub b (o + 1) n w w') (hn : n ≤ 7) : TPost w b o (.bad u) w' :=
  ⟨h.widen (Nat.le_refl _) (by omega), fun he => by cases u <;> cases he⟩
theorem tpost_ref {w : World} {b o : Nat} {u : Bool} : TPost w b o (.bad u) w := tpost_bad (n := 0) (Sub.refl _ _ _ _) (by omega)
theorem u8z (x : UInt8) (k : Nat) (h : x.toNat ≠ k) : (((x.toNat : Nat) : Int) == (k : Int)) = false := by rw [beq_eq_false_iff_ne]; omega
theorem alloc_at {w : World} {b o : Nat} {vs : List Value} (h : At w b o vs) (hv : vs ≠ []) (x : Obj) : At (w.alloc x) b o vs := h.alloc hv x
theorem CAt.alloc {w : World} {b o : Nat} {s : Option (Nat × Nat × Nat)} (h : CAt w b o s) (x : Obj) : CAt (w.alloc x) b o s := h.map fun vs hv h => h.alloc (by intro e; rw [e] at hv; simp at hv) x
set_option maxRecDepth 100000 in
set_option maxHeartbeats 1600000 in
theorem take_text (w : World) (b o n lo hi : Nat) (hW : WfI (.text n lo hi)) (hC : CAt w b (o + 1) (some (n, lo, hi))) (hT : At w b (o + 5) (tail3 0 0 0)) (x : UInt8) :
    Calls Try.prog 35 #[.pointer (some ⟨b, o, none⟩), .int .u8 x.toNat] w fun e w' =>
      e = .returned (.tuple #[.string ⟨(stepI (.text n lo hi) x).2.toArray⟩, .int .i64 (errI (stepI (.text n lo hi) x).1)]) ∧ TPost w b o (stepI (.text n lo hi) x).1 w' := by
  obtain ⟨⟨hc0, hf0⟩, ⟨hc1, hf1⟩, hc2, hf2⟩ := hT.zeros 0 0 0 rfl rfl rfl
  by_cases hq : x.toNat = 34 ∨ x.toNat < 32
  · have hs : stepI (.text n lo hi) x = (.bad false, []) := by simp only [stepI]; rw [if_pos hq]
    rw [hs]
    have HP : Hid (TPost w b o (.bad false) w) := Lib.hid tpost_ref
    simp only [errI]
    clear hs hC hT hW
    by_cases h32 : x.toNat < 32
    · have g : (((x.toNat : Nat) : Int) < 32) = True := by simp only [eq_iff_iff, iff_true]; omega
      clear hq h32
      go_enter Try.func35, Try.ntmps35
      go_wp2
      go_ret2
      exact ⟨rfl, HP.out⟩
    · have g : (((x.toNat : Nat) : Int) < 32) = False := by simp only [eq_iff_iff, iff_false]; omega
      have g2 : (((x.toNat : Nat) : Int) == 34) = true := by rw [beq_iff_eq]; omega
      clear hq h32
      go_enter Try.func35, Try.ntmps35
      go_wp2
      go_ret2
      exact ⟨rfl, HP.out⟩
  have g : (((x.toNat : Nat) : Int) < 32) = False := by simp only [eq_iff_iff, iff_false]; omega
  have g2 : (((x.toNat : Nat) : Int) == 34) = false := u8z x 34 (by omega)
  have hS := step_at hC x
  have HT := Lib.hid hT
  cases hp : stepS (some (n, lo, hi)) x with
  | none =>
    have h92 : ¬ (n = 0 ∧ x.toNat = 92) := by
      rintro ⟨rfl, h⟩
      have : stepS (some (0, lo, hi)) x = some (0, 0, 0) := by simp [stepS, openS, h]
      rw [this] at hp
      cases hp
    have hs : stepI (.text n lo hi) x = (.bad true, []) := by simp only [stepI]; rw [if_neg hq, if_neg h92, hp]
    rw [hs]
    rw [hp] at hS
    have HS := Lib.hid hS
    simp only [errI]
    clear hS hs hp hC hT hW hq h92
    go_enter Try.func35, Try.ntmps35
    go_wp2_with fail
    refine HS.out.mono ?_
    rintro e w' ⟨rfl, hp⟩
    have HP : Hid (TPost w b o (.bad true) w') := Lib.hid (tpost_bad hp.2 (by omega))
    simp only [Option.isSome]
    clear hp
    go_wp2
    go_ret2
    exact ⟨rfl, HP.out⟩
  | some p =>
    obtain ⟨m, lo', hi'⟩ := p
    rw [hp] at hS
    have HS := Lib.hid hS
    by_cases h92 : x.toNat = 92
    · have hn : n = 0 := by
        cases n with
        | zero => rfl
        | succ n =>
          have := hW.2.1
          simp only [stepS] at hp
          rw [if_pos (by omega)] at hp
          cases hp
      subst hn
      have hs : stepI (.text 0 lo hi) x = (.back, []) := by simp only [stepI]; rw [if_neg hq, if_pos ⟨trivial, h92⟩]
      have e0 : stepS (some (0, lo, hi)) x = some (0, 0, 0) := by simp [stepS, openS, h92]
      rw [e0] at hp
      injection hp with hp
      injection hp with hp1 hp2
      injection hp2 with hp2 hp3
      subst hp1 hp2 hp3
      rw [hs]
      have g3 : (((x.toNat : Nat) : Int) == 92) = true := by rw [beq_iff_eq]; omega
      simp only [errI]
      clear hS hs hC hT hW hq h92 e0
      go_enter Try.func35, Try.ntmps35
      go_wp2_with fail
      refine HS.out.mono ?_
      rintro e w' ⟨rfl, hp⟩
      simp only [Option.isSome]
      have hT' := HT.out.sub hp.2 (.inr (by omega))
      obtain ⟨⟨hd0, he0⟩, ⟨hd1, he1⟩, hd2, he2⟩ := hT'.zeros 0 0 0 rfl rfl rfl
      have HP : Hid (TPost w b o .back (w'.setCell ⟨b, o + 5, none⟩ (.int .i64 1))) := Lib.hid
        ⟨(hp.2.widen (Nat.le_refl _) (by omega)).trans ((one_set hT' 1).2.widen (by omega) (by omega)), fun _ => ⟨trivial, hp.1.sub (one_set hT' 1).2 (.inl (by omega)), (one_set hT' 1).1⟩⟩
      clear hp hT'
      go_wp2
      go_ret2
      exact ⟨rfl, HP.out⟩
    · have hs : stepI (.text n lo hi) x = (.text m lo' hi', [x]) := by simp only [stepI]; rw [if_neg hq, if_neg (fun h => h92 h.2), hp]
      have hm : WfI (.text m lo' hi') := by
        refine ⟨?_, ?_⟩
        · cases n with
          | zero =>
            by_cases hb : x.toNat < 128
            · have : openS x.toNat = some (0, 0, 0) := by unfold openS; rw [if_pos hb]
              have hp' : openS x.toNat = some (m, lo', hi') := hp
              rw [this] at hp'
              injection hp' with hp'
              injection hp' with hp' _
              omega
            · have := openS_pos x.toNat m lo' hi' hp (by omega)
              omega
          | succ n =>
            have := hW.1
            simp only [stepS] at hp
            split at hp
            · cases hp
            · split at hp
              · injection hp with hp
                injection hp with hp _
                omega
              · injection hp with hp
                injection hp with hp _
                omega
        · have := conts_step _ x hW.2
          rw [hp] at this
          exact this
      rw [hs]
      have g3 : (((x.toNat : Nat) : Int) == 92) = false := u8z x 92 h92
      have HM := Lib.hid hm
      have HL := Lib.hid hC.lt
      have hcv : ∀ W : World, (convert 53 9 (.slice (some ⟨W.heap.size, 0, none⟩) 1 1)).run Try.prog (W.alloc (.cells #[.int .u8 x.toNat] 5)) = .ok (.string ⟨[x].toArray⟩) (W.alloc (.cells #[.int .u8 x.toNat] 5)) :=
        fun W => conv_new W [x] _ 1 rfl rfl _ rfl
      simp only [errI]
      obtain ⟨z, hz⟩ : ∃ z : ByteArray, z = ⟨[x].toArray⟩ := ⟨_, rfl⟩
      rw [← hz] at hcv ⊢
      clear hS hs hp hC hT hW hq h92 hm hz
      go_enter Try.func35, Try.ntmps35
      go_wp2_with fail
      refine HS.out.mono ?_
      rintro e w' ⟨rfl, hp⟩
      simp only [Option.isSome]
      have hT' := HT.out.sub hp.2 (.inr (by omega))
      obtain ⟨⟨hd0, he0⟩, ⟨hd1, he1⟩, hd2, he2⟩ := hT'.zeros 0 0 0 rfl rfl rfl
      have HP : Hid (TPost w b o (.text m lo' hi') (w'.alloc (.cells #[.int .u8 x.toNat] 5))) := Lib.hid
        ⟨(hp.2.widen (Nat.le_refl _) (by omega)).alloc _ HL.out, fun _ => ⟨HM.out, hp.1.alloc _, hT'.alloc (by simp) _⟩⟩
      have hcw := hcv w'
      clear hp hT' hcv
      go_wp2
      go_ret2
      exact ⟨rfl, HP.out⟩
theorem short_lt {x y : Nat} (h : shortOf x = some y) : x < 128 ∧ 32 ≤ x := by
  unfold shortOf at h
  repeat' split at h
  all_goals first | omega | (cases h)
theorem step0 (x : UInt8) : stepS st0 x = openS x.toNat := rfl
theorem open_low {n : Nat} (h : n < 128) : openS n = some (0, 0, 0) := by unfold openS; rw [if_pos h]
set_option maxRecDepth 100000 in
set_option maxHeartbeats 1600000 in
theorem take_back (w : World) (b o : Nat) (hC : CAt w b (o + 1) st0) (hT : At w b (o + 5) (tail3 1 0 0)) (x : UInt8) :
    Calls Try.prog 35 #[.pointer (some ⟨b, o, none⟩), .int .u8 x.toNat] w fun e w' =>
      e = .returned (.tuple #[.string ⟨(stepI .back x).2.toArray⟩, .int .i64 (errI (stepI .back x).1)]) ∧ TPost w b o (stepI .back x).1 w' := by
  obtain ⟨⟨hc0, hf0⟩, ⟨hc1, hf1⟩, hc2, hf2⟩ := hT.zeros 1 0 0 rfl rfl rfl
  by_cases h32 : x.toNat < 32
  · have hs : stepI .back x = (.bad false, []) := by
      have h1 : shortOf x.toNat = none := by
        cases h : shortOf x.toNat with
        | none => rfl
        | some y => have := short_lt h; omega
      simp only [stepI, h1]
      rw [if_neg (by omega), open_low (by omega)]
      rfl
    rw [hs]
    have HP : Hid (TPost w b o (.bad false) w) := Lib.hid tpost_ref
    simp only [errI]
    have g : (((x.toNat : Nat) : Int) < 32) = True := by simp only [eq_iff_iff, iff_true]; omega
    clear hs hC hT h32
    go_enter Try.func35, Try.ntmps35
    go_wp2
    go_ret2
    exact ⟨rfl, HP.out⟩
  have g : (((x.toNat : Nat) : Int) < 32) = False := by simp only [eq_iff_iff, iff_false]; omega
  have hS := step_at hC x
  rw [step0] at hS
  have HT := Lib.hid hT
  cases hp : openS x.toNat with
  | none =>
    have hx : ¬ x.toNat < 128 := fun h => by rw [open_low h] at hp; cases hp
    have hs : stepI .back x = (.bad true, []) := by
      have h1 : shortOf x.toNat = none := by
        cases h : shortOf x.toNat with
        | none => rfl
        | some y => have := short_lt h; omega
      simp only [stepI, h1, hp]
      rw [if_neg (by omega)]
      rfl
    rw [hs]
    rw [hp] at hS
    have HS := Lib.hid hS
    have g2 : (((x.toNat : Nat) : Int) == 34) = false := u8z x 34 (by omega)
    simp only [errI]
    clear hS hs hp hC hT h32 hx
    go_enter Try.func35, Try.ntmps35
    go_wp2_with fail
    refine HS.out.mono ?_
    rintro e w' ⟨rfl, hp⟩
    have HP : Hid (TPost w b o (.bad true) w') := Lib.hid (tpost_bad hp.2 (by omega))
    simp only [Option.isSome]
    clear hp
    go_wp2
    go_ret2
    exact ⟨rfl, HP.out⟩
  | some p =>
    rw [hp] at hS
    have HS := Lib.hid hS
    by_cases hu : x.toNat = 117
    · have hs : stepI .back x = (.hex 0 0, []) := by
        simp only [stepI, hu]
        rw [show shortOf 117 = none by decide]
        rfl
      rw [open_low (by omega)] at hp
      cases hp
      rw [hs]
      have g3 : ((x.toNat : Nat) : Int) = 117 := by omega
      simp only [errI]
      rw [g3] at HS g ⊢
      clear hS hs hC hT hu h32 g3
      go_enter Try.func35, Try.ntmps35
      go_wp2_with fail
      refine HS.out.mono ?_
      rintro e w' ⟨rfl, hp⟩
      simp only [Option.isSome]
      have hT' := HT.out.sub hp.2 (.inr (by omega))
      obtain ⟨⟨hd0, he0⟩, ⟨hd1, he1⟩, hd2, he2⟩ := hT'.zeros 1 0 0 rfl rfl rfl
      have HO := Lib.hid (open_u w' b o 1 0 0 hT')
      have HP := Lib.hid hp
      clear hp hT'
      go_wp2_with fail
      refine HO.out.mono ?_
      rintro e w2 ⟨rfl, a2, s2⟩
      go_wp2
      go_ret2
      exact ⟨rfl, (HP.out.2.widen (Nat.le_refl _) (by omega)).trans (s2.widen (by omega) (by omega)), fun _ => ⟨⟨by omega, by decide⟩, HP.out.1.sub s2 (.inl (by omega)), a2⟩⟩
    · cases hm : shortOf x.toNat with
      | some y =>
        have hs : stepI .back x = (insT, [UInt8.ofNat y]) := by simp only [stepI, hm]
        rw [open_low (short_lt hm).1] at hp
        cases hp
        rw [hs]
        have hO := fun w' => open_short w' b o 1 0 0 x.toNat y hm
        have HO := Lib.hid hO
        obtain ⟨z, hz⟩ : ∃ z : ByteArray, z = ⟨#[UInt8.ofNat y]⟩ := ⟨_, rfl⟩
        simp only [errI, insT]
        rw [show (⟨[UInt8.ofNat y].toArray⟩ : ByteArray) = z from hz.symm]
        rw [← hz] at HO
        by_cases h34 : x.toNat = 34
        · have g3 : ((x.toNat : Nat) : Int) = 34 := by omega
          rw [g3] at HS g HO ⊢
          clear hS hs hC hT hu h32 hO hz hm h34 g3
          go_enter Try.func35, Try.ntmps35
          go_wp2_with fail
          refine HS.out.mono ?_
          rintro e w' ⟨rfl, hp⟩
          simp only [Option.isSome]
          have hT' := HT.out.sub hp.2 (.inr (by omega))
          obtain ⟨⟨hd0, he0⟩, ⟨hd1, he1⟩, hd2, he2⟩ := hT'.zeros 1 0 0 rfl rfl rfl
          have HO' := Lib.hid (HO.out w' hT')
          have HP := Lib.hid hp
          clear hp hT'
          go_wp2_with fail
          refine HO'.out.mono ?_
          rintro e w2 ⟨rfl, a2, s2⟩
          go_wp2
          go_ret2
          exact ⟨rfl, (HP.out.2.widen (Nat.le_refl _) (by omega)).trans (s2.widen (by omega) (by omega)), fun _ => ⟨⟨by omega, rfl, rfl⟩, HP.out.1.sub s2 (.inl (by omega)), a2⟩⟩
        · have g2 : (((x.toNat : Nat) : Int) == 34) = false := u8z x 34 h34
          clear hS hs hC hT hu h32 hO hz hm h34
          go_enter Try.func35, Try.ntmps35
          go_wp2_with fail
          refine HS.out.mono ?_
          rintro e w' ⟨rfl, hp⟩
          simp only [Option.isSome]
          have hT' := HT.out.sub hp.2 (.inr (by omega))
          obtain ⟨⟨hd0, he0⟩, ⟨hd1, he1⟩, hd2, he2⟩ := hT'.zeros 1 0 0 rfl rfl rfl
          have HO' := Lib.hid (HO.out w' hT')
          have HP := Lib.hid hp
          clear hp hT'
          go_wp2_with fail
          refine HO'.out.mono ?_
          rintro e w2 ⟨rfl, a2, s2⟩
          go_wp2
          go_ret2
          exact ⟨rfl, (HP.out.2.widen (Nat.le_refl _) (by omega)).trans (s2.widen (by omega) (by omega)), fun _ => ⟨⟨by omega, rfl, rfl⟩, HP.out.1.sub s2 (.inl (by omega)), a2⟩⟩
      | none =>
        have h34 : x.toNat ≠ 34 := fun e => by rw [e, show shortOf 34 = some 34 by decide] at hm; cases hm
        have hs : stepI .back x = (.bad false, []) := by
          simp only [stepI, hm, hp]
          rw [if_neg hu]
          rfl
        rw [hs]
        have HO := Lib.hid (fun w' => open_no w' b o x.toNat hm hu)
        have g2 : (((x.toNat : Nat) : Int) == 34) = false := u8z x 34 h34
        simp only [errI]
        clear hS hs hC hT hu h32 hm h34 hp
        go_enter Try.func35, Try.ntmps35
        go_wp2_with fail
        refine HS.out.mono ?_
        rintro e w' ⟨rfl, hp⟩
        simp only [Option.isSome]
        have hT' := HT.out.sub hp.2 (.inr (by omega))
        obtain ⟨⟨hd0, he0⟩, ⟨hd1, he1⟩, hd2, he2⟩ := hT'.zeros 1 0 0 rfl rfl rfl
        have HP : Hid (TPost w b o (.bad false) w') := Lib.hid (tpost_bad hp.2 (by omega))
        clear hp hT'
        go_wp2_with fail
        refine (HO.out _).mono ?_
        rintro e w2 ⟨rfl, rfl⟩
        go_wp2
        go_ret2
        exact ⟨rfl, HP.out⟩
end Go.Proofs.Yteonbajndghfcaa
