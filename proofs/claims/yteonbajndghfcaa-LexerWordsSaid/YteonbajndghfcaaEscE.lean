/-
  CONTRACTS of escape.Reader, part E: Step, Whole; a new Reader; a nil one; what stands beside it.
-/
import Derived.Test.YteonbajndghfcaaEscD
namespace Go.Proofs.Yteonbajndghfcaa
open Go.RowKit
open Go.Lib
/-- The Reader at place o of block b stands at a state. -/
def EAt (w : World) (b o : Nat) (s : Ins) : Prop := At w b o [.int .i64 (errI s)] ∧ (errI s = 0 → WfI s ∧ CAt w b (o + 1) (utfI s) ∧ At w b (o + 5) (tail3 (seenI s) (codeI s) (highI s)))
theorem EAt.keep {w w' : World} {b o : Nat} {s : Ins} (h : EAt w b o s) (hk : w'.heap[b]? = w.heap[b]?) : EAt w' b o s := ⟨h.1.keep hk, fun e => ⟨(h.2 e).1, (h.2 e).2.1.keep hk, (h.2 e).2.2.keep hk⟩⟩
theorem EAt.lt {w : World} {b o : Nat} {s : Ins} (h : EAt w b o s) : b < w.heap.size := h.1.lt (by simp)
theorem EAt.below {w w' : World} {b o B : Nat} {s : Ins} (h : EAt w b o s) (hb : Below B w w') (hB : b < B) : EAt w' b o s := h.keep (hb.block b hB)
theorem EAt.wf {w : World} {b o : Nat} {s : Ins} (h : EAt w b o s) (e : errI s = 0) : WfI s := (h.2 e).1
theorem EAt.sub {w w' : World} {b o o' n : Nat} {s : Ins} (h : EAt w b o s) (k : Sub b o' n w w') (hd : o + 8 ≤ o' ∨ o' + n ≤ o) : EAt w' b o s :=
  ⟨h.1.sub k (by simp only [List.length_singleton]; omega), fun e => ⟨(h.2 e).1, (h.2 e).2.1.sub k (by omega), (h.2 e).2.2.sub k (by simp only [tail3, List.length_cons, List.length_nil]; omega)⟩⟩
theorem bad_of {s : Ins} (h : errI s ≠ 0) : ∃ u, s = .bad u := by
  match s with
  | .text _ _ _ => exact absurd rfl h
  | .back => exact absurd rfl h
  | .hex _ _ => exact absurd rfl h
  | .high _ _ _ => exact absurd rfl h
  | .bad u => exact ⟨u, rfl⟩
theorem take_at {w : World} {b o : Nat} {s : Ins} (he : errI s = 0) (hW : WfI s) (hC : CAt w b (o + 1) (utfI s)) (hT : At w b (o + 5) (tail3 (seenI s) (codeI s) (highI s))) (x : UInt8) :
    Calls Try.prog 35 #[.pointer (some ⟨b, o, none⟩), .int .u8 x.toNat] w fun e w' =>
      e = .returned (.tuple #[.string ⟨(stepI s x).2.toArray⟩, .int .i64 (errI (stepI s x).1)]) ∧ TPost w b o (stepI s x).1 w' := by
  match s with
  | .text n lo hi => exact take_text w b o n lo hi hW hC hT x
  | .back => exact take_back w b o hC hT x
  | .hex k v => exact take_hex w b o k v hW hC hT x
  | .high h k c => exact take_high w b o h k c hW hC hT x
  | .bad u => cases u <;> cases he
set_option maxRecDepth 100000 in
set_option maxHeartbeats 1600000 in
/-- STEP. -/
theorem estep_at {w : World} {b o : Nat} {s : Ins} (h : EAt w b o s) (x : UInt8) :
    Calls Try.prog 26 #[.pointer (some ⟨b, o, none⟩), .int .u8 x.toNat] w fun e w' =>
      e = .returned (.tuple #[.string ⟨(stepI s x).2.toArray⟩, .int .i64 (errI (stepI s x).1)]) ∧ EAt w' b o (stepI s x).1 ∧ Sub b o 8 w w' := by
  by_cases he : errI s = 0
  · obtain ⟨hA, hR⟩ := h
    obtain ⟨hW, hC, hT⟩ := hR he
    have hK := take_at he hW hC hT x
    obtain ⟨hc', hf⟩ := hA 0 _ rfl
    have hc : w.cell? ⟨b, o, none⟩ = some (.int .i64 0) := by rw [he] at hc'; exact hc'
    have hP : ∀ w', TPost w b o (stepI s x).1 w' → (w'.cell? ⟨b, o, none⟩ = some (.int .i64 0) ∧ w'.frozen? ⟨b, o, none⟩ = false) ∧ EAt (w'.setCell ⟨b, o, none⟩ (.int .i64 (errI (stepI s x).1))) b o (stepI s x).1 ∧ Sub b o 8 w (w'.setCell ⟨b, o, none⟩ (.int .i64 (errI (stepI s x).1))) := by
      intro w' hp
      have a1 := hA.sub hp.1 (.inl (by simp))
      have hs := sub_setCell (b := b) (o := o) (n := 1) w' o (.int .i64 (errI (stepI s x).1)) (by omega)
      have a2 := a1 0 _ rfl
      rw [he] at a2
      refine ⟨a2, ⟨a1.set 0 (by simp) _, fun e => ?_⟩, (hp.1.widen (by omega) (by omega)).trans (hs.widen (by omega) (by omega))⟩
      obtain ⟨q1, q2, q3⟩ := hp.2 e
      exact ⟨q1, q2.sub hs (.inr (by omega)), q3.sub hs (.inr (by omega))⟩
    have HP := Lib.hid hP
    have HK := Lib.hid hK
    clear hP hK hA hR hW hC hT hc' he
    generalize (stepI s x).1 = s' at *
    generalize (stepI s x).2 = l at *
    obtain ⟨z, hz⟩ : ∃ z : ByteArray, (⟨l.toArray⟩ : ByteArray) = z := ⟨_, rfl⟩
    rw [hz] at HK ⊢
    clear hz
    obtain ⟨E, hE⟩ : ∃ E, ((errI s' : Nat) : Int) = E := ⟨_, rfl⟩
    rw [hE] at HP HK ⊢
    clear hE
    go_enter Try.func26, Try.ntmps26
    go_wp2_with fail
    refine HK.out.mono ?_
    rintro e w' ⟨rfl, hp⟩
    obtain ⟨⟨hc', hf'⟩, hq⟩ := HP.out w' hp
    have HQ := Lib.hid hq
    clear hp hq
    go_wp2
    go_ret2
    exact ⟨rfl, HQ.out⟩
  · obtain ⟨u, rfl⟩ := bad_of he
    obtain ⟨hc, hf⟩ := h.1 0 _ rfl
    have hE : (((errI (.bad u) : Nat) : Int) == 0) = false := by rw [beq_eq_false_iff_ne]; omega
    have hE2 : (((errI (.bad u) : Nat) : Int) = 0) = False := by simp only [eq_iff_iff, iff_false]; omega
    have hn : (0 : Int) < ((errI (.bad u) : Nat) : Int) := by omega
    simp only [stepI]
    have HP : Hid (EAt w b o (.bad u)) := Lib.hid h
    obtain ⟨E, hEE⟩ : ∃ E, ((errI (.bad u) : Nat) : Int) = E := ⟨_, rfl⟩
    rw [hEE] at hc hE hE2 hn ⊢
    have hc0 : w.cell? ⟨b, o, none⟩ = some (.int .i64 E) := hc
    clear h hc he hEE
    go_enter Try.func26, Try.ntmps26
    go_wp2_with fail
    go_region
    go_wp2
    go_ret2
    exact ⟨rfl, HP.out, (Sub.refl _ _ _ _).drew⟩
theorem estep_nil (x : Int) (w : World) : Calls Try.prog 26 #[.pointer none, .int .u8 x] w fun e w' => e = .returned (.tuple #[.string ⟨#[]⟩, .int .i64 14]) ∧ w = w' := by
  go_enter Try.func26, Try.ntmps26
  go_wp2
  go_ret2
  exact ⟨rfl, rfl⟩
theorem ewhole_nil (w : World) : Calls Try.prog 25 #[.pointer none] w fun e w' => e = .returned (.bool false) ∧ w = w' := by
  go_enter Try.func25, Try.ntmps25
  go_wp2
  go_ret
  exact ⟨rfl, rfl⟩
set_option maxRecDepth 100000 in
set_option maxHeartbeats 1600000 in
theorem ewhole_bad {w : World} {b o : Nat} {u : Bool} (h : EAt w b o (.bad u)) :
    Calls Try.prog 25 #[.pointer (some ⟨b, o, none⟩)] w fun e w' => e = .returned (.bool false) ∧ w = w' := by
  obtain ⟨hc, hf⟩ := h.1 0 _ rfl
  have hE : (((errI (.bad u) : Nat) : Int) == 0) = false := by cases u <;> rfl
  obtain ⟨E, hEE⟩ : ∃ E, ((errI (.bad u) : Nat) : Int) = E := ⟨_, rfl⟩
  rw [hEE] at hc hE
  have hc0 : w.cell? ⟨b, o, none⟩ = some (.int .i64 E) := hc
  clear h hc hEE
  go_enter Try.func25, Try.ntmps25
  go_wp2
  go_ret
  exact ⟨rfl, rfl⟩
set_option maxRecDepth 100000 in
set_option maxHeartbeats 1600000 in
theorem ewhole_open {w : World} {b o n c hi : Nat} (h0 : At w b o [.int .i64 (0 : Nat)]) (hT : At w b (o + 5) (tail3 n c hi)) (hne : n ≠ 0 ∨ hi ≠ 0) :
    Calls Try.prog 25 #[.pointer (some ⟨b, o, none⟩)] w fun e w' => e = .returned (.bool false) ∧ w = w' := by
  obtain ⟨hc', hf⟩ := h0 0 _ rfl
  have hc : w.cell? ⟨b, o, none⟩ = some (.int .i64 0) := hc'
  obtain ⟨⟨hd0, he0⟩, ⟨hd1, he1⟩, hd2, he2⟩ := hT.tail
  clear h0 hT hc'
  by_cases hn : n = 0
  · subst hn
    have hd0' : w.cell? ⟨b, o + 5, none⟩ = some (.int .i64 0) := hd0
    have z : ((hi : Int) == 0) = false := by rw [beq_eq_false_iff_ne]; omega
    clear hd0 hne
    go_enter Try.func25, Try.ntmps25
    go_wp2
    go_ret
    exact ⟨rfl, rfl⟩
  · have z : ((n : Int) == 0) = false := by rw [beq_eq_false_iff_ne]; omega
    clear hne
    go_enter Try.func25, Try.ntmps25
    go_wp2
    go_ret
    exact ⟨rfl, rfl⟩
set_option maxRecDepth 100000 in
set_option maxHeartbeats 1600000 in
theorem ewhole_text {w : World} {b o : Nat} {s : Option (Nat × Nat × Nat)} (h0 : At w b o [.int .i64 (0 : Nat)]) (hC : CAt w b (o + 1) s) (hT : At w b (o + 5) (tail3 0 0 0)) :
    Calls Try.prog 25 #[.pointer (some ⟨b, o, none⟩)] w fun e w' => e = .returned (.bool (wholeS s)) ∧ w = w' := by
  obtain ⟨hc', hf⟩ := h0 0 _ rfl
  have hc : w.cell? ⟨b, o, none⟩ = some (.int .i64 0) := hc'
  obtain ⟨⟨hd0, he0⟩, ⟨hd1, he1⟩, hd2, he2⟩ := hT.zeros 0 0 0 rfl rfl rfl
  have HW := Lib.hid (whole_at hC)
  generalize wholeS s = q at *
  clear h0 hT hc' hC
  go_enter Try.func25, Try.ntmps25
  go_wp2_with fail
  refine HW.out.mono ?_
  rintro e w' ⟨rfl, rfl⟩
  go_wp2
  go_ret
  exact ⟨rfl, rfl⟩
/-- WHOLE. -/
theorem ewhole_at {w : World} {b o : Nat} {s : Ins} (h : EAt w b o s) :
    Calls Try.prog 25 #[.pointer (some ⟨b, o, none⟩)] w fun e w' => e = .returned (.bool (wholeI s)) ∧ w = w' := by
  match s with
  | .bad u => exact ewhole_bad h
  | .back =>
    obtain ⟨_, hC, hT⟩ := h.2 rfl
    exact ewhole_open h.1 hT (.inl (by decide))
  | .hex k v =>
    obtain ⟨_, hC, hT⟩ := h.2 rfl
    exact ewhole_open h.1 hT (.inl (by simp only [seenI]; omega))
  | .high a k c =>
    obtain ⟨hW, hC, hT⟩ := h.2 rfl
    exact ewhole_open h.1 hT (.inr (by have := hW.1; simp only [highI]; omega))
  | .text n lo hi =>
    obtain ⟨_, hC, hT⟩ := h.2 rfl
    have := ewhole_text h.1 hC hT
    have e : wholeS (some (n, lo, hi)) = wholeI (.text n lo hi) := by cases n <;> rfl
    rw [← e]
    exact this
/-- A new one. -/
abbrev rdZero : Array Value := #[.int .i64 0, .int .i64 0, .int .u8 0, .int .u8 0, .bool false, .int .i64 0, .int .i64 0, .int .i64 0]
theorem eat_of {w : World} {b o : Nat} (h : At w b o rdZero.toList) : EAt w b o insT := by
  have h1 : At w b o ([.int .i64 (0 : Nat)] ++ (ckCells 0 0 0 false ++ tail3 0 0 0)) := h
  exact ⟨h1.left, fun _ => ⟨⟨by omega, rfl, rfl⟩, cat_zero (h1.right).left, (h1.right).right⟩⟩
theorem at_block {w : World} {b : Nat} {c : Array Value} {t : TypeId} (h : w.heap[b]? = some (.cells c t (0, 0))) : At w b 0 c.toList := fun j u hj => by
  refine ⟨?_, ?_⟩
  · unfold World.cell?
    simp only [h]
    simpa using hj
  · unfold World.frozen?
    simp only [h]
    simp
theorem eat_new (w : World) : EAt (w.alloc (.cells rdZero 30)) w.heap.size 0 insT := eat_of (at_block (heap_alloc_new w _))
/-- The block of a Reader alone. -/
def RBlk (w : World) (b : Nat) : Prop := ∃ c fr, w.heap[b]? = some (.cells c 30 fr)
theorem rblk_new (w : World) : RBlk (w.alloc (.cells rdZero 30)) w.heap.size := ⟨_, _, heap_alloc_new w _⟩
theorem RBlk.keep {w w' : World} {b : Nat} (h : RBlk w b) (hk : w'.heap[b]? = w.heap[b]?) : RBlk w' b := by
  obtain ⟨c, fr, h⟩ := h
  exact ⟨c, fr, hk.trans h⟩
theorem RBlk.sub {w w' : World} {b b' o n : Nat} (h : RBlk w b) (k : Sub b' o n w w') : RBlk w' b := by
  obtain ⟨c, fr, h⟩ := h
  by_cases e : b = b'
  · subst e
    obtain ⟨c', h', _⟩ := k.shape _ _ _ h
    exact ⟨c', fr, h'⟩
  · exact ⟨c, fr, (k.step.block b (Array.getElem?_eq_some_iff.1 h).1 (by simpa using e)).trans h⟩
theorem RBlk.same {w w' : World} {b : Nat} {a : Option Nat} (h : RBlk w b) (k : Lib.OthersKept 5 a w w') (ha : a ≠ some b) : w'.heap[b]? = w.heap[b]? := by
  obtain ⟨c, fr, h⟩ := h
  rw [h]
  exact k b _ h (fun e => ha e.symm) (fun c' fz he => by injection he with _ h2 _; exact absurd h2 (by decide))
theorem step_len {s : Ins} (hW : WfI s) (x : UInt8) : (stepI s x).2.length ≤ 4 := by
  match s with
  | .bad u => simp [stepI]
  | .text n lo hi =>
    simp only [stepI]
    repeat' split
    all_goals simp
  | .back =>
    simp only [stepI]
    repeat' split
    all_goals simp
  | .hex k v =>
    obtain ⟨hk, hv⟩ := hW
    cases hh : hexV x.toNat with
    | none => rw [step_hex_none hh]; simp
    | some d =>
      by_cases h3 : k < 3
      · rw [step_hex_mid hh h3]; simp
      · have : k = 3 := by omega
        subst this
        rw [step_hex_end hh]
        have hd := (hexV_lt hh).1
        have hcl : v * 16 + d < 65536 := by omega
        generalize v * 16 + d = c at *
        unfold endI
        by_cases q1 : 56320 ≤ c ∧ c ≤ 57343
        · rw [if_pos q1]; simp
        · rw [if_neg q1]
          by_cases q2 : 55296 ≤ c ∧ c ≤ 56319
          · rw [if_pos q2]; simp
          · rw [if_neg q2]
            have h4 := (enc_len (rune_of hcl q1 q2)).2
            generalize encL c = l at h4 ⊢
            exact h4
  | .high h k c =>
    obtain ⟨hh1, hh2, hkc⟩ := hW
    by_cases hl : lowOk k x.toNat = false
    · rw [step_high_no hl]; simp
    have hl' : lowOk k x.toNat = true := by simpa using hl
    by_cases k5 : k < 5
    · rw [step_lt hl' k5 rfl]; simp
    · have hk : k = 5 := by omega
      subst hk
      obtain ⟨d, hd⟩ := (lowOk_byte hl').2.2.2.2 (by omega)
      have hdl := (hexV_lt hd).1
      rw [step_end hl' (lowW_d (by omega) hd)]
      have h4 := (enc_len (pair_rune (h := h) (c := c * 16 + d) ⟨hh1, hh2⟩ (by omega))).2
      generalize encL (pairN h (c * 16 + d)) = l at h4 ⊢
      exact h4
end Go.Proofs.Yteonbajndghfcaa
