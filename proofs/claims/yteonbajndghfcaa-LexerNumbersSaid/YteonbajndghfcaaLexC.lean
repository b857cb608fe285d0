/-
  CONTRACTS of lexer.Lexer, part C: where a Lexer stands; begin.
-/
import Derived.Test.YteonbajndghfcaaLexB
namespace Go.Proofs.Yteonbajndghfcaa
open Go.RowKit
open Go.Lib
theorem insE_eq (s : Ins) : insE s = errI s := by
  match s with
  | .text _ _ _ => rfl
  | .back => rfl
  | .hex _ _ => rfl
  | .high _ _ _ => rfl
  | .bad true => rfl
  | .bad false => rfl
def errX : Lx → Nat
  | .bad e => e
  | _ => 0
/-- THE LEXER at place o of block b stands at a state. -/
def LAt (w : World) (b o : Nat) : Lx → Prop
  | .bad e => e ≠ 0 ∧ At w b o (lxZ e)
  | .idle => At w b o (lxZ 0)
  | .str s t => (errI s = 0 ∧ t.length ≤ 200) ∧ At w b o [.int .i64 0, .int .i64 1] ∧ EAt w b (o + 2) s ∧ At w b (o + 10) [.string ⟨t.toArray⟩] ∧ Room w b o 18
  | .num d => errD d = 0 ∧ At w b o [.int .i64 0, .int .i64 2] ∧ At w b (o + 10) [.string ⟨#[]⟩] ∧ DAt w b (o + 11) d ∧ Room w b o 18
  | .word k r => ∃ W i, Wrd k W i r ∧ At w b o [.int .i64 0, .int .i64 3] ∧ At w b (o + 10) [.string ⟨#[]⟩] ∧ At w b (o + 16) [.string W, .int .i64 (i : Nat)] ∧ Room w b o 18
theorem lxz_room {w : World} {b o : Nat} {e : Int} (h : At w b o (lxZ e)) : Room w b o 18 := h.room (by simp)
theorem LAt.room {w : World} {b o : Nat} {s : Lx} (h : LAt w b o s) : Room w b o 18 := by
  match s, h with
  | .bad e, h => exact lxz_room h.2
  | .idle, h => exact lxz_room h
  | .str s t, h => exact h.2.2.2.2
  | .num d, h => exact h.2.2.2.2
  | .word k r, h => obtain ⟨W, i, _, _, _, _, h⟩ := h; exact h
theorem LAt.keep {w w' : World} {b o : Nat} {s : Lx} (h : LAt w b o s) (hk : w'.heap[b]? = w.heap[b]?) : LAt w' b o s := by
  match s, h with
  | .bad e, h => exact ⟨h.1, h.2.keep hk⟩
  | .idle, h => exact At.keep h hk
  | .str s t, h => exact ⟨h.1, h.2.1.keep hk, h.2.2.1.keep hk, h.2.2.2.1.keep hk, h.2.2.2.2.keep hk⟩
  | .num d, h => exact ⟨h.1, h.2.1.keep hk, h.2.2.1.keep hk, h.2.2.2.1.keep hk, h.2.2.2.2.keep hk⟩
  | .word k r, h => obtain ⟨W, i, h0, h1, h2, h3, h4⟩ := h; exact ⟨W, i, h0, h1.keep hk, h2.keep hk, h3.keep hk, h4.keep hk⟩
theorem LAt.lt {w : World} {b o : Nat} {s : Lx} (h : LAt w b o s) : b < w.heap.size := h.room.lt
theorem LAt.below {w w' : World} {b o B : Nat} {s : Lx} (h : LAt w b o s) (hb : Below B w w') (hB : b < B) : LAt w' b o s := h.keep (hb.block b hB)
theorem LAt.alloc {w : World} {b o : Nat} {s : Lx} (h : LAt w b o s) (x : Obj) : LAt (w.alloc x) b o s := h.keep (Below.heap_alloc w x b h.lt)
theorem LAt.sub {w w' : World} {b o o' n : Nat} {s : Lx} (h : LAt w b o s) (k : Sub b o' n w w') (hd : o + 18 ≤ o' ∨ o' + n ≤ o) : LAt w' b o s := by
  match s, h with
  | .bad e, h => exact ⟨h.1, h.2.sub k (by simp only [List.length_cons, List.length_nil]; omega)⟩
  | .idle, h => exact At.sub h k (by simp only [List.length_cons, List.length_nil]; omega)
  | .str s t, h => exact ⟨h.1, h.2.1.sub k (by simp only [List.length_cons, List.length_nil]; omega), h.2.2.1.sub k (by omega), h.2.2.2.1.sub k (by simp only [List.length_cons, List.length_nil]; omega), h.2.2.2.2.sub k⟩
  | .num d, h => exact ⟨h.1, h.2.1.sub k (by simp only [List.length_cons, List.length_nil]; omega), h.2.2.1.sub k (by simp only [List.length_cons, List.length_nil]; omega), h.2.2.2.1.sub k (by omega), h.2.2.2.2.sub k⟩
  | .word k' r, h =>
    obtain ⟨W, i, h0, h1, h2, h3, h4⟩ := h
    exact ⟨W, i, h0, h1.sub k (by simp only [List.length_cons, List.length_nil]; omega), h2.sub k (by simp only [List.length_cons, List.length_nil]; omega), h3.sub k (by simp only [List.length_cons, List.length_nil]; omega), h4.sub k⟩
/-- The parts of a Lexer that is all zero but its error. -/
theorem lxz_parts {w : World} {b o : Nat} {e : Int} (h : At w b o (lxZ e)) :
    At w b o [.int .i64 e, .int .i64 0] ∧ EAt w b (o + 2) insT ∧ At w b (o + 10) [.string ⟨#[]⟩] ∧ DAt w b (o + 11) d0 ∧ At w b (o + 16) [.string ⟨#[]⟩, .int .i64 0] ∧ Room w b o 18 := by
  have h0 : At w b o ([.int .i64 e, .int .i64 0] ++ (rdZero.toList ++ ([.string ⟨#[]⟩] ++ (nmCells 0 0 false 0 0 ++ [.string ⟨#[]⟩, .int .i64 0])))) := h
  have h1 := h0.right
  have h2 := h1.right
  have h3 := h2.right
  have h4 := h3.right
  exact ⟨h0.left, eat_of h1.left, h2.left, dat_zero h3.left, h4, lxz_room h⟩
/-- What a step leaves ahead of told. -/
def LPost (w : World) (b o : Nat) (s : Lx) (w' : World) : Prop := Sub b o 18 w w' ∧ (errX s = 0 → LAt w' b o s)
theorem LPost.idle {w w' : World} {b o : Nat} (h : At w' b o (lxZ 0)) (k : Sub b o 18 w w') : LPost w b o .idle w' := ⟨k, fun _ => h⟩
set_option maxHeartbeats 1000000 in
theorem begin_blank {w : World} (p : Value) (x : Nat) (hx : x = 32 ∨ x = 9 ∨ x = 10 ∨ x = 13) :
    Calls Try.prog 22 #[p, .int .u8 x] w fun r w' => r = .returned (.tuple #[.slice none 0 0, .int .i64 0]) ∧ w' = w := by
  rcases hx with rfl | rfl | rfl | rfl
  all_goals
    go_enter Try.func22, Try.ntmps22
    go_wp2
    go_ret2
    exact ⟨rfl, rfl⟩
set_option maxHeartbeats 1000000 in
theorem begin_sign {w : World} {b o : Nat} (h : At w b o (lxZ 0)) (x : Nat) (hx : x = 123 ∨ x = 125 ∨ x = 91 ∨ x = 93 ∨ x = 58 ∨ x = 44) :
    Calls Try.prog 22 #[.pointer (some ⟨b, o, none⟩), .int .u8 x] w fun r w' => ∃ v, r = .returned (.tuple #[v, .int .i64 0]) ∧ Tks w w' v [sgnT x] ∧ At w' b o (lxZ 0) ∧ Sub b o 18 w w' := by
  have HE : Hid (Calls Try.prog 24 #[.pointer (some ⟨b, o, none⟩), .agg #[.int .u8 x, .string ⟨#[]⟩, .bool false, .int .u64 0]] w fun r w' => ∃ v, r = .returned v ∧ Tks w w' v [sgnT x] ∧ At w' b o (lxZ 0) ∧ Sub b o 18 w w') := Lib.hid (lend_at (lxz_room h) (sgnT x))
  clear h
  rcases hx with rfl | rfl | rfl | rfl | rfl | rfl
  all_goals
    go_enter Try.func22, Try.ntmps22
    go_wp2_with fail
    refine HE.out.mono ?_
    rintro r w1 ⟨v, rfl, hT⟩
    have HT := Lib.hid hT
    clear hT
    go_wp2
    go_ret2
    exact ⟨v, rfl, HT.out⟩
theorem at_two {w : World} {b o : Nat} {v0 v1 : Value} (h : At w b o [v0, v1]) : (w.cell? ⟨b, o, none⟩ = some v0 ∧ w.frozen? ⟨b, o, none⟩ = false) ∧ (w.cell? ⟨b, o + 1, none⟩ = some v1 ∧ w.frozen? ⟨b, o + 1, none⟩ = false) := ⟨h 0 v0 rfl, h 1 v1 rfl⟩
set_option maxHeartbeats 1000000 in
theorem begin_quote {w : World} {b o : Nat} (h : At w b o (lxZ 0)) :
    Calls Try.prog 22 #[.pointer (some ⟨b, o, none⟩), .int .u8 34] w fun r w' => r = .returned (.tuple #[.slice none 0 0, .int .i64 0]) ∧ LPost w b o (.str insT []) w' := by
  obtain ⟨h0, h1, h2, h3, h4, h5⟩ := lxz_parts h
  have hs := sub_setCell (b := b) (o := o + 1) (n := 1) w (o + 1) (.int .i64 1) (by omega)
  have HP : Hid (LPost w b o (.str insT []) (w.setCell ⟨b, o + 1, none⟩ (.int .i64 1))) := Lib.hid
    ⟨hs.widen (by omega) (by omega), fun _ => ⟨⟨rfl, by simp⟩, h0.set 1 (by simp) _, h1.sub hs (by omega), h2.sub hs (by simp only [List.length_cons, List.length_nil]; omega), h5.sub hs⟩⟩
  obtain ⟨_, c1, f1⟩ := at_two h0
  clear h h0 h1 h2 h3 h4 h5 hs
  go_enter Try.func22, Try.ntmps22
  go_wp2
  go_ret2
  exact ⟨rfl, HP.out⟩
set_option maxHeartbeats 1000000 in
theorem begin_word {w : World} {b o : Nat} (h : At w b o (lxZ 0)) (x : Nat) (hx : x = 116 ∨ x = 102 ∨ x = 110) :
    Calls Try.prog 22 #[.pointer (some ⟨b, o, none⟩), .int .u8 x] w fun r w' => r = .returned (.tuple #[.slice none 0 0, .int .i64 0]) ∧ LPost w b o (startX x).1 w' ∧ (startX x).2 = [] := by
  obtain ⟨k, W, r, hW, hst, hC⟩ := wordOf_any x hx w
  rw [hst]
  obtain ⟨h0, _, h2, _, h4, h5⟩ := lxz_parts h
  have s1 := sub_setCell (b := b) (o := o + 1) (n := 1) w (o + 1) (.int .i64 3) (by omega)
  have s2 := sub_setCell (b := b) (o := o + 16) (n := 2) (w.setCell ⟨b, o + 1, none⟩ (.int .i64 3)) (o + 16) (.string W) (by omega)
  have s3 := sub_setCell (b := b) (o := o + 16) (n := 2) ((w.setCell ⟨b, o + 1, none⟩ (.int .i64 3)).setCell ⟨b, o + 16, none⟩ (.string W)) (o + 17) (.int .i64 1) (by omega)
  have ss := s2.trans s3
  have a4 := ((h4.sub s1 (by omega)).set 0 (by simp) (.string W)).set 1 (by simp) (.int .i64 1)
  have HP : Hid (LPost w b o (.word k r) (((w.setCell ⟨b, o + 1, none⟩ (.int .i64 3)).setCell ⟨b, o + 16, none⟩ (.string W)).setCell ⟨b, o + 17, none⟩ (.int .i64 1))) := Lib.hid
    ⟨(s1.widen (by omega) (by omega)).trans (ss.widen (by omega) (by omega)), fun _ => ⟨W, 1, hW, (h0.set 1 (by simp) _).sub ss (by simp only [List.length_set, List.length_cons, List.length_nil]; omega), (h2.sub s1 (by omega)).sub ss (by simp only [List.length_cons, List.length_nil]; omega), a4, (h5.sub s1).sub ss⟩⟩
  obtain ⟨_, c1, f1⟩ := at_two h0
  obtain ⟨⟨c2, f2⟩, c3, f3⟩ := at_two h4
  have HC := Lib.hid hC
  clear h h0 h2 h4 h5 s1 s2 s3 ss a4 hW hst hC
  rcases hx with rfl | rfl | rfl
  all_goals
    go_enter Try.func22, Try.ntmps22
    go_wp2_with fail
    refine HC.out.mono ?_
    rintro r w1 ⟨rfl, rfl⟩
    go_wp2
    go_ret2
    exact ⟨rfl, HP.out, trivial⟩
set_option maxHeartbeats 1000000 in
theorem bnum_at {w : World} {b o : Nat} (h : At w b o (lxZ 0)) (x : Nat) :
    Calls Try.prog 31 #[.pointer (some ⟨b, o, none⟩), .int .u8 x] w fun r w' => r = .returned (.tuple #[.slice none 0 0, .int .i64 (errD (stepD d0 x).1)]) ∧ Sub b o 18 w w' ∧ (errD (stepD d0 x).1 = 0 → LAt w' b o (.num (stepD d0 x).1)) := by
  obtain ⟨h0, _, h2, h3, _, h5⟩ := lxz_parts h
  have s1 := sub_setCell (b := b) (o := o + 1) (n := 1) w (o + 1) (.int .i64 2) (by omega)
  have HD := Lib.hid (dstep_at (h3.sub s1 (by omega)) x)
  have HP : Hid (∀ w', DPost (w.setCell ⟨b, o + 1, none⟩ (.int .i64 2)) b (o + 11) (stepD d0 x).1 w' → Sub b o 18 w w' ∧ (errD (stepD d0 x).1 = 0 → LAt w' b o (.num (stepD d0 x).1))) := Lib.hid (fun w' hp =>
    ⟨(s1.widen (by omega) (by omega)).trans (hp.2.widen (by omega) (by omega)), fun he => ⟨he, (h0.set 1 (by simp) _).sub hp.2 (by simp only [List.length_set, List.length_cons, List.length_nil]; omega), (h2.sub s1 (by omega)).sub hp.2 (by simp only [List.length_cons, List.length_nil]; omega), hp.1, (h5.sub s1).sub hp.2⟩⟩)
  obtain ⟨_, c1, f1⟩ := at_two h0
  clear h h0 h2 h3 h5 s1
  generalize stepD d0 x = q at *
  obtain ⟨q1, q2⟩ := q
  simp only [] at HD HP ⊢
  obtain ⟨E, hE⟩ : ∃ E : Nat, errD q1 = E := ⟨_, rfl⟩
  rw [hE] at HD HP ⊢
  clear hE
  go_enter Try.func31, Try.ntmps31
  go_wp2_with fail
  refine HD.out.mono ?_
  rintro r w1 ⟨rfl, hp⟩
  have HQ := Lib.hid (HP.out w1 hp)
  clear hp
  go_wp2
  go_ret2
  exact ⟨rfl, HQ.out⟩
def isElse (x : Nat) : Prop := isBlank x = false ∧ isSgn x = false ∧ x ≠ 34 ∧ x ≠ 116 ∧ x ≠ 102 ∧ x ≠ 110
theorem start_else {x : Nat} (h : isElse x) : (errD (stepD d0 x).1 = 0 → startX x = (.num (stepD d0 x).1, [])) ∧ (errD (stepD d0 x).1 ≠ 0 → startX x = (.bad (errD (stepD d0 x).1), [])) := by
  obtain ⟨h1, h2, h3, h4, h5, h6⟩ := h
  unfold startX
  rw [if_neg (by rw [h1]; decide), if_neg (by rw [h2]; decide), if_neg h3]
  by_cases hd : x = 45 ∨ 48 ≤ x ∧ x ≤ 57
  · rw [if_pos hd]
    refine ⟨fun _ => rfl, fun he => absurd ?_ he⟩
    rcases hd with rfl | hd
    · rfl
    · simp only [d0, stepD]
      rw [if_neg (by omega), if_pos ⟨hd, by omega⟩]
      split <;> rfl
  · rw [if_neg hd, if_neg h4, if_neg h5, if_neg h6]
    have : errD (stepD d0 x).1 = 2 := by
      simp only [d0, stepD]
      rw [if_neg (by omega), if_neg (by omega), if_pos (by omega)]
      rfl
    rw [this]
    exact ⟨fun h => absurd h (by decide), fun _ => rfl⟩
set_option maxHeartbeats 2000000 in
theorem begin_else {w : World} {b o : Nat} (h : At w b o (lxZ 0)) (x : Nat) (hx : isElse x) :
    Calls Try.prog 22 #[.pointer (some ⟨b, o, none⟩), .int .u8 x] w fun r w' => r = .returned (.tuple #[.slice none 0 0, .int .i64 (errX (startX x).1)]) ∧ LPost w b o (startX x).1 w' ∧ (startX x).2 = [] := by
  obtain ⟨g1, g2⟩ := start_else hx
  have HB : Hid (Calls Try.prog 31 #[.pointer (some ⟨b, o, none⟩), .int .u8 x] w fun r w' => r = .returned (.tuple #[.slice none 0 0, .int .i64 (errX (startX x).1)]) ∧ LPost w b o (startX x).1 w' ∧ (startX x).2 = []) := Lib.hid (by
    refine (bnum_at h x).mono ?_
    rintro r w' ⟨rfl, hs, hL⟩
    by_cases he : errD (stepD d0 x).1 = 0
    · rw [g1 he]
      exact ⟨by rw [he]; rfl, ⟨hs, fun _ => hL he⟩, rfl⟩
    · rw [g2 he]
      exact ⟨rfl, ⟨hs, fun e => absurd e he⟩, rfl⟩)
  obtain ⟨h1, h2, h3, h4, h5, h6⟩ := hx
  simp only [isBlank, isSgn, Bool.or_eq_false_iff, beq_eq_false_iff_ne] at h1 h2
  have hne : ∀ y : Nat, x ≠ y → ((x : Int) == (y : Int)) = false := fun y hy => by rw [beq_eq_false_iff_ne]; omega
  have a1 : ((x : Int) == 32) = false := hne 32 (by omega)
  have a2 : ((x : Int) == 9) = false := hne 9 (by omega)
  have a3 : ((x : Int) == 10) = false := hne 10 (by omega)
  have a4 : ((x : Int) == 13) = false := hne 13 (by omega)
  have a5 : ((x : Int) == 123) = false := hne 123 (by omega)
  have a6 : ((x : Int) == 125) = false := hne 125 (by omega)
  have a7 : ((x : Int) == 91) = false := hne 91 (by omega)
  have a8 : ((x : Int) == 93) = false := hne 93 (by omega)
  have a9 : ((x : Int) == 58) = false := hne 58 (by omega)
  have a10 : ((x : Int) == 44) = false := hne 44 (by omega)
  have a11 : ((x : Int) == 34) = false := hne 34 (by omega)
  have a12 : ((x : Int) == 116) = false := hne 116 (by omega)
  have a13 : ((x : Int) == 102) = false := hne 102 (by omega)
  have a14 : ((x : Int) == 110) = false := hne 110 (by omega)
  clear h h1 h2 h3 h4 h5 h6 g1 g2 hne
  generalize startX x = q at *
  obtain ⟨q1, q2⟩ := q
  simp only [] at HB ⊢
  obtain ⟨E, hE⟩ : ∃ E : Nat, errX q1 = E := ⟨_, rfl⟩
  rw [hE] at HB ⊢
  clear hE
  go_enter Try.func22, Try.ntmps22
  go_wp2_with fail
  refine HB.out.mono ?_
  rintro r w1 ⟨rfl, hp⟩
  have HQ := Lib.hid hp
  clear hp
  go_wp2
  go_ret2
  exact ⟨rfl, HQ.out⟩
/-- BEGIN. -/
theorem begin_at {w : World} {b o : Nat} (h : At w b o (lxZ 0)) (x : Nat) :
    Calls Try.prog 22 #[.pointer (some ⟨b, o, none⟩), .int .u8 x] w fun r w' => ∃ v, r = .returned (.tuple #[v, .int .i64 (errX (startX x).1)]) ∧ Tks w w' v (startX x).2 ∧ LPost w b o (startX x).1 w' := by
  by_cases h1 : isBlank x = true
  · have e : startX x = (.idle, []) := by unfold startX; rw [if_pos h1]
    rw [e]
    refine (begin_blank _ x (by simp only [isBlank, Bool.or_eq_true, beq_iff_eq] at h1; omega)).mono ?_
    rintro r w' ⟨rfl, rfl⟩
    exact ⟨_, rfl, Tks.nil_ _ _, Sub.refl _ _ _ _, fun _ => h⟩
  by_cases h2 : isSgn x = true
  · have e : startX x = (.idle, [sgnT x]) := by unfold startX; rw [if_neg h1, if_pos h2]
    rw [e]
    refine (begin_sign h x (by simp only [isSgn, Bool.or_eq_true, beq_iff_eq] at h2; omega)).mono ?_
    rintro r w' ⟨v, rfl, hT, hA, hS⟩
    exact ⟨v, rfl, hT, LPost.idle hA hS⟩
  by_cases h3 : x = 34
  · subst h3
    refine (begin_quote h).mono ?_
    rintro r w' ⟨rfl, hP⟩
    exact ⟨_, rfl, Tks.nil_ _ _, hP⟩
  by_cases h4 : x = 116 ∨ x = 102 ∨ x = 110
  · have e : errX (startX x).1 = 0 := by rcases h4 with rfl | rfl | rfl <;> rfl
    rw [e]
    refine (begin_word h x h4).mono ?_
    rintro r w' ⟨rfl, hP, hn⟩
    rw [hn]
    exact ⟨_, rfl, Tks.nil_ _ _, hP⟩
  refine (begin_else h x ⟨by simpa using h1, by simpa using h2, h3, by omega, by omega, by omega⟩).mono ?_
  rintro r w' ⟨rfl, hP, hn⟩
  rw [hn]
  exact ⟨_, rfl, Tks.nil_ _ _, hP⟩
end Go.Proofs.Yteonbajndghfcaa
