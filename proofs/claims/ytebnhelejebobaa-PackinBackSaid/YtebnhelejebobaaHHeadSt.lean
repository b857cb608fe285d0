/-
  CONTRACTS of head.Head (Step, Clear, Value) WHEREVER IT LIES: its six cells, from place o of block b on, hold the state that HeadPure names; no other cell turns.
-/
import Derived.Test.YtebnhelejebobaaG0b
import Derived.Test.YtebnhelejebobaaG0a
import Derived.Test.YtebnhelejebobaaG0c
/-
  CONTRACTS of head.Head (Step, Clear, Value) WHEREVER IT LIES: its six cells, from place o of block b on, hold the state that HeadPure names; no other cell turns.
-/
namespace Go.Proofs.Ytebnhelejebobaa
open Go.RowKit
open Go.Lib
/-- The six cells of a Head. -/
def hd6 (e p m : Nat) (o : Bool) (l v : Nat) : List Value := [.int .i64 e, .int .i64 p, .int .i64 m, .bool o, .int .i64 l, .int .u64 v]
def hdCells : Hd → List Value
  | .bad e => hd6 e 0 0 false 0 0
  | .new => hd6 0 0 0 false 0 0
  | .mid m n v => hd6 0 1 m false n v
  | .fin m v o => hd6 0 2 m o 0 v
/-- What a state of a Head may be. -/
def WfH : Hd → Prop
  | .bad e => e = 2 ∨ e = 14
  | .new => True
  | .mid m n v => m < 8 ∧ 1 ≤ n ∧ n ≤ 8 ∧ (v + 1) * 256 ^ n ≤ 18446744073709551616
  | .fin m v _ => m < 8 ∧ v < 18446744073709551616
def HAt (w : World) (b o : Nat) (s : Hd) : Prop := WfH s ∧ At w b o (hdCells s)
theorem hdCells_len (s : Hd) : (hdCells s).length = 6 := by cases s <;> rfl
theorem HAt.lt {w : World} {b o : Nat} {s : Hd} (h : HAt w b o s) : b < w.heap.size := h.2.lt (by intro e; have := hdCells_len s; rw [e] at this; simp at this)
theorem HAt.map {w w' : World} {b o : Nat} {s : Hd} (h : HAt w b o s) (hk : ∀ vs : List Value, vs.length = 6 → At w b o vs → At w' b o vs) : HAt w' b o s := ⟨h.1, hk _ (hdCells_len s) h.2⟩
theorem HAt.keep {w w' : World} {b o : Nat} {s : Hd} (h : HAt w b o s) (hk : w'.heap[b]? = w.heap[b]?) : HAt w' b o s := h.map fun _ _ h => h.keep hk
theorem HAt.below {w w' : World} {b o B : Nat} {s : Hd} (h : HAt w b o s) (hb : Below B w w') (hB : b < B) : HAt w' b o s := h.keep (hb.block b hB)
theorem HAt.sub {w w' : World} {b o o' n : Nat} {s : Hd} (h : HAt w b o s) (k : Sub b o' n w w') (hd : o + 6 ≤ o' ∨ o' + n ≤ o) : HAt w' b o s := h.map fun vs hv h => h.sub k (by omega)
theorem HAt.drewN {w : World} {b o : Nat} {s : Hd} (h : HAt w b o s) (q : Nat) : HAt (w.drewN q) b o s := h.map fun _ _ h => h
theorem HAt.alloc {w : World} {b o : Nat} {s : Hd} (h : HAt w b o s) (x : Obj) : HAt (w.alloc x) b o s := h.keep (Below.heap_alloc w x b h.lt)
def HPost (w : World) (b o : Nat) (s : Hd) (w' : World) : Prop := HAt w' b o s ∧ Sub b o 6 w w'
theorem At.six {w : World} {b o : Nat} {v0 v1 v2 v3 v4 v5 : Value} (h : At w b o [v0, v1, v2, v3, v4, v5]) :
    (w.cell? ⟨b, o, none⟩ = some v0 ∧ w.frozen? ⟨b, o, none⟩ = false) ∧ (w.cell? ⟨b, o + 1, none⟩ = some v1 ∧ w.frozen? ⟨b, o + 1, none⟩ = false) ∧
    (w.cell? ⟨b, o + 2, none⟩ = some v2 ∧ w.frozen? ⟨b, o + 2, none⟩ = false) ∧ (w.cell? ⟨b, o + 3, none⟩ = some v3 ∧ w.frozen? ⟨b, o + 3, none⟩ = false) ∧
    (w.cell? ⟨b, o + 4, none⟩ = some v4 ∧ w.frozen? ⟨b, o + 4, none⟩ = false) ∧ (w.cell? ⟨b, o + 5, none⟩ = some v5 ∧ w.frozen? ⟨b, o + 5, none⟩ = false) :=
  ⟨h 0 v0 rfl, h 1 v1 rfl, h 2 v2 rfl, h 3 v3 rfl, h 4 v4 rfl, h 5 v5 rfl⟩
theorem wf_stepH (s : Hd) (x : Nat) (hx : x < 256) (h : WfH s) : WfH (stepH s x) := by
  cases s with
  | bad e => exact h
  | fin m v o => exact .inr rfl
  | new =>
    simp only [stepH]
    split
    · exact ⟨by omega, by omega⟩
    · split
      · obtain ⟨k, hk⟩ : ∃ k, x % 32 - 24 = k := ⟨_, rfl⟩
        rw [hk]
        have : k = 0 ∨ k = 1 ∨ k = 2 ∨ k = 3 := by omega
        refine ⟨by omega, ?_⟩
        rcases this with rfl | rfl | rfl | rfl <;> decide
      · split
        · exact ⟨by omega, by omega⟩
        · exact .inl rfl
  | mid m n v =>
    obtain ⟨h1, h2, h3, h4⟩ := h
    obtain ⟨k, rfl⟩ : ∃ k, n = k + 1 := ⟨n - 1, by omega⟩
    have hp : (v * 256 + x + 1) * 256 ^ k ≤ 18446744073709551616 := by
      have : (v * 256 + x + 1) * 256 ^ k ≤ ((v + 1) * 256) * 256 ^ k := Nat.mul_le_mul_right _ (by omega)
      have e : (v + 1) * 256 * 256 ^ k = (v + 1) * 256 ^ (k + 1) := by rw [Nat.pow_succ, Nat.mul_assoc, Nat.mul_comm 256]
      omega
    have h1p : 1 ≤ 256 ^ k := Nat.pow_pos (by decide)
    have hv : v * 256 + x < 18446744073709551616 := by
      have := Nat.mul_le_mul_left (v * 256 + x + 1) h1p
      omega
    simp only [stepH]
    split
    · exact ⟨h1, hv⟩
    · exact ⟨h1, by omega, by omega, hp⟩
set_option maxHeartbeats 1000000 in
theorem value_at {w : World} {b o : Nat} {s : Hd} (h : HAt w b o s) :
    Calls Try.prog 55 #[.pointer (some ⟨b, o, none⟩)] w fun e w' => e = .returned (.int .u64 (valH s)) ∧ w = w' := by
  cases s with
  | bad f =>
    obtain ⟨_, ⟨hc, _⟩, _⟩ := At.six h.2
    clear h
    go_enter Try.func55, Try.ntmps55
    go_wp2
    go_ret
    exact ⟨rfl, rfl⟩
  | new =>
    obtain ⟨_, ⟨hc, _⟩, _⟩ := At.six h.2
    clear h
    go_enter Try.func55, Try.ntmps55
    go_wp2
    go_ret
    exact ⟨rfl, rfl⟩
  | mid m n v =>
    obtain ⟨_, ⟨hc, _⟩, _⟩ := At.six h.2
    clear h
    go_enter Try.func55, Try.ntmps55
    go_wp2
    go_ret
    exact ⟨rfl, rfl⟩
  | fin m v q =>
    obtain ⟨_, ⟨hc, _⟩, _, _, _, ⟨hc5, _⟩⟩ := At.six h.2
    clear h
    go_enter Try.func55, Try.ntmps55
    go_wp2
    go_ret
    exact ⟨rfl, rfl⟩
theorem At.set0 {w : World} {b o : Nat} {v : Value} {vs : List Value} (h : At w b o (v :: vs)) (u : Value) : At (w.setCell ⟨b, o, none⟩ u) b o (u :: vs) := h.set 0 (by simp) u
theorem hd_all {w : World} {b o e p m : Nat} {q : Bool} {l v : Nat} (h : At w b o (hd6 e p m q l v)) (e' p' m' : Nat) (q' : Bool) (l' v' : Nat) :
    At ((((((w.setCell ⟨b, o, none⟩ (.int .i64 e')).setCell ⟨b, o + 1, none⟩ (.int .i64 p')).setCell ⟨b, o + 2, none⟩ (.int .i64 m')).setCell ⟨b, o + 3, none⟩ (.bool q')).setCell ⟨b, o + 4, none⟩ (.int .i64 l')).setCell ⟨b, o + 5, none⟩ (.int .u64 v')) b o (hd6 e' p' m' q' l' v') ∧
    Sub b o 6 w ((((((w.setCell ⟨b, o, none⟩ (.int .i64 e')).setCell ⟨b, o + 1, none⟩ (.int .i64 p')).setCell ⟨b, o + 2, none⟩ (.int .i64 m')).setCell ⟨b, o + 3, none⟩ (.bool q')).setCell ⟨b, o + 4, none⟩ (.int .i64 l')).setCell ⟨b, o + 5, none⟩ (.int .u64 v')) :=
  ⟨(((((h.set0 (.int .i64 e')).set 1 (by simp) (.int .i64 p')).set 2 (by simp) (.int .i64 m')).set 3 (by simp) (.bool q')).set 4 (by simp) (.int .i64 l')).set 5 (by simp) (.int .u64 v'),
   ((((((sub_setCell w o _ (by omega)).setCell (o + 1) _ (by omega)).setCell (o + 2) _ (by omega)).setCell (o + 3) _ (by omega)).setCell (o + 4) _ (by omega)).setCell (o + 5) _ (by omega))⟩
set_option maxHeartbeats 1000000 in
theorem clear_six {w : World} {b o e p m : Nat} {q : Bool} {l v : Nat} (hA : At w b o (hd6 e p m q l v)) :
    Calls Try.prog 61 #[.pointer (some ⟨b, o, none⟩)] w fun e w' => e = .returned (.tuple #[]) ∧ HPost w b o .new w' := by
  have HP : Hid (HPost w b o .new _) := Lib.hid ⟨⟨trivial, (hd_all hA 0 0 0 false 0 0).1⟩, (hd_all hA 0 0 0 false 0 0).2⟩
  obtain ⟨⟨c0, f0⟩, ⟨c1, f1⟩, ⟨c2, f2⟩, ⟨c3, f3⟩, ⟨c4, f4⟩, ⟨c5, f5⟩⟩ := hA.six
  clear hA
  go_enter Try.func61, Try.ntmps61
  go_wp2
  go_end0
  exact ⟨rfl, HP.out⟩
theorem clear_at {w : World} {b o : Nat} {s : Hd} (h : HAt w b o s) :
    Calls Try.prog 61 #[.pointer (some ⟨b, o, none⟩)] w fun e w' => e = .returned (.tuple #[]) ∧ HPost w b o .new w' := by
  have h0 := h.2
  cases s <;> exact clear_six h0
set_option maxHeartbeats 1000000 in
theorem go_on {w : World} {b o m n v x : Nat} (hx : x < 256) (h : HAt w b o (.mid m n v)) :
    Calls Try.prog 74 #[.pointer (some ⟨b, o, none⟩), .int .u8 x] w fun e w' => e = .returned (.tuple #[]) ∧ HPost w b o (stepH (.mid m n v) x) w' := by
  have hwf := wf_stepH _ x hx h.1
  obtain ⟨⟨h1, h2, h3, h4⟩, hA⟩ := h
  have hA : At w b o (hd6 0 1 m false n v) := hA
  have hv : v * 2 ^ 8 + x < 18446744073709551616 := by
    have hp : 256 ≤ 256 ^ n := by
      have := Nat.pow_le_pow_right (n := 256) (by decide) h2
      simpa using this
    have := Nat.mul_le_mul_left (v + 1) hp
    omega
  have ho := or_u64 v x 8 hv (by omega)
  have hw1 : IntKind.u64.wrap ((v : Int) * 256) = ((v * 2 ^ 8 : Nat) : Int) := by rw [wrapI_u64 _ (by omega) (by omega)]; omega
  rw [← hw1] at ho
  have hw2 : wrap64 ((n : Int) - 1) = ((n - 1 : Nat) : Int) := by
    unfold wrap64; omega
  obtain ⟨u, hu⟩ : ∃ u, v * 256 + x = u := ⟨_, rfl⟩
  rw [show v * 2 ^ 8 + x = u by omega] at ho
  obtain ⟨k, hk⟩ : ∃ k, n - 1 = k := ⟨_, rfl⟩
  rw [hk] at hw2
  obtain ⟨⟨c0, f0⟩, ⟨c1, f1⟩, ⟨c2, f2⟩, ⟨c3, f3⟩, ⟨c4, f4⟩, ⟨c5, f5⟩⟩ := At.six hA
  by_cases hn : n = 1
  · subst hn
    obtain rfl : k = 0 := by omega
    rw [show stepH (.mid m 1 v) x = .fin m u false by simp [stepH, hu]] at hwf ⊢
    have HP : Hid (HPost w b o (.fin m u false) (((w.setCell ⟨b, o + 5, none⟩ (.int .u64 u)).setCell ⟨b, o + 4, none⟩ (.int .i64 0)).setCell ⟨b, o + 1, none⟩ (.int .i64 2))) :=
      Lib.hid ⟨⟨hwf, ((hA.set 5 (by simp [hd6]) (.int .u64 u)).set 4 (by simp [hd6]) (.int .i64 0)).set 1 (by simp [hd6]) (.int .i64 2)⟩, ((sub_setCell w (o + 5) _ (by omega)).setCell (o + 4) _ (by omega)).setCell (o + 1) _ (by omega)⟩
    clear hA hwf hv h1 h2 h3 h4 hu hk hw1 hw2
    go_enter Try.func74, Try.ntmps74
    go_wp2
    go_end0
    exact ⟨rfl, HP.out⟩
  · rw [show stepH (.mid m n v) x = .mid m k u by simp [stepH, hu, hk, hn]] at hwf ⊢
    have HP : Hid (HPost w b o (.mid m k u) ((w.setCell ⟨b, o + 5, none⟩ (.int .u64 u)).setCell ⟨b, o + 4, none⟩ (.int .i64 k))) :=
      Lib.hid ⟨⟨hwf, (hA.set 5 (by simp [hd6]) (.int .u64 u)).set 4 (by simp [hd6]) (.int .i64 k)⟩, (sub_setCell w (o + 5) _ (by omega)).setCell (o + 4) _ (by omega)⟩
    have hz : ((k : Int) == 0) = false := by rw [beq_eq_false_iff_ne]; omega
    clear hA hwf hv h1 h2 h3 h4 hu hk hw1 hn
    go_enter Try.func74, Try.ntmps74
    go_wp2
    go_end0
    exact ⟨rfl, HP.out⟩
set_option maxHeartbeats 1000000 in
theorem begin_low {w : World} {b o x : Nat} (hx : x < 256) (h1 : x % 32 < 24) (h : HAt w b o .new) :
    Calls Try.prog 73 #[.pointer (some ⟨b, o, none⟩), .int .u8 x] w fun e w' => e = .returned (.int .i64 0) ∧ HPost w b o (stepH .new x) w' := by
  have hwf := wf_stepH _ x hx h.1
  have hA : At w b o (hd6 0 0 0 false 0 0) := h.2
  obtain ⟨⟨c0, f0⟩, ⟨c1, f1⟩, ⟨c2, f2⟩, ⟨c3, f3⟩, ⟨c4, f4⟩, ⟨c5, f5⟩⟩ := At.six hA
  have hb := and31 x hx
  rw [show stepH .new x = .fin (x / 32) (x % 32) false by simp [stepH, h1]] at hwf ⊢
  have HP : Hid (HPost w b o (.fin (x / 32) (x % 32) false) (((w.setCell ⟨b, o + 2, none⟩ (.int .i64 ((x / 32 : Nat) : Int))).setCell ⟨b, o + 1, none⟩ (.int .i64 2)).setCell ⟨b, o + 5, none⟩ (.int .u64 ((x % 32 : Nat) : Int)))) :=
    Lib.hid ⟨⟨hwf, ((hA.set 2 (by simp [hd6]) (.int .i64 ((x / 32 : Nat) : Int))).set 1 (by simp [hd6]) (.int .i64 2)).set 5 (by simp [hd6]) (.int .u64 ((x % 32 : Nat) : Int))⟩, ((sub_setCell w (o + 2) _ (by omega)).setCell (o + 1) _ (by omega)).setCell (o + 5) _ (by omega)⟩
  rw [show ((x / 32 : Nat) : Int) = (x : Int) / 32 by omega] at HP
  generalize x % 32 = l at *
  have hl : ((l : Int) < 24) = True := by simp only [eq_iff_iff, iff_true]; omega
  have hwl : IntKind.u64.wrap (l : Int) = (l : Int) := wrapI_u64 _ (by omega) (by omega)
  clear hA hwf h1
  go_enter Try.func73, Try.ntmps73
  go_wp2
  go_ret
  exact ⟨rfl, HP.out⟩
set_option maxHeartbeats 1000000 in
theorem begin_mid24 {w : World} {b o x : Nat} (hx : x < 256) (h1 : x % 32 = 24) (h : HAt w b o .new) :
    Calls Try.prog 73 #[.pointer (some ⟨b, o, none⟩), .int .u8 x] w fun e w' => e = .returned (.int .i64 0) ∧ HPost w b o (stepH .new x) w' := by
  have hwf := wf_stepH _ x hx h.1
  have hA : At w b o (hd6 0 0 0 false 0 0) := h.2
  obtain ⟨⟨c0, f0⟩, ⟨c1, f1⟩, ⟨c2, f2⟩, ⟨c3, f3⟩, ⟨c4, f4⟩, ⟨c5, f5⟩⟩ := At.six hA
  have hb := and31 x hx
  rw [h1] at hb
  rw [show stepH .new x = .mid (x / 32) 1 0 by simp [stepH, h1]] at hwf ⊢
  have HP : Hid (HPost w b o (.mid (x / 32) 1 0) ((((w.setCell ⟨b, o + 2, none⟩ (.int .i64 ((x / 32 : Nat) : Int))).setCell ⟨b, o + 1, none⟩ (.int .i64 2)).setCell ⟨b, o + 1, none⟩ (.int .i64 1)).setCell ⟨b, o + 4, none⟩ (.int .i64 1))) :=
    Lib.hid ⟨⟨hwf, (((hA.set 2 (by simp [hd6]) (.int .i64 ((x / 32 : Nat) : Int))).set 1 (by simp [hd6]) (.int .i64 2)).set 1 (by simp [hd6]) (.int .i64 1)).set 4 (by simp [hd6]) (.int .i64 1)⟩, (((sub_setCell w (o + 2) _ (by omega)).setCell (o + 1) _ (by omega)).setCell (o + 1) _ (by omega)).setCell (o + 4) _ (by omega)⟩
  rw [show ((x / 32 : Nat) : Int) = (x : Int) / 32 by omega] at HP
  clear hA hwf h1
  go_enter Try.func73, Try.ntmps73
  go_wp2
  go_ret
  exact ⟨rfl, HP.out⟩
set_option maxHeartbeats 1000000 in
theorem begin_mid25 {w : World} {b o x : Nat} (hx : x < 256) (h1 : x % 32 = 25) (h : HAt w b o .new) :
    Calls Try.prog 73 #[.pointer (some ⟨b, o, none⟩), .int .u8 x] w fun e w' => e = .returned (.int .i64 0) ∧ HPost w b o (stepH .new x) w' := by
  have hwf := wf_stepH _ x hx h.1
  have hA : At w b o (hd6 0 0 0 false 0 0) := h.2
  obtain ⟨⟨c0, f0⟩, ⟨c1, f1⟩, ⟨c2, f2⟩, ⟨c3, f3⟩, ⟨c4, f4⟩, ⟨c5, f5⟩⟩ := At.six hA
  have hb := and31 x hx
  rw [h1] at hb
  rw [show stepH .new x = .mid (x / 32) 2 0 by simp [stepH, h1]] at hwf ⊢
  have HP : Hid (HPost w b o (.mid (x / 32) 2 0) ((((w.setCell ⟨b, o + 2, none⟩ (.int .i64 ((x / 32 : Nat) : Int))).setCell ⟨b, o + 1, none⟩ (.int .i64 2)).setCell ⟨b, o + 1, none⟩ (.int .i64 1)).setCell ⟨b, o + 4, none⟩ (.int .i64 2))) :=
    Lib.hid ⟨⟨hwf, (((hA.set 2 (by simp [hd6]) (.int .i64 ((x / 32 : Nat) : Int))).set 1 (by simp [hd6]) (.int .i64 2)).set 1 (by simp [hd6]) (.int .i64 1)).set 4 (by simp [hd6]) (.int .i64 2)⟩, (((sub_setCell w (o + 2) _ (by omega)).setCell (o + 1) _ (by omega)).setCell (o + 1) _ (by omega)).setCell (o + 4) _ (by omega)⟩
  rw [show ((x / 32 : Nat) : Int) = (x : Int) / 32 by omega] at HP
  clear hA hwf h1
  go_enter Try.func73, Try.ntmps73
  go_wp2
  go_ret
  exact ⟨rfl, HP.out⟩
set_option maxHeartbeats 1000000 in
theorem begin_mid26 {w : World} {b o x : Nat} (hx : x < 256) (h1 : x % 32 = 26) (h : HAt w b o .new) :
    Calls Try.prog 73 #[.pointer (some ⟨b, o, none⟩), .int .u8 x] w fun e w' => e = .returned (.int .i64 0) ∧ HPost w b o (stepH .new x) w' := by
  have hwf := wf_stepH _ x hx h.1
  have hA : At w b o (hd6 0 0 0 false 0 0) := h.2
  obtain ⟨⟨c0, f0⟩, ⟨c1, f1⟩, ⟨c2, f2⟩, ⟨c3, f3⟩, ⟨c4, f4⟩, ⟨c5, f5⟩⟩ := At.six hA
  have hb := and31 x hx
  rw [h1] at hb
  rw [show stepH .new x = .mid (x / 32) 4 0 by simp [stepH, h1]] at hwf ⊢
  have HP : Hid (HPost w b o (.mid (x / 32) 4 0) ((((w.setCell ⟨b, o + 2, none⟩ (.int .i64 ((x / 32 : Nat) : Int))).setCell ⟨b, o + 1, none⟩ (.int .i64 2)).setCell ⟨b, o + 1, none⟩ (.int .i64 1)).setCell ⟨b, o + 4, none⟩ (.int .i64 4))) :=
    Lib.hid ⟨⟨hwf, (((hA.set 2 (by simp [hd6]) (.int .i64 ((x / 32 : Nat) : Int))).set 1 (by simp [hd6]) (.int .i64 2)).set 1 (by simp [hd6]) (.int .i64 1)).set 4 (by simp [hd6]) (.int .i64 4)⟩, (((sub_setCell w (o + 2) _ (by omega)).setCell (o + 1) _ (by omega)).setCell (o + 1) _ (by omega)).setCell (o + 4) _ (by omega)⟩
  rw [show ((x / 32 : Nat) : Int) = (x : Int) / 32 by omega] at HP
  clear hA hwf h1
  go_enter Try.func73, Try.ntmps73
  go_wp2
  go_ret
  exact ⟨rfl, HP.out⟩
set_option maxHeartbeats 1000000 in
theorem begin_mid27 {w : World} {b o x : Nat} (hx : x < 256) (h1 : x % 32 = 27) (h : HAt w b o .new) :
    Calls Try.prog 73 #[.pointer (some ⟨b, o, none⟩), .int .u8 x] w fun e w' => e = .returned (.int .i64 0) ∧ HPost w b o (stepH .new x) w' := by
  have hwf := wf_stepH _ x hx h.1
  have hA : At w b o (hd6 0 0 0 false 0 0) := h.2
  obtain ⟨⟨c0, f0⟩, ⟨c1, f1⟩, ⟨c2, f2⟩, ⟨c3, f3⟩, ⟨c4, f4⟩, ⟨c5, f5⟩⟩ := At.six hA
  have hb := and31 x hx
  rw [h1] at hb
  rw [show stepH .new x = .mid (x / 32) 8 0 by simp [stepH, h1]] at hwf ⊢
  have HP : Hid (HPost w b o (.mid (x / 32) 8 0) ((((w.setCell ⟨b, o + 2, none⟩ (.int .i64 ((x / 32 : Nat) : Int))).setCell ⟨b, o + 1, none⟩ (.int .i64 2)).setCell ⟨b, o + 1, none⟩ (.int .i64 1)).setCell ⟨b, o + 4, none⟩ (.int .i64 8))) :=
    Lib.hid ⟨⟨hwf, (((hA.set 2 (by simp [hd6]) (.int .i64 ((x / 32 : Nat) : Int))).set 1 (by simp [hd6]) (.int .i64 2)).set 1 (by simp [hd6]) (.int .i64 1)).set 4 (by simp [hd6]) (.int .i64 8)⟩, (((sub_setCell w (o + 2) _ (by omega)).setCell (o + 1) _ (by omega)).setCell (o + 1) _ (by omega)).setCell (o + 4) _ (by omega)⟩
  rw [show ((x / 32 : Nat) : Int) = (x : Int) / 32 by omega] at HP
  clear hA hwf h1
  go_enter Try.func73, Try.ntmps73
  go_wp2
  go_ret
  exact ⟨rfl, HP.out⟩
set_option maxHeartbeats 1000000 in
theorem begin_open {w : World} {b o x : Nat} (hx : x < 256) (h1 : x % 32 = 31) (h : HAt w b o .new) :
    Calls Try.prog 73 #[.pointer (some ⟨b, o, none⟩), .int .u8 x] w fun e w' => e = .returned (.int .i64 0) ∧ HPost w b o (stepH .new x) w' := by
  have hwf := wf_stepH _ x hx h.1
  have hA : At w b o (hd6 0 0 0 false 0 0) := h.2
  obtain ⟨⟨c0, f0⟩, ⟨c1, f1⟩, ⟨c2, f2⟩, ⟨c3, f3⟩, ⟨c4, f4⟩, ⟨c5, f5⟩⟩ := At.six hA
  have hb := and31 x hx
  rw [h1] at hb
  rw [show stepH .new x = .fin (x / 32) 0 true by simp [stepH, h1]] at hwf ⊢
  have HP : Hid (HPost w b o (.fin (x / 32) 0 true) (((w.setCell ⟨b, o + 2, none⟩ (.int .i64 ((x / 32 : Nat) : Int))).setCell ⟨b, o + 1, none⟩ (.int .i64 2)).setCell ⟨b, o + 3, none⟩ (.bool true))) :=
    Lib.hid ⟨⟨hwf, ((hA.set 2 (by simp [hd6]) (.int .i64 ((x / 32 : Nat) : Int))).set 1 (by simp [hd6]) (.int .i64 2)).set 3 (by simp [hd6]) (.bool true)⟩, ((sub_setCell w (o + 2) _ (by omega)).setCell (o + 1) _ (by omega)).setCell (o + 3) _ (by omega)⟩
  rw [show ((x / 32 : Nat) : Int) = (x : Int) / 32 by omega] at HP
  clear hA hwf h1
  go_enter Try.func73, Try.ntmps73
  go_wp2
  go_ret
  exact ⟨rfl, HP.out⟩
set_option maxHeartbeats 1000000 in
theorem begin_bad {w : World} {b o x : Nat} (hx : x < 256) (l : Nat) (hl : l = 28 ∨ l = 29 ∨ l = 30) (h1 : x % 32 = l) (h : HAt w b o .new) :
    Calls Try.prog 73 #[.pointer (some ⟨b, o, none⟩), .int .u8 x] w fun e w' => e = .returned (.int .i64 2) ∧ At w' b o (hd6 0 2 (x / 32) false 0 0) ∧ Sub b o 6 w w' := by
  have hA : At w b o (hd6 0 0 0 false 0 0) := h.2
  obtain ⟨⟨c0, f0⟩, ⟨c1, f1⟩, ⟨c2, f2⟩, ⟨c3, f3⟩, ⟨c4, f4⟩, ⟨c5, f5⟩⟩ := At.six hA
  have hb := and31 x hx
  rw [h1] at hb
  have HP : Hid (At ((w.setCell ⟨b, o + 2, none⟩ (.int .i64 ((x / 32 : Nat) : Int))).setCell ⟨b, o + 1, none⟩ (.int .i64 2)) b o (hd6 0 2 (x / 32) false 0 0) ∧ Sub b o 6 w ((w.setCell ⟨b, o + 2, none⟩ (.int .i64 ((x / 32 : Nat) : Int))).setCell ⟨b, o + 1, none⟩ (.int .i64 2))) :=
    Lib.hid ⟨(hA.set 2 (by simp [hd6]) (.int .i64 ((x / 32 : Nat) : Int))).set 1 (by simp [hd6]) (.int .i64 2), (sub_setCell w (o + 2) _ (by omega)).setCell (o + 1) _ (by omega)⟩
  rw [show ((x / 32 : Nat) : Int) = (x : Int) / 32 by omega] at HP
  clear hA h1
  rcases hl with rfl | rfl | rfl
  all_goals
    go_enter Try.func73, Try.ntmps73
    go_wp2
    go_ret
    exact ⟨rfl, HP.out⟩
/-- begin: behind an error the cells are anything. -/
theorem begin_at {w : World} {b o x : Nat} (hx : x < 256) (h : HAt w b o .new) :
    Calls Try.prog 73 #[.pointer (some ⟨b, o, none⟩), .int .u8 x] w fun e w' => e = .returned (.int .i64 (errH (stepH .new x))) ∧ ((∃ f, stepH .new x = .bad f) ∨ HAt w' b o (stepH .new x)) ∧ (∃ e p m q l v, At w' b o (hd6 e p m q l v)) ∧ Sub b o 6 w w' := by
  by_cases h1 : x % 32 < 24
  · have he : errH (stepH .new x) = 0 := by simp [stepH, h1, errH]
    rw [he]
    refine (begin_low hx h1 h).mono ?_
    rintro e w' ⟨rfl, hP, hS⟩
    refine ⟨rfl, .inr hP, ?_, hS⟩
    have := hP.2
    rw [show stepH .new x = .fin (x / 32) (x % 32) false by simp [stepH, h1]] at this
    exact ⟨_, _, _, _, _, _, this⟩
  · by_cases h2 : x % 32 < 28
    · have he : errH (stepH .new x) = 0 := by simp [stepH, h1, h2, errH]
      rw [he]
      have hd : x % 32 = 24 ∨ x % 32 = 25 ∨ x % 32 = 26 ∨ x % 32 = 27 := by omega
      have hw' : stepH .new x = .mid (x / 32) (2 ^ (x % 32 - 24)) 0 := by simp [stepH, h1, h2]
      rcases hd with hd | hd | hd | hd
      · refine (begin_mid24 hx hd h).mono ?_
        rintro e w' ⟨rfl, hP, hS⟩
        refine ⟨rfl, .inr hP, ?_, hS⟩
        have := hP.2
        rw [hw'] at this
        exact ⟨_, _, _, _, _, _, this⟩
      · refine (begin_mid25 hx hd h).mono ?_
        rintro e w' ⟨rfl, hP, hS⟩
        refine ⟨rfl, .inr hP, ?_, hS⟩
        have := hP.2
        rw [hw'] at this
        exact ⟨_, _, _, _, _, _, this⟩
      · refine (begin_mid26 hx hd h).mono ?_
        rintro e w' ⟨rfl, hP, hS⟩
        refine ⟨rfl, .inr hP, ?_, hS⟩
        have := hP.2
        rw [hw'] at this
        exact ⟨_, _, _, _, _, _, this⟩
      · refine (begin_mid27 hx hd h).mono ?_
        rintro e w' ⟨rfl, hP, hS⟩
        refine ⟨rfl, .inr hP, ?_, hS⟩
        have := hP.2
        rw [hw'] at this
        exact ⟨_, _, _, _, _, _, this⟩
    · by_cases h3 : x % 32 = 31
      · have he : errH (stepH .new x) = 0 := by simp [stepH, h3, errH]
        rw [he]
        refine (begin_open hx h3 h).mono ?_
        rintro e w' ⟨rfl, hP, hS⟩
        refine ⟨rfl, .inr hP, ?_, hS⟩
        have := hP.2
        rw [show stepH .new x = .fin (x / 32) 0 true by simp [stepH, h3]] at this
        exact ⟨_, _, _, _, _, _, this⟩
      · have he : stepH .new x = .bad 2 := by simp [stepH, h1, h2, h3]
        rw [he]
        refine (begin_bad hx (x % 32) (by omega) rfl h).mono ?_
        rintro e w' ⟨rfl, hP, hS⟩
        exact ⟨rfl, .inl ⟨2, rfl⟩, ⟨_, _, _, _, _, _, hP⟩, hS⟩
/-- take: behind an error the cells are anything. -/
theorem htake_at {w : World} {b o x : Nat} {s : Hd} (hx : x < 256) (hs : errH s = 0) (h : HAt w b o s) :
    Calls Try.prog 63 #[.pointer (some ⟨b, o, none⟩), .int .u8 x] w fun e w' => e = .returned (.int .i64 (errH (stepH s x))) ∧ ((∃ f, stepH s x = .bad f) ∨ HAt w' b o (stepH s x)) ∧ (∃ e p m q l v, At w' b o (hd6 e p m q l v)) ∧ Sub b o 6 w w' := by
  cases s with
  | bad f => 
    have h0 : f = 0 := hs
    rcases h.1 with h | h <;> omega
  | new =>
    obtain ⟨_, ⟨c1, f1⟩, _⟩ := At.six h.2
    have HB := Lib.hid (begin_at hx h)
    clear h
    go_enter Try.func63, Try.ntmps63
    go_wp2_with fail
    refine HB.out.mono ?_
    rintro e w' ⟨rfl, hP⟩
    have HP := Lib.hid hP
    clear hP
    go_wp2
    go_ret
    exact ⟨rfl, HP.out⟩
  | mid m n v =>
    obtain ⟨_, ⟨c1, f1⟩, _⟩ := At.six h.2
    have he : errH (stepH (.mid m n v) x) = 0 := by simp only [stepH]; split <;> rfl
    rw [he]
    have HB := Lib.hid (go_on hx h)
    clear h he
    go_enter Try.func63, Try.ntmps63
    go_wp2_with fail
    refine HB.out.mono ?_
    rintro e w' ⟨rfl, hP⟩
    have HP := Lib.hid hP
    clear hP
    go_wp2
    go_ret
    refine ⟨rfl, .inr HP.out.1, ?_, HP.out.2⟩
    have h2 := HP.out.1.2
    simp only [stepH] at h2
    split at h2 <;> exact ⟨_, _, _, _, _, _, h2⟩
  | fin m v q =>
    have h0 : At w b o (hd6 0 2 m q 0 v) := h.2
    obtain ⟨_, ⟨c1, f1⟩, _⟩ := At.six h.2
    clear h
    go_enter Try.func63, Try.ntmps63
    go_wp2
    go_ret
    exact ⟨rfl, .inl ⟨14, rfl⟩, ⟨_, _, _, _, _, _, h0⟩, Sub.refl _ _ _ _⟩
set_option maxHeartbeats 2000000 in
/-- Step. -/
theorem hstep_at {w : World} {b o x : Nat} {s : Hd} (hx : x < 256) (h : HAt w b o s) :
    Calls Try.prog 54 #[.pointer (some ⟨b, o, none⟩), .int .u8 x] w fun e w' => e = .returned (.tuple #[.bool (endH (stepH s x)), .int .i64 (errH (stepH s x))]) ∧ HPost w b o (stepH s x) w' := by
  by_cases hs : errH s = 0
  · have hwf := wf_stepH s x hx h.1
    have hc0 : w.cell? ⟨b, o, none⟩ = some (.int .i64 0) := by
      have := h.2
      cases s with
      | bad f => have h0 : f = 0 := hs; rcases h.1 with h | h <;> omega
      | _ => exact (At.six this).1.1
    have HT := Lib.hid (htake_at hx hs h)
    clear h
    generalize stepH s x = s' at *
    cases s' with
    | bad f =>
      have hf : ((f : Int) != 0) = true := by rcases hwf with rfl | rfl <;> rfl
      have HT' := HT
      simp only [errH, endH] at HT' ⊢
      clear HT
      go_enter Try.func54, Try.ntmps54
      go_wp2_with fail
      refine HT'.out.mono ?_
      rintro e w1 ⟨rfl, _, ⟨e1, p1, m1, q1, l1, v1, hA⟩, hS⟩
      have HP : Hid (HPost w b o (.bad f) _) := Lib.hid ⟨⟨hwf, (hd_all hA f 0 0 false 0 0).1⟩, hS.trans (hd_all hA f 0 0 false 0 0).2⟩
      obtain ⟨⟨c0, f0⟩, ⟨c1, f1⟩, ⟨c2, f2⟩, ⟨c3, f3⟩, ⟨c4, f4⟩, ⟨c5, f5⟩⟩ := hA.six
      clear hA hS HT' hwf hs hc0
      go_wp2
      go_ret2
      exact ⟨rfl, HP.out⟩
    | new =>
      have HT' := HT
      simp only [errH, endH] at HT' ⊢
      clear HT
      go_enter Try.func54, Try.ntmps54
      go_wp2_with fail
      refine HT'.out.mono ?_
      rintro e w1 ⟨rfl, hP, _, hS⟩
      have hP : HAt w1 b o .new := hP.elim (fun ⟨_, h⟩ => by cases h) id
      obtain ⟨⟨c0, f0⟩, ⟨c1, f1⟩, _⟩ := At.six hP.2
      have HP : Hid (HPost w b o .new w1) := Lib.hid ⟨hP, hS⟩
      clear hP hS HT' hwf hs hc0
      go_wp2
      go_ret2
      exact ⟨rfl, HP.out⟩
    | mid m n v =>
      have HT' := HT
      simp only [errH, endH] at HT' ⊢
      clear HT
      go_enter Try.func54, Try.ntmps54
      go_wp2_with fail
      refine HT'.out.mono ?_
      rintro e w1 ⟨rfl, hP, _, hS⟩
      have hP : HAt w1 b o (.mid m n v) := hP.elim (fun ⟨_, h⟩ => by cases h) id
      obtain ⟨⟨c0, f0⟩, ⟨c1, f1⟩, _⟩ := At.six hP.2
      have HP : Hid (HPost w b o (.mid m n v) w1) := Lib.hid ⟨hP, hS⟩
      clear hP hS HT' hwf hs hc0
      go_wp2
      go_ret2
      exact ⟨rfl, HP.out⟩
    | fin m v q =>
      have HT' := HT
      simp only [errH, endH] at HT' ⊢
      clear HT
      go_enter Try.func54, Try.ntmps54
      go_wp2_with fail
      refine HT'.out.mono ?_
      rintro e w1 ⟨rfl, hP, _, hS⟩
      have hP : HAt w1 b o (.fin m v q) := hP.elim (fun ⟨_, h⟩ => by cases h) id
      obtain ⟨⟨c0, f0⟩, ⟨c1, f1⟩, _⟩ := At.six hP.2
      have HP : Hid (HPost w b o (.fin m v q) w1) := Lib.hid ⟨hP, hS⟩
      clear hP hS HT' hwf hs hc0
      go_wp2
      go_ret2
      exact ⟨rfl, HP.out⟩
  · cases s with
    | bad f =>
      have hf : ((f : Int) != 0) = true := by rcases h.1 with rfl | rfl <;> rfl
      obtain ⟨⟨c0, f0⟩, _⟩ := At.six h.2
      have HP : Hid (HPost w b o (.bad f) w) := Lib.hid ⟨h, Sub.refl _ _ _ _⟩
      clear h hs
      show Calls _ _ _ _ fun e w' => e = .returned (.tuple #[.bool false, .int .i64 f]) ∧ HPost w b o (.bad f) w'
      have HQ : ∀ q, Hid (HPost w b o (.bad f) (w.drewN q)) := fun q => Lib.hid ⟨HP.out.1.drewN q, HP.out.2.drewN q⟩
      clear HP
      go_enter Try.func54, Try.ntmps54
      go_wp2_with fail
      go_quiet (fail)
      go_wp2
      go_ret2
      exact ⟨rfl, (HQ _).out⟩
    | _ => exact absurd rfl hs
end Go.Proofs.Ytebnhelejebobaa
