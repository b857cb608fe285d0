/-
  THE BOOK'S DOCUMENTS OUT OF NUMBERS, AS LISTS: how many parts; that they are one document, with counts or without; what JSON has.
-/
import Derived.Test.YtkfidnfnehnhoaaDocC
import Derived.Test.YtkfidnfnehnhoaaJinPure
namespace Go.Proofs.Ytkfidnfnehnhoaa
open Go.RowKit
open Go.Lib
theorem nx_real {n : Nat} {L : Nat → Int} {a : Nat} (h : nxD n L a ≠ 0) : a < n := by
  unfold nxD at h
  split at h
  · assumption
  · exact absurd rfl h
/-- How many numbers are read of k items, how many parts they are: as many more as a document's own numbers ask. -/
def Fine (n a k : Nat) (r : List Ev × Nat) : Prop := a ≤ r.2 ∧ r.2 + 4 * min a n ≤ a + k + 4 * min r.2 n ∧ r.1.length ≤ 2 * (r.2 - a)
theorem list_fine (n : Nat) (it : Nat → List Ev × Nat) (hit : ∀ a, Fine n a 1 (it a)) : ∀ k a, Fine n a k (listD it k a) := by
  intro k
  induction k with
  | zero => intro a; exact ⟨Nat.le_refl _, by simp [listD], by simp [listD]⟩
  | succ k ih =>
    intro a
    obtain ⟨h1, h2, h3⟩ := hit a
    obtain ⟨g1, g2, g3⟩ := ih (it a).2
    simp only [listD]
    refine ⟨by simp only; omega, by simp only; omega, ?_⟩
    simp only [List.length_append]
    omega
theorem map_fine (n : Nat) (L : Nat → Int) (it : Nat → List Ev × Nat) (hit : ∀ a, Fine n a 1 (it a)) : ∀ k a, Fine n a (2 * k) (mapD n L it k a) := by
  intro k
  induction k with
  | zero => intro a; exact ⟨Nat.le_refl _, by simp [mapD], by simp [mapD]⟩
  | succ k ih =>
    intro a
    obtain ⟨h1, h2, h3⟩ := hit (a + 1)
    obtain ⟨g1, g2, g3⟩ := ih (it (a + 1)).2
    simp only [mapD]
    refine ⟨by simp only; omega, by simp only; omega, ?_⟩
    simp only [List.length_cons, List.length_append]
    omega
theorem item_fine (n : Nat) (L : Nat → Int) : ∀ f a, Fine n a 1 (itemD n L f a) := by
  intro f
  induction f with
  | zero =>
    intro a
    simp only [itemD]
    refine ⟨by simp only; omega, by simp only; omega, ?_⟩
    split <;> simp
  | succ f ih =>
    intro a
    simp only [itemD]
    by_cases h1 : nxD n L a % 8 ≤ 4
    · rw [if_pos h1]
      exact ⟨by simp only; omega, by simp only; omega, by simp⟩
    · have hr := nx_real (n := n) (L := L) (a := a) (by omega)
      rw [if_neg h1]
      by_cases h2 : nxD n L a % 8 = 5
      · rw [if_pos h2]
        obtain ⟨g1, g2, g3⟩ := list_fine n _ ih (nxD n L a / 8 % 4) (a + 1)
        refine ⟨by simp only; omega, by simp only; omega, ?_⟩
        simp only [List.length_append, List.length_cons, List.length_nil]
        omega
      · rw [if_neg h2]
        obtain ⟨g1, g2, g3⟩ := map_fine n L _ ih (nxD n L a / 8 % 3) (a + 1)
        refine ⟨by simp only; omega, by simp only; omega, ?_⟩
        simp only [List.length_append, List.length_cons, List.length_nil]
        omega
/-- Of n numbers a document has no more parts than this. -/
theorem item_length (n : Nat) (L : Nat → Int) (f : Nat) : (itemD n L f 0).1.length ≤ 2 + 8 * n ∧ 1 ≤ (itemD n L f 0).1.length := by
  obtain ⟨h1, h2, h3⟩ := item_fine n L f 0
  refine ⟨by omega, ?_⟩
  cases f with
  | zero => simp only [itemD]; split <;> simp
  | succ f =>
    simp only [itemD]
    repeat' split
    all_goals simp
/-! ### One document -/
/-- With the counts that they have, or without. -/
def gE (o : Bool) (e : Ev) : Ev := if o = true then openE e else e
theorem deep_append (D : Nat) : ∀ (l k : List Ev) (s s' : List Bx), runC (.live s) l = .live s' → DeepW D s l → DeepW D s' k → DeepW D s (l ++ k) := by
  intro l
  induction l with
  | nil => intro k s s' h _ hk; cases h; exact hk
  | cons e l ih =>
    intro k s s' h hd hk
    rw [runC_cons] at h
    obtain ⟨h1, h2⟩ := hd
    refine ⟨h1, ?_⟩
    cases hs : stepC (.live s) e with
    | bad f => rw [hs, runC_bad] at h; cases h
    | done => trivial
    | live s2 =>
      rw [hs] at h h2
      exact ih k s2 s' h h2 hk
/-- All of l goes from s on, to c. -/
def Goes (D : Nat) (s : List Bx) (l : List Ev) (c : Ck) : Prop := runC (.live s) l = c ∧ DeepW D s l
theorem Goes.append {D : Nat} {s s' : List Bx} {l k : List Ev} {c : Ck} (h : Goes D s l (.live s')) (g : Goes D s' k c) : Goes D s (l ++ k) c :=
  ⟨by rw [runC_append, h.1, g.1], deep_append D l k s s' h.1 h.2 g.2⟩
theorem goes_one {D : Nat} {s : List Bx} {e : Ev} {c : Ck} (h : stepC (.live s) e = c) (hd : e.k = 5 ∨ e.k = 6 → s.length < D) : Goes D s [e] c := by
  refine ⟨h, hd, ?_⟩
  cases stepC (.live s) e <;> trivial
def afterV (s : List Bx) : Ck := if s = [] then .done else .live (incB s)
/-- A part that holds no other, in a value's place. -/
theorem goes_low {D : Nat} {s : List Bx} {e : Ev} (hs : keyB s = false) (hk : e.k = 0 ∨ e.k = 1 ∨ e.k = 2 ∨ e.k = 3) : Goes D s [e] (afterV s) := by
  refine goes_one ?_ (by omega)
  simp only [stepC]
  rw [if_neg (fun h => h ⟨by omega, by omega, by omega⟩), if_neg (by omega), if_neg (by rw [hs]; simp), if_neg (by omega)]
  rfl
theorem plain_kind (x : Nat) : (plainD x).k = 0 ∨ (plainD x).k = 1 ∨ (plainD x).k = 2 ∨ (plainD x).k = 3 := by
  unfold plainD
  repeat' split
  all_goals simp
theorem lowD_kind (x : Nat) : (lowD x).k = 0 ∨ (lowD x).k = 1 ∨ (lowD x).k = 2 ∨ (lowD x).k = 3 := by
  unfold lowD
  split <;> simp
theorem gE_low (o : Bool) (e : Ev) (hk : e.k = 0 ∨ e.k = 1 ∨ e.k = 2 ∨ e.k = 3) : gE o e = e := by
  unfold gE openE
  split
  · rw [if_neg (by omega)]
  · rfl
theorem gE_end (o : Bool) : gE o ⟨7, false, 0, ⟨#[]⟩, 0⟩ = ⟨7, false, 0, ⟨#[]⟩, 0⟩ := by
  cases o <;> rfl
def cntG (o : Bool) (c : Nat) : Int := if o = true then -1 else (c : Int)
theorem gE_arr (o : Bool) (c : Nat) : gE o ⟨5, false, 0, ⟨#[]⟩, (c : Nat)⟩ = ⟨5, false, 0, ⟨#[]⟩, cntG o c⟩ := by
  cases o <;> rfl
theorem gE_map (o : Bool) (c : Nat) : gE o ⟨6, false, 0, ⟨#[]⟩, (c : Nat)⟩ = ⟨6, false, 0, ⟨#[]⟩, cntG o c⟩ := by
  cases o <;> rfl
theorem cntG_low (o : Bool) (c : Nat) : -1 ≤ cntG o c := by
  unfold cntG
  split <;> omega
theorem goes_begin {D : Nat} {s : List Bx} (hs : keyB s = false) (m : Bool) (c : Int) (hc : -1 ≤ c) (hD : s.length < D) (hD16 : D ≤ 16) : Goes D s [⟨if m then 6 else 5, false, 0, ⟨#[]⟩, c⟩] (.live (⟨m, c, 0⟩ :: incB s)) := by
  refine goes_one ?_ (fun _ => hD)
  simp only [stepC]
  cases m with
  | true =>
    rw [if_neg (fun h => h ⟨by simp, by simp, fun _ => hc⟩), if_neg (by simp), if_neg (by rw [hs]; simp), if_pos (by simp), if_neg (by omega)]
    rfl
  | false =>
    rw [if_neg (fun h => h ⟨by simp, by simp, fun _ => hc⟩), if_neg (by simp), if_neg (by rw [hs]; simp), if_pos (by simp), if_neg (by omega)]
    rfl
theorem goes_end {D : Nat} {s : List Bx} (b : Bx) (hb : ¬ shutB b) : Goes D (b :: incB s) [⟨7, false, 0, ⟨#[]⟩, 0⟩] (afterV s) := by
  refine goes_one ?_ (by simp)
  simp only [stepC]
  rw [if_neg (fun h => h ⟨by simp, by simp, by simp⟩), if_pos trivial, if_neg hb]
  cases s with
  | nil => rfl
  | cons x r => simp [afterV, incB]
theorem incB_length (s : List Bx) : (incB s).length = s.length := by cases s <;> rfl
theorem goes_list (o : Bool) (D f : Nat) (it : Nat → List Ev × Nat) (hit : ∀ a s, keyB s = false → s.length + f ≤ D → Goes D s ((it a).1.map (gE o)) (afterV s)) :
    ∀ k a (b : Bx) (s : List Bx), b.map = false → s.length + 1 + f ≤ D → Goes D (b :: s) ((listD it k a).1.map (gE o)) (.live (⟨b.map, b.c, b.have_ + k⟩ :: s)) := by
  intro k
  induction k with
  | zero => intro a b s _ _; exact ⟨rfl, trivial⟩
  | succ k ih =>
    intro a b s hb hD
    simp only [listD, List.map_append]
    have h1 := hit a (b :: s) (by simp [keyB, hb]) (by simp only [List.length_cons]; omega)
    have h2 := ih (it a).2 ⟨b.map, b.c, b.have_ + 1⟩ s hb hD
    simp only [Nat.add_assoc, Nat.add_comm 1 k] at h2
    exact h1.append h2
theorem goes_map (o : Bool) (D f n : Nat) (L : Nat → Int) (it : Nat → List Ev × Nat) (hit : ∀ a s, keyB s = false → s.length + f ≤ D → Goes D s ((it a).1.map (gE o)) (afterV s)) :
    ∀ k a (b : Bx) (s : List Bx), b.map = true → b.have_ % 2 = 0 → s.length + 1 + f ≤ D → Goes D (b :: s) ((mapD n L it k a).1.map (gE o)) (.live (⟨b.map, b.c, b.have_ + 2 * k⟩ :: s)) := by
  intro k
  induction k with
  | zero => intro a b s _ _ _; exact ⟨rfl, trivial⟩
  | succ k ih =>
    intro a b s hb h0 hD
    simp only [mapD, List.map_cons, List.map_append]
    have hkey : Goes D (b :: s) [gE o ⟨3, false, 0, ⟨(textL (nxD n L a)).toArray⟩, 0⟩] (.live (⟨b.map, b.c, b.have_ + 1⟩ :: s)) := by
      rw [gE_low o _ (by simp)]
      refine goes_one ?_ (by simp)
      simp only [stepC]
      rw [if_neg (fun h => h ⟨by simp, by simp, by simp⟩), if_neg (by simp), if_neg (by simp), if_neg (by simp), if_neg (by simp)]
      rfl
    have h1 := hit (a + 1) (⟨b.map, b.c, b.have_ + 1⟩ :: s) (by simp [keyB, hb]; omega) (by simp only [List.length_cons]; omega)
    have h2 := ih (it (a + 1)).2 ⟨b.map, b.c, b.have_ + 2⟩ s hb (by simp only; omega) hD
    have e2 : b.have_ + 2 + 2 * k = b.have_ + 2 * (k + 1) := by omega
    simp only [e2] at h2
    exact hkey.append (h1.append h2)
theorem goes_item (o : Bool) (D n : Nat) (L : Nat → Int) (hD16 : D ≤ 16) : ∀ f a s, keyB s = false → s.length + f ≤ D → Goes D s ((itemD n L f a).1.map (gE o)) (afterV s) := by
  intro f
  induction f with
  | zero =>
    intro a s hs _
    simp only [itemD]
    split
    · simp only [List.map_cons, List.map_nil, gE_low o _ (plain_kind _)]
      exact goes_low hs (plain_kind _)
    · simp only [List.map_cons, List.map_nil, gE_low o _ (lowD_kind _)]
      exact goes_low hs (lowD_kind _)
  | succ f ih =>
    intro a s hs hD
    simp only [itemD]
    by_cases h1 : nxD n L a % 8 ≤ 4
    · rw [if_pos h1]
      simp only [List.map_cons, List.map_nil, gE_low o _ (plain_kind _)]
      exact goes_low hs (plain_kind _)
    · rw [if_neg h1]
      by_cases h2 : nxD n L a % 8 = 5
      · rw [if_pos h2]
        generalize nxD n L a / 8 % 4 = k
        simp only [List.map_cons, List.map_append, List.map_nil, gE_arr, gE_end, List.cons_append]
        have g1 := goes_begin hs false (cntG o k) (cntG_low o k) (show s.length < D by omega) hD16
        have g2 := goes_list o D f _ ih k (a + 1) ⟨false, cntG o k, 0⟩ (incB s) rfl (by rw [incB_length]; omega)
        have g3 := goes_end (D := D) (s := s) ⟨false, cntG o k, 0 + k⟩ (by
          unfold shutB cntG
          cases o <;> simp)
        exact g1.append (g2.append g3)
      · rw [if_neg h2]
        generalize nxD n L a / 8 % 3 = k
        simp only [List.map_cons, List.map_append, List.map_nil, gE_map, gE_end, List.cons_append]
        have g1 := goes_begin hs true (cntG o k) (cntG_low o k) (show s.length < D by omega) hD16
        have g2 := goes_map o D f n L _ ih k (a + 1) ⟨true, cntG o k, 0⟩ (incB s) rfl rfl (by rw [incB_length]; omega)
        have g3 := goes_end (D := D) (s := s) ⟨true, cntG o k, 0 + 2 * k⟩ (by
          unfold shutB cntG
          cases o <;> simp)
        exact g1.append (g2.append g3)
/-- A DOCUMENT OUT OF NUMBERS IS ONE, with its counts or without. -/
theorem doc_one (o : Bool) (D n : Nat) (L : Nat → Int) (hD16 : D ≤ 16) : checkE ((itemD n L D 0).1.map (gE o)) = 0 ∧ DeepW D [] ((itemD n L D 0).1.map (gE o)) := by
  obtain ⟨h1, h2⟩ := goes_item o D n L hD16 D 0 [] rfl (by simp)
  refine ⟨?_, h2⟩
  unfold checkE
  rw [h1]
  rfl
end Go.Proofs.Ytkfidnfnehnhoaa
