/-
  The book's documents as a whole.
-/
import Derived.Test.YtgknpheefbfnlaaDd
import Derived.Laws.EntriesVeiled
import Derived.Test.YtgknpheefbfnlaaGa
import Derived.Test.YtgknpheefbfnlaaDa
import Derived.Test.YtgknpheefbfnlaaGc
/-
  CONTRACTS of the book's documents out of numbers: every item, to the depth asked.
-/
namespace Go.Proofs.Ytgknpheefbfnlaa
open Go.RowKit
open Go.Lib
theorem plain_ok {D n cp at_ m bl bd bo ba bn bi : Nat} (d : Nat) {A : Option Addr} {L : Nat → Int} {W w : World} {v : Value} {out : List Ev} (h : DS W A n cp L D bl bd bo ba bn bi w v m out at_) (h1 : at_ ≤ 900000000) (h2 : n ≤ 900000000) (h3 : m ≤ 900000000) (hx : nxD n L at_ % 8 ≤ 4) :
    Calls Try.prog 31 #[.int .i64 ((d : Nat) : Int), .pointer (some ⟨bn, 0, none⟩), .pointer (some ⟨bo, 0, none⟩), .pointer (some ⟨bd, 0, none⟩), .pointer (some ⟨bi, 0, none⟩)] w fun r w' => ∃ v', r = .returned (.tuple #[]) ∧ DS W A n cp L D bl bd bo ba bn bi w' v' (m + 1) (out ++ [plainD (nxD n L at_)]) (at_ + 1) := by
  by_cases k0 : nxD n L at_ % 8 = 0
  · exact plain0 d h h1 h2 h3 k0
  by_cases k1 : nxD n L at_ % 8 = 1
  · exact plain1 d h h1 h2 h3 k1
  by_cases k2 : nxD n L at_ % 8 = 2
  · exact plain2 d h h1 h2 h3 k2
  by_cases k3 : nxD n L at_ % 8 = 3
  · exact plain3 d h h1 h2 h3 k3
  exact plain4 d h h1 h2 h3 (by omega)
theorem cap_pos (f : Nat) : 1 ≤ capD f := by
  cases f
  · exact Nat.le_refl _
  · simp only [capD]; omega
/-- Every item tells its parts. -/
theorem item_any {D n cp bl bd bo ba bn bi : Nat} {A : Option Addr} {L : Nat → Int} {W : World} (h2 : n ≤ 900000000) (hD : D ≤ 1000) : ∀ f d, d + f = D → ItemOk W A n cp L D bl bd bo ba bn bi d f
  | 0, d, hd => by
    intro m a w v out h ha hm
    simp only [capD] at ha hm
    simp only [itemD]
    by_cases k : nxD n L a % 8 ≤ 4
    · rw [if_pos k]
      exact plain_ok d h (by omega) h2 (by omega) k
    · rw [if_neg k]
      by_cases k5 : nxD n L a % 8 = 5
      · exact low5 d h (by omega) h2 (by omega) k5 (by omega)
      by_cases k6 : nxD n L a % 8 = 6
      · exact low6 d h (by omega) h2 (by omega) k6 (by omega)
      exact low7 d h (by omega) h2 (by omega) (by omega) (by omega)
  | f + 1, d, hd => by
    intro m a w v out h ha hm
    have hp := cap_pos (f + 1)
    by_cases k : nxD n L a % 8 ≤ 4
    · simp only [itemD]
      rw [if_pos k]
      exact plain_ok d h (by omega) h2 (by omega) k
    · have ih := item_any (W := W) (A := A) (cp := cp) (L := L) (bl := bl) (bd := bd) (bo := bo) (ba := ba) (bn := bn) (bi := bi) h2 hD f (d + 1) (by omega)
      by_cases k5 : nxD n L a % 8 = 5
      · exact item_arr h ha h2 hm k5 hd hD ih
      · exact item_map h ha h2 hm (by omega) hd hD ih
end Go.Proofs.Ytgknpheefbfnlaa
/-
  CONTRACT of the book's documents out of numbers: truchmanbook.Doc.
-/
namespace Go.Proofs.Ytgknpheefbfnlaa
open Go.RowKit
open Go.Lib
theorem blk_new1 (w : World) (X : Obj) (cs : Array Value) (t : TypeId) : Blk ((w.alloc X).alloc (.cells cs t)) (w.heap.size + 1) cs t := by
  have := blk_new (w.alloc X) cs t
  rwa [World.size_alloc] at this
theorem blk_new2 (w : World) (X Y : Obj) (cs : Array Value) (t : TypeId) : Blk (((w.alloc X).alloc Y).alloc (.cells cs t)) (w.heap.size + 1 + 1) cs t := by
  have := blk_new1 (w.alloc X) Y cs t
  rwa [World.size_alloc] at this
theorem blk_new3 (w : World) (X Y Z : Obj) (cs : Array Value) (t : TypeId) : Blk ((((w.alloc X).alloc Y).alloc Z).alloc (.cells cs t)) (w.heap.size + 1 + 1 + 1) cs t := by
  have := blk_new2 (w.alloc X) Y Z cs t
  rwa [World.size_alloc] at this
theorem blk_new4 (w : World) (X Y Z U : Obj) (cs : Array Value) (t : TypeId) : Blk (((((w.alloc X).alloc Y).alloc Z).alloc U).alloc (.cells cs t)) (w.heap.size + 1 + 1 + 1 + 1) cs t := by
  have := blk_new3 (w.alloc X) Y Z U cs t
  rwa [World.size_alloc] at this
theorem blk_new5 (w : World) (X Y Z U V : Obj) (cs : Array Value) (t : TypeId) : Blk ((((((w.alloc X).alloc Y).alloc Z).alloc U).alloc V).alloc (.cells cs t)) (w.heap.size + 1 + 1 + 1 + 1 + 1) cs t := by
  have := blk_new4 (w.alloc X) Y Z U V cs t
  rwa [World.size_alloc] at this
/-- What Doc lays ahead of its one item. -/
theorem ds_new (A : Option Addr) (n cp : Nat) (L : Nat → Int) (D : Nat) (w : World) (hL : DLAt w w.heap.size A n L) :
    DS w A n cp L D w.heap.size (w.heap.size + 1) (w.heap.size + 1 + 1) (w.heap.size + 1 + 1 + 1) (w.heap.size + 1 + 1 + 1 + 1) (w.heap.size + 1 + 1 + 1 + 1 + 1)
      ((((((w.alloc (.cells #[.slice A n cp] 29)).alloc (.cells #[.int .i64 D] 3)).alloc (.cells #[.slice none 0 0] 23)).alloc (.cells #[.int .i64 0] 3)).alloc (.cells #[clNext (w.heap.size + 1 + 1 + 1) w.heap.size] 51)).alloc
        (.cells #[clItem (w.heap.size + 1 + 1 + 1 + 1) (w.heap.size + 1 + 1) (w.heap.size + 1) (w.heap.size + 1 + 1 + 1 + 1 + 1)] 70)) (.slice none 0 0) 0 [] 0 := by
  have hB : Below w.heap.size w ((((((w.alloc (.cells #[.slice A n cp] 29)).alloc (.cells #[.int .i64 D] 3)).alloc (.cells #[.slice none 0 0] 23)).alloc (.cells #[.int .i64 0] 3)).alloc (.cells #[clNext (w.heap.size + 1 + 1 + 1) w.heap.size] 51)).alloc
        (.cells #[clItem (w.heap.size + 1 + 1 + 1 + 1) (w.heap.size + 1 + 1) (w.heap.size + 1) (w.heap.size + 1 + 1 + 1 + 1 + 1)] 70)) := up_alloc (up_alloc (up_alloc (up_alloc (up_alloc (up_alloc (Below.refl _ _) _) _) _) _) _) _
  exact ⟨((((((blk_new _ _ _).alloc _).alloc _).alloc _).alloc _).alloc _), (((((blk_new1 _ _ _ _).alloc _).alloc _).alloc _).alloc _), (((blk_new2 _ _ _ _ _).alloc _).alloc _).alloc _, ((blk_new3 _ _ _ _ _ _).alloc _).alloc _, (blk_new4 _ _ _ _ _ _ _).alloc _, blk_new5 _ _ _ _ _ _ _ _,
    ⟨hB, Win.nil_ _ _ _, fun k hk => by simp [Value.owner] at hk⟩, rfl, hL.below hB, by omega, by omega, by omega⟩
set_option maxHeartbeats 2000000 in
/-- Doc tells the parts of one item. -/
theorem doc_any (A : Option Addr) (n cp : Nat) (L : Nat → Int) (D : Nat) (w : World) (hL : DLAt w w.heap.size A n L) (h2 : n ≤ 900000000) (hD : D ≤ 1000) (hC : capD D ≤ 900000000) :
    Calls Try.prog 16 #[.slice A n cp, .int .i64 ((D : Nat) : Int)] w fun r w' => ∃ v, r = .returned v ∧ Made w w' v (itemD n L D 0).1.length (itemD n L D 0).1 := by
  have hI := item_any (bl := w.heap.size) (bd := w.heap.size + 1) (bo := w.heap.size + 1 + 1) (ba := w.heap.size + 1 + 1 + 1) (bn := w.heap.size + 1 + 1 + 1 + 1) (bi := w.heap.size + 1 + 1 + 1 + 1 + 1) (cp := cp) (A := A) (L := L) (W := w) h2 hD D 0 (by omega) 0 0 _ _ _ (ds_new A n cp L D w hL) (by omega) (by omega)
  simp only [Nat.zero_add, List.nil_append] at hI
  have HI := Lib.hid hI
  clear hI hL hC
  go_enter Try.func16, Try.ntmps16
  go_wp2_with fail
  refine HI.out.mono ?_
  rintro r w1 ⟨v, rfl, hS⟩
  have o0 := hS.o.cell 0
  simp only [List.getElem?_toArray, List.getElem?_cons_zero] at o0
  have HM := Lib.hid hS.made
  clear hS
  go_wp2
  go_ret
  exact ⟨v, rfl, HM.out⟩
end Go.Proofs.Ytgknpheefbfnlaa
/-
  The book's documents: how many blocks one may take; what came in as ints.
-/
namespace Go.Proofs.Ytgknpheefbfnlaa
open Go.RowKit
open Go.Lib
theorem cap16 (D : Nat) (hD : D ≤ 16) : capD D ≤ 900000000 := by
  have hc : D = 0 ∨ D = 1 ∨ D = 2 ∨ D = 3 ∨ D = 4 ∨ D = 5 ∨ D = 6 ∨ D = 7 ∨ D = 8 ∨ D = 9 ∨ D = 10 ∨ D = 11 ∨ D = 12 ∨ D = 13 ∨ D = 14 ∨ D = 15 ∨ D = 16 := by omega
  rcases hc with rfl | rfl | rfl | rfl | rfl | rfl | rfl | rfl | rfl | rfl | rfl | rfl | rfl | rfl | rfl | rfl | rfl <;> decide +kernel
/-- What came in as ints, as the documents want it. -/
theorem dlat_reads {w : World} {A : Option Addr} {n : Nat} {zs : List Int} (hl : zs.length = n) (hR : Reads w w.heap.size 1 A n (zs.map (Value.int .i64))) : DLAt w w.heap.size A n (fun i => zs.getD i 0) := fun h0 => by
  obtain ⟨ad, rfl, hb, hc⟩ := hR.2 h0
  obtain ⟨b, off, spot⟩ := ad
  have h00 := hc 0 (.int .i64 (zs[0]'(by omega))) (by simp [show 0 < zs.length by omega])
  have hspot : spot = none := by simpa [Addr.add] using World.cell?_spot h00
  subst hspot
  refine ⟨b, off, rfl, hb, fun i hi => ?_⟩
  have hi' : i < zs.length := by omega
  have := hc i (.int .i64 zs[i]) (by simp [hi'])
  by_cases hi0 : i = 0
  · subst hi0
    simpa [List.getD, hi', Addr.add] using this
  · simpa [List.getD, hi', Addr.add, hi0] using this
end Go.Proofs.Ytgknpheefbfnlaa
/-
  THE BOOK'S DOCUMENTS OUT OF NUMBERS, AS LISTS: how many parts; that they are one document, with counts or without; what JSON has.
-/
namespace Go.Proofs.Ytgknpheefbfnlaa
open Go.RowKit
open Go.Lib
theorem nx_real {n : Nat} {L : Nat → Int} {a : Nat} (h : nxD n L a ≠ 0) : a < n := by
  unfold nxD at h
  split at h
  · assumption
  · exact absurd rfl h
/-- How many numbers are read of k items, how many parts they are: as many more as a document's own numbers ask. -/
def Fine (n a k : Nat) (r : List Ev × Nat) : Prop := a ≤ r.2 ∧ r.2 + 4 * min a n ≤ a + k + 4 * min r.2 n ∧ r.1.length ≤ 2 * (r.2 - a)
theorem list_fine (n : Nat) (it : Nat → List Ev × Nat) (hit : ∀ a, Fine n a 1 (it a)) : ∀ k a, Fine n a k (listD it k a) := by
  intro k
  induction k with
  | zero => intro a; exact ⟨Nat.le_refl _, by simp [listD], by simp [listD]⟩
  | succ k ih =>
    intro a
    obtain ⟨h1, h2, h3⟩ := hit a
    obtain ⟨g1, g2, g3⟩ := ih (it a).2
    simp only [listD]
    refine ⟨by simp only; omega, by simp only; omega, ?_⟩
    simp only [List.length_append]
    omega
theorem map_fine (n : Nat) (L : Nat → Int) (it : Nat → List Ev × Nat) (hit : ∀ a, Fine n a 1 (it a)) : ∀ k a, Fine n a (2 * k) (mapD n L it k a) := by
  intro k
  induction k with
  | zero => intro a; exact ⟨Nat.le_refl _, by simp [mapD], by simp [mapD]⟩
  | succ k ih =>
    intro a
    obtain ⟨h1, h2, h3⟩ := hit (a + 1)
    obtain ⟨g1, g2, g3⟩ := ih (it (a + 1)).2
    simp only [mapD]
    refine ⟨by simp only; omega, by simp only; omega, ?_⟩
    simp only [List.length_cons, List.length_append]
    omega
theorem item_fine (n : Nat) (L : Nat → Int) : ∀ f a, Fine n a 1 (itemD n L f a) := by
  intro f
  induction f with
  | zero =>
    intro a
    simp only [itemD]
    refine ⟨by simp only; omega, by simp only; omega, ?_⟩
    split <;> simp
  | succ f ih =>
    intro a
    simp only [itemD]
    by_cases h1 : nxD n L a % 8 ≤ 4
    · rw [if_pos h1]
      exact ⟨by simp only; omega, by simp only; omega, by simp⟩
    · have hr := nx_real (n := n) (L := L) (a := a) (by omega)
      rw [if_neg h1]
      by_cases h2 : nxD n L a % 8 = 5
      · rw [if_pos h2]
        obtain ⟨g1, g2, g3⟩ := list_fine n _ ih (nxD n L a / 8 % 4) (a + 1)
        refine ⟨by simp only; omega, by simp only; omega, ?_⟩
        simp only [List.length_append, List.length_cons, List.length_nil]
        omega
      · rw [if_neg h2]
        obtain ⟨g1, g2, g3⟩ := map_fine n L _ ih (nxD n L a / 8 % 3) (a + 1)
        refine ⟨by simp only; omega, by simp only; omega, ?_⟩
        simp only [List.length_append, List.length_cons, List.length_nil]
        omega
/-- Of n numbers a document has no more parts than this. -/
theorem item_length (n : Nat) (L : Nat → Int) (f : Nat) : (itemD n L f 0).1.length ≤ 2 + 8 * n ∧ 1 ≤ (itemD n L f 0).1.length := by
  obtain ⟨h1, h2, h3⟩ := item_fine n L f 0
  refine ⟨by omega, ?_⟩
  cases f with
  | zero => simp only [itemD]; split <;> simp
  | succ f =>
    simp only [itemD]
    repeat' split
    all_goals simp
/-! ### One document -/
/-- With the counts that they have, or without. -/
def gE (o : Bool) (e : Ev) : Ev := if o = true then openE e else e
theorem deep_append (D : Nat) : ∀ (l k : List Ev) (s s' : List Bx), runC (.live s) l = .live s' → DeepW D s l → DeepW D s' k → DeepW D s (l ++ k) := by
  intro l
  induction l with
  | nil => intro k s s' h _ hk; cases h; exact hk
  | cons e l ih =>
    intro k s s' h hd hk
    rw [runC_cons] at h
    obtain ⟨h1, h2⟩ := hd
    refine ⟨h1, ?_⟩
    cases hs : stepC (.live s) e with
    | bad f => rw [hs, runC_bad] at h; cases h
    | done => trivial
    | live s2 =>
      rw [hs] at h h2
      exact ih k s2 s' h h2 hk
/-- All of l goes from s on, to c. -/
def Goes (D : Nat) (s : List Bx) (l : List Ev) (c : Ck) : Prop := runC (.live s) l = c ∧ DeepW D s l
theorem Goes.append {D : Nat} {s s' : List Bx} {l k : List Ev} {c : Ck} (h : Goes D s l (.live s')) (g : Goes D s' k c) : Goes D s (l ++ k) c :=
  ⟨by rw [runC_append, h.1, g.1], deep_append D l k s s' h.1 h.2 g.2⟩
theorem goes_one {D : Nat} {s : List Bx} {e : Ev} {c : Ck} (h : stepC (.live s) e = c) (hd : e.k = 5 ∨ e.k = 6 → s.length < D) : Goes D s [e] c := by
  refine ⟨h, hd, ?_⟩
  cases stepC (.live s) e <;> trivial
def afterV (s : List Bx) : Ck := if s = [] then .done else .live (incB s)
/-- A part that holds no other, in a value's place. -/
theorem goes_low {D : Nat} {s : List Bx} {e : Ev} (hs : keyB s = false) (hk : e.k = 0 ∨ e.k = 1 ∨ e.k = 2 ∨ e.k = 3) : Goes D s [e] (afterV s) := by
  refine goes_one ?_ (by omega)
  simp only [stepC]
  rw [if_neg (fun h => h ⟨by omega, by omega, by omega⟩), if_neg (by omega), if_neg (by rw [hs]; simp), if_neg (by omega)]
  rfl
theorem plain_kind (x : Nat) : (plainD x).k = 0 ∨ (plainD x).k = 1 ∨ (plainD x).k = 2 ∨ (plainD x).k = 3 := by
  unfold plainD
  repeat' split
  all_goals simp
theorem lowD_kind (x : Nat) : (lowD x).k = 0 ∨ (lowD x).k = 1 ∨ (lowD x).k = 2 ∨ (lowD x).k = 3 := by
  unfold lowD
  split <;> simp
theorem gE_low (o : Bool) (e : Ev) (hk : e.k = 0 ∨ e.k = 1 ∨ e.k = 2 ∨ e.k = 3) : gE o e = e := by
  unfold gE openE
  split
  · rw [if_neg (by omega)]
  · rfl
theorem gE_end (o : Bool) : gE o ⟨7, false, 0, ⟨#[]⟩, 0⟩ = ⟨7, false, 0, ⟨#[]⟩, 0⟩ := by
  cases o <;> rfl
def cntG (o : Bool) (c : Nat) : Int := if o = true then -1 else (c : Int)
theorem gE_arr (o : Bool) (c : Nat) : gE o ⟨5, false, 0, ⟨#[]⟩, (c : Nat)⟩ = ⟨5, false, 0, ⟨#[]⟩, cntG o c⟩ := by
  cases o <;> rfl
theorem gE_map (o : Bool) (c : Nat) : gE o ⟨6, false, 0, ⟨#[]⟩, (c : Nat)⟩ = ⟨6, false, 0, ⟨#[]⟩, cntG o c⟩ := by
  cases o <;> rfl
theorem cntG_low (o : Bool) (c : Nat) : -1 ≤ cntG o c := by
  unfold cntG
  split <;> omega
theorem goes_begin {D : Nat} {s : List Bx} (hs : keyB s = false) (m : Bool) (c : Int) (hc : -1 ≤ c) (hD : s.length < D) (hD16 : D ≤ 16) : Goes D s [⟨if m then 6 else 5, false, 0, ⟨#[]⟩, c⟩] (.live (⟨m, c, 0⟩ :: incB s)) := by
  refine goes_one ?_ (fun _ => hD)
  simp only [stepC]
  cases m with
  | true =>
    rw [if_neg (fun h => h ⟨by simp, by simp, fun _ => hc⟩), if_neg (by simp), if_neg (by rw [hs]; simp), if_pos (by simp), if_neg (by omega)]
    rfl
  | false =>
    rw [if_neg (fun h => h ⟨by simp, by simp, fun _ => hc⟩), if_neg (by simp), if_neg (by rw [hs]; simp), if_pos (by simp), if_neg (by omega)]
    rfl
theorem goes_end {D : Nat} {s : List Bx} (b : Bx) (hb : ¬ shutB b) : Goes D (b :: incB s) [⟨7, false, 0, ⟨#[]⟩, 0⟩] (afterV s) := by
  refine goes_one ?_ (by simp)
  simp only [stepC]
  rw [if_neg (fun h => h ⟨by simp, by simp, by simp⟩), if_pos trivial, if_neg hb]
  cases s with
  | nil => rfl
  | cons x r => simp [afterV, incB]
theorem incB_length (s : List Bx) : (incB s).length = s.length := by cases s <;> rfl
theorem goes_list (o : Bool) (D f : Nat) (it : Nat → List Ev × Nat) (hit : ∀ a s, keyB s = false → s.length + f ≤ D → Goes D s ((it a).1.map (gE o)) (afterV s)) :
    ∀ k a (b : Bx) (s : List Bx), b.map = false → s.length + 1 + f ≤ D → Goes D (b :: s) ((listD it k a).1.map (gE o)) (.live (⟨b.map, b.c, b.have_ + k⟩ :: s)) := by
  intro k
  induction k with
  | zero => intro a b s _ _; exact ⟨rfl, trivial⟩
  | succ k ih =>
    intro a b s hb hD
    simp only [listD, List.map_append]
    have h1 := hit a (b :: s) (by simp [keyB, hb]) (by simp only [List.length_cons]; omega)
    have h2 := ih (it a).2 ⟨b.map, b.c, b.have_ + 1⟩ s hb hD
    simp only [Nat.add_assoc, Nat.add_comm 1 k] at h2
    exact h1.append h2
theorem goes_map (o : Bool) (D f n : Nat) (L : Nat → Int) (it : Nat → List Ev × Nat) (hit : ∀ a s, keyB s = false → s.length + f ≤ D → Goes D s ((it a).1.map (gE o)) (afterV s)) :
    ∀ k a (b : Bx) (s : List Bx), b.map = true → b.have_ % 2 = 0 → s.length + 1 + f ≤ D → Goes D (b :: s) ((mapD n L it k a).1.map (gE o)) (.live (⟨b.map, b.c, b.have_ + 2 * k⟩ :: s)) := by
  intro k
  induction k with
  | zero => intro a b s _ _ _; exact ⟨rfl, trivial⟩
  | succ k ih =>
    intro a b s hb h0 hD
    simp only [mapD, List.map_cons, List.map_append]
    have hkey : Goes D (b :: s) [gE o ⟨3, false, 0, ⟨(textL (nxD n L a)).toArray⟩, 0⟩] (.live (⟨b.map, b.c, b.have_ + 1⟩ :: s)) := by
      rw [gE_low o _ (by simp)]
      refine goes_one ?_ (by simp)
      simp only [stepC]
      rw [if_neg (fun h => h ⟨by simp, by simp, by simp⟩), if_neg (by simp), if_neg (by simp), if_neg (by simp), if_neg (by simp)]
      rfl
    have h1 := hit (a + 1) (⟨b.map, b.c, b.have_ + 1⟩ :: s) (by simp [keyB, hb]; omega) (by simp only [List.length_cons]; omega)
    have h2 := ih (it (a + 1)).2 ⟨b.map, b.c, b.have_ + 2⟩ s hb (by simp only; omega) hD
    have e2 : b.have_ + 2 + 2 * k = b.have_ + 2 * (k + 1) := by omega
    simp only [e2] at h2
    exact hkey.append (h1.append h2)
theorem goes_item (o : Bool) (D n : Nat) (L : Nat → Int) (hD16 : D ≤ 16) : ∀ f a s, keyB s = false → s.length + f ≤ D → Goes D s ((itemD n L f a).1.map (gE o)) (afterV s) := by
  intro f
  induction f with
  | zero =>
    intro a s hs _
    simp only [itemD]
    split
    · simp only [List.map_cons, List.map_nil, gE_low o _ (plain_kind _)]
      exact goes_low hs (plain_kind _)
    · simp only [List.map_cons, List.map_nil, gE_low o _ (lowD_kind _)]
      exact goes_low hs (lowD_kind _)
  | succ f ih =>
    intro a s hs hD
    simp only [itemD]
    by_cases h1 : nxD n L a % 8 ≤ 4
    · rw [if_pos h1]
      simp only [List.map_cons, List.map_nil, gE_low o _ (plain_kind _)]
      exact goes_low hs (plain_kind _)
    · rw [if_neg h1]
      by_cases h2 : nxD n L a % 8 = 5
      · rw [if_pos h2]
        generalize nxD n L a / 8 % 4 = k
        simp only [List.map_cons, List.map_append, List.map_nil, gE_arr, gE_end, List.cons_append]
        have g1 := goes_begin hs false (cntG o k) (cntG_low o k) (show s.length < D by omega) hD16
        have g2 := goes_list o D f _ ih k (a + 1) ⟨false, cntG o k, 0⟩ (incB s) rfl (by rw [incB_length]; omega)
        have g3 := goes_end (D := D) (s := s) ⟨false, cntG o k, 0 + k⟩ (by
          unfold shutB cntG
          cases o <;> simp)
        exact g1.append (g2.append g3)
      · rw [if_neg h2]
        generalize nxD n L a / 8 % 3 = k
        simp only [List.map_cons, List.map_append, List.map_nil, gE_map, gE_end, List.cons_append]
        have g1 := goes_begin hs true (cntG o k) (cntG_low o k) (show s.length < D by omega) hD16
        have g2 := goes_map o D f n L _ ih k (a + 1) ⟨true, cntG o k, 0⟩ (incB s) rfl rfl (by rw [incB_length]; omega)
        have g3 := goes_end (D := D) (s := s) ⟨true, cntG o k, 0 + 2 * k⟩ (by
          unfold shutB cntG
          cases o <;> simp)
        exact g1.append (g2.append g3)
/-- A DOCUMENT OUT OF NUMBERS IS ONE, with its counts or without. -/
theorem doc_one (o : Bool) (D n : Nat) (L : Nat → Int) (hD16 : D ≤ 16) : checkE ((itemD n L D 0).1.map (gE o)) = 0 ∧ DeepW D [] ((itemD n L D 0).1.map (gE o)) := by
  obtain ⟨h1, h2⟩ := goes_item o D n L hD16 D 0 [] rfl (by simp)
  refine ⟨?_, h2⟩
  unfold checkE
  rw [h1]
  rfl
end Go.Proofs.Ytgknpheefbfnlaa
/-
  THE BOOK'S DOCUMENTS OUT OF NUMBERS, AS LISTS: their numbers, their texts; what JSON has.
-/
namespace Go.Proofs.Ytgknpheefbfnlaa
open Go.RowKit
open Go.Lib
def pieceR (i : Nat) : Nat := if i = 0 then 97 else if i = 1 then 34 else if i = 2 then 92 else if i = 3 then 10 else if i = 4 then 233 else if i = 5 then 1 else if i = 6 then 119070 else 122
theorem piece_rune : ∀ i : Fin 8, pieceL i.val = encL (pieceR i.val) := by decide +kernel
theorem pieceR_ok (i : Nat) : IsRune (pieceR i) := by
  unfold pieceR IsRune
  repeat' split
  all_goals omega
theorem textGo_runes (x : Nat) : ∀ k acc, ∃ ns : List Nat, ns.length = k ∧ (∀ r ∈ ns, IsRune r) ∧ textGo x k acc = acc ++ ns.flatMap encL := by
  intro k
  induction k with
  | zero => intro acc; exact ⟨[], rfl, by simp, by simp [textGo]⟩
  | succ k ih =>
    intro acc
    have hp := piece_rune ⟨x / 2 ^ ((k + 1) % 8) % 8, by omega⟩
    obtain ⟨ns, h1, h2, h3⟩ := ih (acc ++ pieceL (x / 2 ^ ((k + 1) % 8) % 8))
    refine ⟨pieceR (x / 2 ^ ((k + 1) % 8) % 8) :: ns, by simp [h1], ?_, ?_⟩
    · intro r hr
      rcases List.mem_cons.1 hr with rfl | hr
      · exact pieceR_ok _
      · exact h2 r hr
    · simp only [textGo]
      rw [h3, List.flatMap_cons, List.append_assoc]
      simp only at hp
      rw [hp]
theorem textL_fine (x : Nat) : validD (textL x) = true ∧ (textL x).length ≤ 28 := by
  obtain ⟨ns, h1, h2, h3⟩ := textGo_runes x (x % 8) []
  unfold textL
  rw [h3, List.nil_append]
  refine ⟨valid_encs ns h2, ?_⟩
  have : ∀ l : List Nat, (∀ n ∈ l, IsRune n) → (l.flatMap encL).length ≤ 4 * l.length := by
    intro l hl
    induction l with
    | nil => simp
    | cons a r ih =>
      have h4 := (enc_len (hl a (by simp))).2
      have := ih (fun n hn => hl n (by simp [hn]))
      rw [List.flatMap_cons, List.length_append, List.length_cons]
      generalize encL a = y at *
      omega
  have := this ns h2
  omega
/-- What a part of these documents is. -/
structure DocE (e : Ev) : Prop where
  kind : e.k = 0 ∨ e.k = 1 ∨ e.k = 2 ∨ e.k = 3 ∨ e.k = 5 ∨ e.k = 6 ∨ e.k = 7
  tidy : tidyE e = e
  cnt : -1 ≤ e.c ∧ e.c ≤ 3
  mag : e.m < 4294967296
  text : validD e.t.data.toList = true ∧ e.t.data.toList.length ≤ 28
theorem validD_nil : validD [] = true := rfl
theorem docE_plain (x : Nat) (hx : x < 65536) : DocE (plainD x) := by
  unfold plainD
  by_cases h0 : x % 8 = 0
  · rw [if_pos h0]
    exact ⟨by simp, rfl, by simp, by simp, validD_nil, by simp⟩
  rw [if_neg h0]
  by_cases h1 : x % 8 = 1
  · rw [if_pos h1]
    exact ⟨by simp, rfl, by simp, by simp, validD_nil, by simp⟩
  rw [if_neg h1]
  by_cases h2 : x % 8 ≤ 3
  · rw [if_pos h2]
    refine ⟨by simp, rfl, by simp, ?_, validD_nil, by simp⟩
    have h3 : x * x ≤ 65535 * 65535 := Nat.mul_le_mul (by omega) (by omega)
    have h4 : x * x / 2 ^ (x % 8) ≤ x * x := Nat.div_le_self _ _
    simp only
    omega
  · rw [if_neg h2]
    exact ⟨by simp, rfl, by simp, by simp, (textL_fine x).1, (textL_fine x).2⟩
theorem docE_low (x : Nat) (hx : x < 65536) : DocE (lowD x) := by
  unfold lowD
  split
  · exact ⟨by simp, rfl, by simp, by simp, validD_nil, by simp⟩
  · exact ⟨by simp, rfl, by simp, by simp only; omega, validD_nil, by simp⟩
theorem docE_list (it : Nat → List Ev × Nat) (hit : ∀ a, ∀ e ∈ (it a).1, DocE e) : ∀ k a, ∀ e ∈ (listD it k a).1, DocE e := by
  intro k
  induction k with
  | zero => intro a e he; simp [listD] at he
  | succ k ih =>
    intro a e he
    simp only [listD, List.mem_append] at he
    rcases he with he | he
    · exact hit a e he
    · exact ih _ e he
theorem docE_key (n : Nat) (L : Nat → Int) (a : Nat) : DocE ⟨3, false, 0, ⟨(textL (nxD n L a)).toArray⟩, 0⟩ := ⟨by simp, rfl, by simp, by simp, (textL_fine _).1, (textL_fine _).2⟩
theorem docE_map (n : Nat) (L : Nat → Int) (it : Nat → List Ev × Nat) (hit : ∀ a, ∀ e ∈ (it a).1, DocE e) : ∀ k a, ∀ e ∈ (mapD n L it k a).1, DocE e := by
  intro k
  induction k with
  | zero => intro a e he; simp [mapD] at he
  | succ k ih =>
    intro a e he
    simp only [mapD, List.mem_cons, List.mem_append] at he
    rcases he with rfl | he | he
    · exact docE_key n L a
    · exact hit (a + 1) e he
    · exact ih _ e he
theorem docE_item (n : Nat) (L : Nat → Int) : ∀ f a, ∀ e ∈ (itemD n L f a).1, DocE e := by
  have hend : DocE ⟨7, false, 0, ⟨#[]⟩, 0⟩ := ⟨by simp, rfl, by simp, by simp, validD_nil, by simp⟩
  intro f
  induction f with
  | zero =>
    intro a e he
    simp only [itemD] at he
    split at he
    · obtain rfl : e = _ := by simpa using he
      exact docE_plain _ (nxD_lt n L a)
    · obtain rfl : e = _ := by simpa using he
      exact docE_low _ (nxD_lt n L a)
  | succ f ih =>
    intro a e he
    simp only [itemD] at he
    by_cases h1 : nxD n L a % 8 ≤ 4
    · rw [if_pos h1] at he
      obtain rfl : e = _ := by simpa using he
      exact docE_plain _ (nxD_lt n L a)
    · rw [if_neg h1] at he
      by_cases h2 : nxD n L a % 8 = 5
      · rw [if_pos h2] at he
        have hk : nxD n L a / 8 % 4 ≤ 3 := by omega
        generalize nxD n L a / 8 % 4 = k at he hk
        simp only [List.cons_append, List.mem_cons, List.mem_append, List.not_mem_nil, or_false] at he
        rcases he with rfl | he | rfl
        · exact ⟨by simp, rfl, by simp only; omega, by simp, validD_nil, by simp⟩
        · exact docE_list _ ih _ _ e he
        · exact hend
      · rw [if_neg h2] at he
        have hk : nxD n L a / 8 % 3 ≤ 2 := by omega
        generalize nxD n L a / 8 % 3 = k at he hk
        simp only [List.cons_append, List.mem_cons, List.mem_append, List.not_mem_nil, or_false] at he
        rcases he with rfl | he | rfl
        · exact ⟨by simp, rfl, by simp only; omega, by simp, validD_nil, by simp⟩
        · exact docE_map n L _ ih _ _ e he
        · exact hend
theorem docE_open {e : Ev} (h : DocE e) : DocE (openE e) ∧ (((openE e).k = 5 ∨ (openE e).k = 6) → (openE e).c = -1) := by
  obtain ⟨k, y, m, t, c⟩ := e
  unfold openE
  by_cases hk : k = 5 ∨ k = 6
  · rw [if_pos hk]
    obtain ⟨h1, h2, h3, h4, h5⟩ := h
    refine ⟨⟨h1, ?_, by simp, h4, h5⟩, fun _ => rfl⟩
    simp only [tidyE] at h2 ⊢
    rcases hk with rfl | rfl
    · simp at h2 ⊢; exact ⟨h2.1, h2.2.1, h2.2.2⟩
    · simp at h2 ⊢; exact ⟨h2.1, h2.2.1, h2.2.2⟩
  · rw [if_neg hk]
    exact ⟨h, fun h' => absurd h' hk⟩
theorem DocE.good {e : Ev} (h : DocE e) (ho : e.k = 5 ∨ e.k = 6 → e.c = -1) : GoodW e := ⟨h.kind, h.tidy, ho, by have := h.mag; omega, fun _ => ⟨h.text.1, by have := h.text.2; omega⟩⟩
theorem DocE.ok {e : Ev} (h : DocE e) : EvOk e := by
  have h1 := h.kind
  have h2 := h.cnt
  have h3 := h.mag
  have h4 := h.text.2
  rw [size_list] at h4
  exact ⟨⟨by omega, by omega⟩, by omega, ⟨by omega, by omega⟩, by omega⟩
/-- What JSON has of them. -/
theorem doc_good (n : Nat) (L : Nat → Int) (f a : Nat) : ∀ e ∈ (itemD n L f a).1.map openE, GoodW e ∧ EvOk e ∧ e.t.size ≤ 28 := by
  intro e he
  obtain ⟨x, hx, rfl⟩ := List.mem_map.1 he
  obtain ⟨h1, h2⟩ := docE_open (docE_item n L f a x hx)
  refine ⟨h1.good h2, h1.ok, ?_⟩
  have := h1.text.2
  rwa [size_list] at this
theorem gE_true : gE true = openE := by funext e; rfl
theorem gE_false : gE false = id := by funext e; rfl
end Go.Proofs.Ytgknpheefbfnlaa
/-
  NO PROGRAM NEEDED but names: the book's documents are what CBOR's reader tells.
-/
namespace Go.Proofs.Ytgknpheefbfnlaa
open Go.Lib
theorem DocE.goodK {e : Ev} (h : DocE e) : GoodK e := ⟨by have := h.kind; omega, h.tidy, ⟨h.cnt.1, by have := h.cnt.2; omega⟩, by have := h.mag; omega, ⟨by have := h.text.2; omega, fun _ => h.text.1⟩⟩
theorem docK_good (o : Bool) (n : Nat) (L : Nat → Int) (f a : Nat) : ∀ e ∈ (itemD n L f a).1.map (gE o), GoodK e ∧ EvOk e ∧ e.t.size ≤ 28 := by
  intro e he
  obtain ⟨x, hx, rfl⟩ := List.mem_map.1 he
  have h1 : DocE (gE o x) := by
    cases o
    · exact docE_item n L f a x hx
    · exact (docE_open (docE_item n L f a x hx)).1
  refine ⟨h1.goodK, h1.ok, ?_⟩
  have := h1.text.2
  rwa [size_list] at this
/-- Of the open containers behind a part: no count is greater than it may be. -/
theorem cnt_step {s s' : List Bx} {e : Ev} (h : stepC (.live s) e = .live s') (hs : ∀ b ∈ s, b.c ≤ 1000000) (hg : GoodK e) : ∀ b ∈ s', b.c ≤ 1000000 := by
  have hinc : ∀ b ∈ incB s, b.c ≤ 1000000 := by
    cases s with
    | nil => intro b hb; cases hb
    | cons x r =>
      intro b hb
      rcases List.mem_cons.1 hb with rfl | hb
      · exact hs x (by simp)
      · exact hs b (by simp [hb])
  simp only [stepC] at h
  split at h
  · cases h
  split at h
  · cases s with
    | nil => cases h
    | cons x r =>
      simp only at h
      split at h
      · cases h
      · split at h
        · cases h
        · cases h
          exact fun b hb => hs b (by simp [hb])
  split at h
  · cases h
  split at h
  · split at h
    · cases h
    · cases h
      intro b hb
      rcases List.mem_cons.1 hb with rfl | hb
      · exact hg.cnt.2
      · exact hinc b hb
  · split at h
    · cases h
    · cases h
      exact hinc
theorem cnt_run : ∀ (l : List Ev) (s s' : List Bx), runC (.live s) l = .live s' → (∀ b ∈ s, b.c ≤ 1000000) → (∀ e ∈ l, GoodK e) → ∀ b ∈ s', b.c ≤ 1000000
  | [], s, s', h, hs, _ => by
    have : Ck.live s = Ck.live s' := h
    cases this
    exact hs
  | e :: l, s, s', h, hs, hg => by
    rw [runC_cons] at h
    cases hx : stepC (.live s) e with
    | bad f => rw [hx, runC_bad] at h; cases h
    | done =>
      rw [hx] at h
      cases l with
      | nil => cases h
      | cons y l => rw [runC_cons] at h; simp only [stepC] at h; rw [runC_bad] at h; cases h
    | live s1 =>
      rw [hx] at h
      exact cnt_run l s1 s' h (cnt_step hx hs (hg e (by simp))) (fun x hx => hg x (by simp [hx]))
end Go.Proofs.Ytgknpheefbfnlaa
/-
  NO PROGRAM NEEDED: documents written part by part, as far as they are written; blanks ahead of all.
-/
namespace Go.Proofs.Ytgknpheefbfnlaa
open Go.Lib
theorem writeAll_snoc (p q : List UInt8) : ∀ (l : List Ev) (s s' : List Bx) (e : Ev), runC (.live s) l = .live s' → writeAll p q s (l ++ [e]) = writeAll p q s l ++ (p ++ (writeW s' e ++ q))
  | [], s, s', e, h => by
    have : Ck.live s = Ck.live s' := h
    obtain rfl : s = s' := by cases this; rfl
    simp only [List.nil_append, writeAll]
    cases stepC (.live s) e <;> simp
  | x :: l, s, s', e, h => by
    rw [runC_cons] at h
    simp only [List.cons_append, writeAll]
    cases hx : stepC (.live s) x with
    | bad f => rw [hx, runC_bad] at h; cases h
    | done =>
      rw [hx] at h
      cases l with
      | nil => cases h
      | cons y l => rw [runC_cons] at h; simp only [stepC] at h; rw [runC_bad] at h; cases h
    | live s1 =>
      rw [hx] at h
      simp only [writeAll_snoc p q l s1 s' e h, List.append_assoc]
/-- Ahead of its end a document goes on. -/
theorem live_at {l : List Ev} (h : runC (.live []) l = .done) {j : Nat} (hj : j < l.length) : ∃ s, runC (.live []) (l.take j) = .live s ∧ ∀ f, stepC (.live s) l[j] ≠ .bad f := by
  have h1 : runC (runC (.live []) (l.take j)) (l.drop j) = .done := by rw [← runC_append, List.take_append_drop]; exact h
  have hd : l.drop j = l[j] :: l.drop (j + 1) := List.drop_eq_getElem_cons hj
  rw [hd, runC_cons] at h1
  cases hc : runC (.live []) (l.take j) with
  | bad f => rw [hc] at h1; simp only [stepC] at h1; rw [runC_bad] at h1; cases h1
  | done => rw [hc] at h1; simp only [stepC] at h1; rw [runC_bad] at h1; cases h1
  | live s =>
    rw [hc] at h1
    exact ⟨s, rfl, fun f hf => by rw [hf, runC_bad] at h1; cases h1⟩
theorem runC_take {l : List Ev} {j : Nat} (hj : j < l.length) (c : Ck) : runC c (l.take (j + 1)) = stepC (runC c (l.take j)) l[j] := by
  rw [List.take_add_one, List.getElem?_eq_getElem hj, runC_append]
  rfl
theorem write_take (p q : List UInt8) {l : List Ev} {j : Nat} (hj : j < l.length) {s : List Bx} (h : runC (.live []) (l.take j) = .live s) :
    writeAll p q [] (l.take (j + 1)) = writeAll p q [] (l.take j) ++ (p ++ (writeW s l[j] ++ q)) := by
  rw [List.take_add_one, List.getElem?_eq_getElem hj]
  exact writeAll_snoc p q _ _ _ _ h
/-- A document behind a blank. -/
theorem back_blank (D : Nat) (b : UInt8) (hb : isBlank b.toNat = true) (l : List UInt8) : allJ D (b :: l) = allJ D l := by
  have h : stepJ D ⟨.idle, .at_ [] false⟩ b = (⟨.idle, .at_ [] false⟩, []) := by
    rw [step_tells D [] false .idle b [] (blank_none b hb)]
    rfl
  unfold allJ
  simp only [runJ, h, List.nil_append]
end Go.Proofs.Ytgknpheefbfnlaa
