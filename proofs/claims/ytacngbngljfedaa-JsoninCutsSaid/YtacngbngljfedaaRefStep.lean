/-
  CONTRACT of the document's own Writer, for JSON: one part, whatever it is.
-/
import Derived.Test.YtacngbngljfedaaRefWu
import Derived.Test.YtacngbngljfedaaRefWv
import Derived.Test.YtacngbngljfedaaRefWw
import Derived.Test.YtacngbngljfedaaRefWx
import Derived.Test.YtacngbngljfedaaRefWz
import Derived.Test.YtacngbngljfedaaRefWm
namespace Go.Proofs.Ytacngbngljfedaa
open Go.RowKit
open Go.Lib
theorem WrAt.up {M B b : Nat} {w : World} {s : List Bx} {dn : Bool} (h : WrAt M B w b s dn) (hM : M + 1 ≤ 1000) : WrAt (M + 1) B w b s dn := by
  obtain ⟨a, cp, h1, h2⟩ := h.cells
  exact ⟨⟨a, cp, h1, h2.up hM⟩, h.blk, h.low⟩
/-- A Writer, by what Check's state is. -/
def WrC (M B : Nat) (w : World) (b : Nat) : Ck → Prop
  | .live s => WrAt M B w b s false
  | .done => WrAt M B w b [] true
  | .bad _ => False
theorem str_join (l k : List UInt8) : (⟨l.toArray⟩ : ByteArray) ++ ⟨k.toArray⟩ = ⟨(l ++ k).toArray⟩ := by
  apply ByteArray.ext
  simp
theorem outW_length (e : Ev) (hk : e.k = 0 ∨ e.k = 1 ∨ e.k = 2 ∨ e.k = 3) (hm : e.m < 18446744073709551616) (ht : e.t.size ≤ 1000) : (outW e).length ≤ 100000 := by
  unfold outW
  by_cases h0 : e.k = 0
  · rw [if_pos h0]
    simp
  · by_cases h1 : e.k = 1
    · rw [if_neg h0, if_pos h1]
      split <;> simp
    · by_cases h2 : e.k = 2
      · rw [if_neg h0, if_neg h1, if_pos h2]
        have := print_len (e.y, e.m) hm
        omega
      · rw [if_neg h0, if_neg h1, if_neg h2, if_pos (by omega)]
        have := escW_len e.t.data.toList
        have h3 : e.t.data.toList.length = e.t.size := Array.length_toList
        simp only [List.length_append, List.length_cons, List.length_nil]
        omega
/-- A value. -/
theorem wr_value {M B b : Nat} {w : World} {s : List Bx} (h : WrAt M B w b s false) (hM : M + 1 ≤ 1000) (e : Ev) (hk : e.k = 0 ∨ e.k = 1 ∨ e.k = 2 ∨ e.k = 3) (hm : e.m < 18446744073709551616) (ht : e.t.size ≤ 1000) (hkey : ¬ (keyB s = true ∧ e.k ≠ 3)) :
    Calls Try.prog 14 #[.pointer (some ⟨b, 0, none⟩), evV e] w fun q w' => q = .returned (.tuple #[.string ⟨(sepW s ++ outW e).toArray⟩, .int .i64 0]) ∧ WrC (M + 1) B w' b (if s = [] then .done else .live (incB s)) ∧ Below B w w' := by
  have hP := rplain_any e hk hm ht
  have hX : (⟨(outW e).toArray⟩ : ByteArray).size ≤ 100000 := by
    show (outW e).toArray.size ≤ 100000
    rw [List.size_toArray]
    exact outW_length e hk hm ht
  have hk5 : e.k = 0 ∨ e.k = 1 ∨ e.k = 2 ∨ e.k = 3 ∨ e.k = 4 := by omega
  rw [← str_join]
  generalize (⟨(outW e).toArray⟩ : ByteArray) = X at hP hX
  cases s with
  | nil =>
    refine (wr_val0 h e hk5 X hX hP).mono ?_
    rintro q w' ⟨rfl, h1, h2⟩
    refine ⟨?_, h1.up hM, h2⟩
    have : (⟨(sepW []).toArray⟩ : ByteArray) ++ X = X := by apply ByteArray.ext; simp [sepW]
    rw [this]
  | cons bx r =>
    rw [if_neg (by simp)]
    obtain ⟨bm, bc, bh⟩ := bx
    cases bm with
    | false =>
      by_cases h0 : bh = 0
      · subst h0
        exact wr_v1 h hM e hk5 hkey X hX hP
      · exact wr_v2 h hM e hk5 hkey X hX (by omega) hP
    | true =>
      by_cases ho : bh % 2 = 1
      · exact wr_v3 h hM e hk5 hkey X hX ho hP
      · have hk3 : e.k = 3 := by
          by_cases h3 : e.k = 3
          · exact h3
          · exact absurd ⟨by simp only [keyB, Bool.true_and, beq_iff_eq]; omega, h3⟩ hkey
        by_cases h0 : bh = 0
        · subst h0
          exact wr_v4 h hM e hk5 hkey X hX hk3 hP
        · exact wr_v5 h hM e hk5 hkey X hX (by omega) (by omega) hk3 hP
/-- A list or a map begins. -/
theorem wr_begin {M B b : Nat} {w : World} {s : List Bx} (h : WrAt M B w b s false) (hM : M + 1 ≤ 1000) (k : Int) (hk : k = 5 ∨ k = 6) (y : Bool) (m : Nat) (t : ByteArray) (hkey : keyB s = false) (hd : s.length < 16) :
    Calls Try.prog 14 #[.pointer (some ⟨b, 0, none⟩), evV ⟨k, y, m, t, -1⟩] w fun q w' => q = .returned (.tuple #[.string ⟨(sepW s ++ outW ⟨k, y, m, t, -1⟩).toArray⟩, .int .i64 0]) ∧ WrC (M + 1) B w' b (.live (⟨decide (k = 6), -1, 0⟩ :: incB s)) ∧ Below B w w' := by
  rw [← str_join]
  have hnil : ∀ l : List UInt8, (⟨(sepW []).toArray⟩ : ByteArray) ++ ⟨l.toArray⟩ = ⟨l.toArray⟩ := fun l => by apply ByteArray.ext; simp [sepW]
  cases s with
  | nil =>
    rw [hnil]
    rcases hk with rfl | rfl
    · refine (wr_open0_5 h y m t).mono ?_
      rintro q w' ⟨rfl, h1, h2⟩
      exact ⟨rfl, h1.up hM, h2⟩
    · refine (wr_open0_6 h y m t).mono ?_
      rintro q w' ⟨rfl, h1, h2⟩
      exact ⟨rfl, h1.up hM, h2⟩
  | cons bx r =>
    obtain ⟨bm, bc, bh⟩ := bx
    have hd' : r.length + 1 < 16 := by simpa using hd
    cases bm with
    | false =>
      by_cases h0 : bh = 0
      · subst h0
        rcases hk with rfl | rfl
        · exact wr_o1_5 h hM hd' y m t
        · exact wr_o1_6 h hM hd' y m t
      · rcases hk with rfl | rfl
        · exact wr_o2_5 h hM hd' y m t (by omega)
        · exact wr_o2_6 h hM hd' y m t (by omega)
    | true =>
      have ho : bh % 2 = 1 := by
        simp only [keyB, Bool.true_and, beq_eq_false_iff_ne] at hkey
        omega
      rcases hk with rfl | rfl
      · exact wr_o3_5 h hM hd' y m t ho
      · exact wr_o3_6 h hM hd' y m t ho
/-- One part. -/
theorem wr_step {M B b : Nat} {w : World} {s : List Bx} (h : WrAt M B w b s false) (hM : M + 1 ≤ 1000) (e : Ev) (g : GoodW e) (hs : ∀ f, stepC (.live s) e ≠ .bad f) :
    Calls Try.prog 14 #[.pointer (some ⟨b, 0, none⟩), evV e] w fun q w' => q = .returned (.tuple #[.string ⟨(writeW s e).toArray⟩, .int .i64 0]) ∧ WrC (M + 1) B w' b (stepC (.live s) e) ∧ Below B w w' := by
  have hmay : mayE e := by
    by_cases hm : mayE e
    · exact hm
    · exact absurd (by simp only [stepC, if_pos hm]) (hs 2)
  by_cases h7 : e.k = 7
  · cases s with
    | nil => exact absurd (by
        simp only [stepC]
        rw [if_neg (by simpa using hmay), if_pos h7]) (hs 2)
    | cons bx r =>
      have hst : stepC (.live (bx :: r)) e = if shutB bx then .bad 2 else if r = [] then .done else .live r := by
        simp only [stepC]
        rw [if_neg (by simpa using hmay), if_pos h7]
      rw [hst] at hs ⊢
      have hsh : ¬ shutB bx := fun hq => hs 2 (by rw [if_pos hq])
      rw [if_neg hsh]
      obtain ⟨k, y, m, t, c⟩ := e
      obtain rfl : k = 7 := h7
      refine (wr_end h y m t c (fun hq => hsh (.inr hq))).mono ?_
      rintro q w' ⟨rfl, h1, h2⟩
      refine ⟨rfl, ?_, h2⟩
      by_cases hr : r = []
      · subst hr
        exact h1.up hM
      · rw [if_neg hr]
        rw [decide_eq_false hr] at h1
        exact h1.up hM
  · have hw : writeW s e = sepW s ++ outW e := by simp only [writeW, if_neg h7]
    rw [hw]
    have hkey : ¬ (keyB s = true ∧ e.k ≠ 3) := fun hq => hs 8 (by
      simp only [stepC]
      rw [if_neg (by simpa using hmay), if_neg h7, if_pos hq])
    by_cases h56 : e.k = 5 ∨ e.k = 6
    · have hd : s.length < 16 := by
        by_cases hd : 16 ≤ s.length
        · exact absurd (by
            simp only [stepC]
            rw [if_neg (by simpa using hmay), if_neg h7, if_neg hkey, if_pos h56, if_pos hd]) (hs 4)
        · omega
      have hst : stepC (.live s) e = .live (⟨decide (e.k = 6), e.c, 0⟩ :: incB s) := by
        simp only [stepC]
        rw [if_neg (by simpa using hmay), if_neg h7, if_neg hkey, if_pos h56, if_neg (by omega)]
      rw [hst]
      have hc := g.open_ h56
      obtain ⟨k, y, m, t, c⟩ := e
      obtain rfl : c = -1 := hc
      refine wr_begin h hM k h56 y m t ?_ hd
      cases hq : keyB s with
      | false => rfl
      | true => exact absurd ⟨hq, by show k ≠ 3; rcases h56 with h | h <;> (simp only at h; omega)⟩ hkey
    · have hst : stepC (.live s) e = (if s = [] then .done else .live (incB s)) := by
        simp only [stepC]
        rw [if_neg (by simpa using hmay), if_neg h7, if_neg hkey, if_neg h56]
      rw [hst]
      have hk := g.kind
      refine wr_value h hM e (by omega) g.mag ?_ hkey
      by_cases h3 : e.k = 3
      · have := (g.text h3).2
        have h9 : e.t.data.toList.length = e.t.size := Array.length_toList
        omega
      · have ht := g.tidy
        have : e.t = ⟨#[]⟩ := by
          rw [← ht]
          unfold tidyE
          by_cases h1 : e.k = 1
          · rw [if_pos h1]
          · by_cases h2 : e.k = 2
            · rw [if_neg h1, if_pos h2]
            · rw [if_neg h1, if_neg h2, if_neg (by omega), if_neg h56]
        rw [this]
        decide
end Go.Proofs.Ytacngbngljfedaa
