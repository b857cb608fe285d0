/-
  CONTRACTS of the document's own Writer for JSON: any part.
-/
import Derived.Test.YtkolebnjhndmkaaDoorRefWu
import Derived.Test.YtkolebnjhndmkaaDoorRefWv
import Derived.Test.YtkolebnjhndmkaaDoorRefWw
import Derived.Test.YtkolebnjhndmkaaDoorRefWx
import Derived.Test.YtkolebnjhndmkaaDoorRefWz
import Derived.Test.YtkolebnjhndmkaaDoorRefWm
import Derived.Test.YtkolebnjhndmkaaDoorGe
import Derived.Test.YtkolebnjhndmkaaDoorGb
/-
  CONTRACT of the document's own Writer, for JSON: one part, whatever it is.
-/
namespace Go.Proofs.YtkolebnjhndmkaaDoor
open Go.RowKit
open Go.Lib
theorem WrAt.up {M B b : Nat} {w : World} {s : List Bx} {dn : Bool} (h : WrAt M B w b s dn) (hM : M + 1 ≤ 1000) : WrAt (M + 1) B w b s dn := by
  obtain ⟨a, cp, h1, h2⟩ := h.cells
  exact ⟨⟨a, cp, h1, h2.up hM⟩, h.blk, h.low⟩
/-- A Writer, by what Check's state is. -/
def WrC (M B : Nat) (w : World) (b : Nat) : Ck → Prop
  | .live s => WrAt M B w b s false
  | .done => WrAt M B w b [] true
  | .bad _ => False
theorem str_join (l k : List UInt8) : (⟨l.toArray⟩ : ByteArray) ++ ⟨k.toArray⟩ = ⟨(l ++ k).toArray⟩ := by
  apply ByteArray.ext
  simp
theorem outW_length (e : Ev) (hk : e.k = 0 ∨ e.k = 1 ∨ e.k = 2 ∨ e.k = 3) (hm : e.m < 18446744073709551616) (ht : e.t.size ≤ 1000) : (outW e).length ≤ 100000 := by
  unfold outW
  by_cases h0 : e.k = 0
  · rw [if_pos h0]
    simp
  · by_cases h1 : e.k = 1
    · rw [if_neg h0, if_pos h1]
      split <;> simp
    · by_cases h2 : e.k = 2
      · rw [if_neg h0, if_neg h1, if_pos h2]
        have := print_len (e.y, e.m) hm
        omega
      · rw [if_neg h0, if_neg h1, if_neg h2, if_pos (by omega)]
        have := escW_len e.t.data.toList
        have h3 : e.t.data.toList.length = e.t.size := Array.length_toList
        simp only [List.length_append, List.length_cons, List.length_nil]
        omega
/-- A value. -/
theorem wr_value {M B b : Nat} {w : World} {s : List Bx} (h : WrAt M B w b s false) (hM : M + 1 ≤ 1000) (e : Ev) (hk : e.k = 0 ∨ e.k = 1 ∨ e.k = 2 ∨ e.k = 3) (hm : e.m < 18446744073709551616) (ht : e.t.size ≤ 1000) (hkey : ¬ (keyB s = true ∧ e.k ≠ 3)) :
    Calls Tryd.prog 12 #[.pointer (some ⟨b, 0, none⟩), evV e] w fun q w' => q = .returned (.tuple #[.string ⟨(sepW s ++ outW e).toArray⟩, .int .i64 0]) ∧ WrC (M + 1) B w' b (if s = [] then .done else .live (incB s)) ∧ Bew B b w w' := by
  have hP := rplain_any e hk hm ht
  have hX : (⟨(outW e).toArray⟩ : ByteArray).size ≤ 100000 := by
    show (outW e).toArray.size ≤ 100000
    rw [List.size_toArray]
    exact outW_length e hk hm ht
  have hk5 : e.k = 0 ∨ e.k = 1 ∨ e.k = 2 ∨ e.k = 3 ∨ e.k = 4 := by omega
  rw [← str_join]
  generalize (⟨(outW e).toArray⟩ : ByteArray) = X at hP hX
  cases s with
  | nil =>
    refine (wr_val0 h e hk5 X hX hP).mono ?_
    rintro q w' ⟨rfl, h1, h2⟩
    refine ⟨?_, h1.up hM, h2⟩
    have : (⟨(sepW []).toArray⟩ : ByteArray) ++ X = X := by apply ByteArray.ext; simp [sepW]
    rw [this]
  | cons bx r =>
    rw [if_neg (by simp)]
    obtain ⟨bm, bc, bh⟩ := bx
    cases bm with
    | false =>
      by_cases h0 : bh = 0
      · subst h0
        exact wr_v1 h hM e hk5 hkey X hX hP
      · exact wr_v2 h hM e hk5 hkey X hX (by omega) hP
    | true =>
      by_cases ho : bh % 2 = 1
      · exact wr_v3 h hM e hk5 hkey X hX ho hP
      · have hk3 : e.k = 3 := by
          by_cases h3 : e.k = 3
          · exact h3
          · exact absurd ⟨by simp only [keyB, Bool.true_and, beq_iff_eq]; omega, h3⟩ hkey
        by_cases h0 : bh = 0
        · subst h0
          exact wr_v4 h hM e hk5 hkey X hX hk3 hP
        · exact wr_v5 h hM e hk5 hkey X hX (by omega) (by omega) hk3 hP
/-- A list or a map begins. -/
theorem wr_begin {M B b : Nat} {w : World} {s : List Bx} (h : WrAt M B w b s false) (hM : M + 1 ≤ 1000) (k : Int) (hk : k = 5 ∨ k = 6) (y : Bool) (m : Nat) (t : ByteArray) (c : Int) (hc : -1 ≤ c ∧ c ≤ 9223372036854775807) (hkey : keyB s = false) (hd : s.length < 800) :
    Calls Tryd.prog 12 #[.pointer (some ⟨b, 0, none⟩), evV ⟨k, y, m, t, c⟩] w fun q w' => q = .returned (.tuple #[.string ⟨(sepW s ++ outW ⟨k, y, m, t, c⟩).toArray⟩, .int .i64 0]) ∧ WrC (M + 1) B w' b (.live (⟨decide (k = 6), c, 0⟩ :: incB s)) ∧ Bew B b w w' := by
  rw [← str_join]
  have hnil : ∀ l : List UInt8, (⟨(sepW []).toArray⟩ : ByteArray) ++ ⟨l.toArray⟩ = ⟨l.toArray⟩ := fun l => by apply ByteArray.ext; simp [sepW]
  cases s with
  | nil =>
    rw [hnil]
    rcases hk with rfl | rfl
    · refine (wr_open0_5 h y m t c hc).mono ?_
      rintro q w' ⟨rfl, h1, h2⟩
      exact ⟨rfl, h1.up hM, h2⟩
    · refine (wr_open0_6 h y m t c hc).mono ?_
      rintro q w' ⟨rfl, h1, h2⟩
      exact ⟨rfl, h1.up hM, h2⟩
  | cons bx r =>
    obtain ⟨bm, bc, bh⟩ := bx
    have hd' : r.length + 1 < 800 := by simpa using hd
    cases bm with
    | false =>
      by_cases h0 : bh = 0
      · subst h0
        rcases hk with rfl | rfl
        · exact wr_o1_5 h hM hd' y m t c hc
        · exact wr_o1_6 h hM hd' y m t c hc
      · rcases hk with rfl | rfl
        · exact wr_o2_5 h hM hd' y m t c hc (by omega)
        · exact wr_o2_6 h hM hd' y m t c hc (by omega)
    | true =>
      have ho : bh % 2 = 1 := by
        simp only [keyB, Bool.true_and, beq_eq_false_iff_ne] at hkey
        omega
      rcases hk with rfl | rfl
      · exact wr_o3_5 h hM hd' y m t c hc ho
      · exact wr_o3_6 h hM hd' y m t c hc ho
/-- One part. -/
theorem wr_step {M B b : Nat} {w : World} {s : List Bx} (h : WrAt M B w b s false) (hM : M + 1 ≤ 1000) (e : Ev) (g : GoodW e) (hs : ∀ f, stepC (.live s) e ≠ .bad f) :
    Calls Tryd.prog 12 #[.pointer (some ⟨b, 0, none⟩), evV e] w fun q w' => q = .returned (.tuple #[.string ⟨(writeW s e).toArray⟩, .int .i64 0]) ∧ WrC (M + 1) B w' b (stepC (.live s) e) ∧ Bew B b w w' := by
  have hmay : mayE e := by
    by_cases hm : mayE e
    · exact hm
    · exact absurd (by simp only [stepC, if_pos hm]) (hs 2)
  by_cases h7 : e.k = 7
  · cases s with
    | nil => exact absurd (by
        simp only [stepC]
        rw [if_neg (by simpa using hmay), if_pos h7]) (hs 2)
    | cons bx r =>
      have hst : stepC (.live (bx :: r)) e = if shutB bx then .bad 2 else if r = [] then .done else .live r := by
        simp only [stepC]
        rw [if_neg (by simpa using hmay), if_pos h7]
      rw [hst] at hs ⊢
      have hsh : ¬ shutB bx := fun hq => hs 2 (by rw [if_pos hq])
      rw [if_neg hsh]
      obtain ⟨k, y, m, t, c⟩ := e
      obtain rfl : k = 7 := h7
      refine (wr_end h y m t c (fun hq => hsh (.inr hq))).mono ?_
      rintro q w' ⟨rfl, h1, h2⟩
      refine ⟨rfl, ?_, h2⟩
      by_cases hr : r = []
      · subst hr
        exact h1.up hM
      · rw [if_neg hr]
        rw [decide_eq_false hr] at h1
        exact h1.up hM
  · have hw : writeW s e = sepW s ++ outW e := by simp only [writeW, if_neg h7]
    rw [hw]
    have hkey : ¬ (keyB s = true ∧ e.k ≠ 3) := fun hq => hs 8 (by
      simp only [stepC]
      rw [if_neg (by simpa using hmay), if_neg h7, if_pos hq])
    by_cases h56 : e.k = 5 ∨ e.k = 6
    · have hd : s.length < 16 := by
        by_cases hd : 16 ≤ s.length
        · exact absurd (by
            simp only [stepC]
            rw [if_neg (by simpa using hmay), if_neg h7, if_neg hkey, if_pos h56, if_pos hd]) (hs 4)
        · omega
      have hst : stepC (.live s) e = .live (⟨decide (e.k = 6), e.c, 0⟩ :: incB s) := by
        simp only [stepC]
        rw [if_neg (by simpa using hmay), if_neg h7, if_neg hkey, if_pos h56, if_neg (by omega)]
      rw [hst]
      have hc := g.open_ h56
      obtain ⟨k, y, m, t, c⟩ := e
      obtain rfl : c = -1 := hc
      refine wr_begin h hM k h56 y m t (-1) ⟨by omega, by omega⟩ ?_ (by omega)
      cases hq : keyB s with
      | false => rfl
      | true => exact absurd ⟨hq, by show k ≠ 3; rcases h56 with h | h <;> (simp only at h; omega)⟩ hkey
    · have hst : stepC (.live s) e = (if s = [] then .done else .live (incB s)) := by
        simp only [stepC]
        rw [if_neg (by simpa using hmay), if_neg h7, if_neg hkey, if_neg h56]
      rw [hst]
      have hk := g.kind
      refine wr_value h hM e (by omega) g.mag ?_ hkey
      by_cases h3 : e.k = 3
      · have := (g.text h3).2
        have h9 : e.t.data.toList.length = e.t.size := Array.length_toList
        omega
      · have ht := g.tidy
        have : e.t = ⟨#[]⟩ := by
          rw [← ht]
          unfold tidyE
          by_cases h1 : e.k = 1
          · rw [if_pos h1]
          · by_cases h2 : e.k = 2
            · rw [if_neg h1, if_pos h2]
            · rw [if_neg h1, if_neg h2, if_neg (by omega), if_neg h56]
        rw [this]
        decide
end Go.Proofs.YtkolebnjhndmkaaDoor
/-
  CONTRACT of the document's own Writer, for JSON: any part, whether it may be or not, as the machine of JoutPure (of bytes by what its plain tells of them).
-/
namespace Go.Proofs.YtkolebnjhndmkaaDoor
open Go.RowKit
open Go.Lib
theorem outB_length (e : Ev) (hk : e.k = 0 ∨ e.k = 1 ∨ e.k = 2 ∨ e.k = 3 ∨ e.k = 4) (hm : e.m < 18446744073709551616) (ht : e.t.size ≤ 1000) : (outB e).length ≤ 100000 := by
  unfold outB
  by_cases h4 : e.k = 4
  · rw [if_pos h4]
    have h1 : e.t.data.toList.length = e.t.size := Array.length_toList
    have h2 := putS_length e.t.data.toList
    simp only [List.length_append, List.length_cons, List.length_nil]
    omega
  · rw [if_neg h4]
    exact outW_length e (by omega) hm ht
theorem nil_str (X : ByteArray) : (⟨#[]⟩ : ByteArray) ++ X = X := by apply ByteArray.ext; simp
/-- What the document's own plain tells of bytes. -/
def PlainB : Prop := ∀ (y : Bool) (m : Nat) (t : ByteArray) (c : Int) (W : World), t.size ≤ 1000 →
  Calls Tryd.prog 27 #[.int .i64 1, evV ⟨4, y, m, t, c⟩] W fun r w' => r = .returned (.tuple #[.string ⟨(outB ⟨4, y, m, t, c⟩).toArray⟩, .int .i64 0]) ∧ Below W.heap.size W w'
theorem rplain_all (hB : PlainB) (e : Ev) (hk : e.k = 0 ∨ e.k = 1 ∨ e.k = 2 ∨ e.k = 3 ∨ e.k = 4) (hm : e.m < 18446744073709551616) (ht : e.t.size ≤ 1000) (W : World) :
    Calls Tryd.prog 27 #[.int .i64 1, evV e] W fun r w' => r = .returned (.tuple #[.string ⟨(outB e).toArray⟩, .int .i64 0]) ∧ Below W.heap.size W w' := by
  by_cases h4 : e.k = 4
  · obtain ⟨k, y, m, t, c⟩ := e
    obtain rfl : k = 4 := h4
    exact hB y m t c W ht
  · have ho : outB e = outW e := if_neg h4
    rw [ho]
    exact rplain_any e (by omega) hm ht W
/-- A value that is no container. -/
theorem wr_plain {M B b : Nat} {w : World} {s : List Bx} (hB : PlainB) (h : WrAt M B w b s false) (hM : M + 1 ≤ 1000) (e : Ev) (hk : e.k = 0 ∨ e.k = 1 ∨ e.k = 2 ∨ e.k = 3 ∨ e.k = 4) (hm : e.m < 18446744073709551616) (ht : e.t.size ≤ 1000) (hkey : ¬ (keyB s = true ∧ e.k ≠ 3)) :
    Calls Tryd.prog 12 #[.pointer (some ⟨b, 0, none⟩), evV e] w fun q w' => q = .returned (.tuple #[.string ⟨(sepW s ++ outB e).toArray⟩, .int .i64 0]) ∧ WrAt (M + 1) B w' b (incB s) s.isEmpty ∧ Bew B b w w' := by
  have hP := rplain_all hB e hk hm ht
  have hX : (⟨(outB e).toArray⟩ : ByteArray).size ≤ 100000 := by
    show (outB e).toArray.size ≤ 100000
    rw [List.size_toArray]
    exact outB_length e hk hm ht
  rw [← str_join]
  generalize (⟨(outB e).toArray⟩ : ByteArray) = X at hP hX
  cases s with
  | nil =>
    refine (wr_val0 h e hk X hX hP).mono ?_
    rintro q w' ⟨rfl, h1, h2⟩
    refine ⟨?_, h1.up hM, h2⟩
    have : (⟨(sepW []).toArray⟩ : ByteArray) ++ X = X := by apply ByteArray.ext; simp [sepW]
    rw [this]
  | cons bx r =>
    obtain ⟨bm, bc, bh⟩ := bx
    cases bm with
    | false =>
      by_cases h0 : bh = 0
      · subst h0
        exact wr_v1 h hM e hk hkey X hX hP
      · exact wr_v2 h hM e hk hkey X hX (by omega) hP
    | true =>
      by_cases ho : bh % 2 = 1
      · exact wr_v3 h hM e hk hkey X hX ho hP
      · have h3 : e.k = 3 := by
          by_cases h3 : e.k = 3
          · exact h3
          · exact absurd ⟨by simp only [keyB, Bool.true_and, beq_iff_eq]; omega, h3⟩ hkey
        by_cases h0 : bh = 0
        · subst h0
          exact wr_v4 h hM e hk hkey X hX h3 hP
        · exact wr_v5 h hM e hk hkey X hX (by omega) (by omega) h3 hP
/-- ANY PART. -/
theorem wr_any {M B b : Nat} {w : World} {s : List Bx} {dn : Bool} (hB : PlainB) (h : WrAt M B w b s dn) (hM : M + 1 ≤ 1000) (hd : s.length < 800) (e : Ev) (hok : EvOk e) (ht : e.t.size ≤ 1000) :
    Calls Tryd.prog 12 #[.pointer (some ⟨b, 0, none⟩), evV e] w fun q w' => q = .returned (.tuple #[.string ⟨(stepO ⟨s, dn⟩ e).1.1.toArray⟩, .int .i64 (stepO ⟨s, dn⟩ e).1.2]) ∧ WrAt (M + 1) B w' b (stepO ⟨s, dn⟩ e).2.s (stepO ⟨s, dn⟩ e).2.dn ∧ Bew B b w w' := by
  by_cases hm : mayE e
  · cases dn with
    | true =>
      rw [stepO_bad ⟨s, true⟩ e (.inr rfl)]
      refine (wr_over h e hm).mono ?_
      rintro q w' ⟨rfl, h1, h2⟩
      exact ⟨rfl, h1.up hM, h2⟩
    | false =>
      by_cases h7 : e.k = 7
      · cases s with
        | nil =>
          rw [stepO_none hm h7]
          obtain ⟨k, y, m, t, c⟩ := e
          obtain rfl : k = 7 := h7
          refine (wr_end0 h y m t c).mono ?_
          rintro q w' ⟨rfl, h1, h2⟩
          exact ⟨rfl, h1.up hM, h2⟩
        | cons bx r =>
          by_cases ho : bx.map = true ∧ bx.have_ % 2 = 1
          · rw [stepO_odd hm h7 ho]
            obtain ⟨k, y, m, t, c⟩ := e
            obtain rfl : k = 7 := h7
            obtain ⟨bm, bc, bh⟩ := bx
            obtain ⟨rfl, ho2⟩ := ho
            refine (wr_odd h y m t c ho2).mono ?_
            rintro q w' ⟨rfl, h1, h2⟩
            exact ⟨rfl, h1.up hM, h2⟩
          · rw [stepO_end hm h7 ho]
            obtain ⟨k, y, m, t, c⟩ := e
            obtain rfl : k = 7 := h7
            refine (wr_end h y m t c ho).mono ?_
            rintro q w' ⟨rfl, h1, h2⟩
            have hw : writeW (bx :: r) ⟨7, y, m, t, c⟩ = [if bx.map = true then 125 else 93] := by
              unfold writeW
              rw [if_pos rfl]
              simp only
              split <;> rfl
            refine ⟨by rw [hw]; rfl, ?_, h2⟩
            have hr : decide (r = []) = r.isEmpty := by cases r <;> rfl
            rw [hr] at h1
            exact h1.up hM
      · by_cases hk : keyB s = true ∧ e.k ≠ 3
        · rw [stepO_key hm h7 hk.1 hk.2]
          obtain ⟨hk1, h3⟩ := hk
          match s, h, hk1 with
          | ⟨false, _, _⟩ :: _, _, hk1 => simp [keyB] at hk1
          | ⟨true, bc, bh⟩ :: r, h, hk1 =>
            refine (wr_nokey h e hm h7 h3 (by simpa [keyB] using hk1)).mono ?_
            rintro q w' ⟨rfl, h1, h2⟩
            exact ⟨rfl, h1.up hM, h2⟩
        · by_cases h56 : e.k = 5 ∨ e.k = 6
          · have hkf : keyB s = false := by
              cases hq : keyB s with
              | false => rfl
              | true => exact absurd ⟨hq, by omega⟩ hk
            rw [stepO_open hm h56 hkf]
            obtain ⟨k, y, m, t, c⟩ := e
            have hcc : -1 ≤ c := hm.2.2 h56
            refine (wr_begin h hM k h56 y m t c ⟨hcc, hok.2.2.1.2⟩ hkf hd).mono ?_
            rintro q w' ⟨rfl, h1, h2⟩
            have ho : outW ⟨k, y, m, t, c⟩ = [if k = 6 then 123 else 91] := by
              unfold outW
              simp only at h56 ⊢
              rw [if_neg (by omega), if_neg (by omega), if_neg (by omega), if_neg (by omega)]
              rcases h56 with rfl | rfl <;> rfl
            refine ⟨?_, h1, h2⟩
            rw [ho]
            rcases h56 with h56 | h56
            · obtain rfl : k = 5 := h56
              rfl
            · obtain rfl : k = 6 := h56
              rfl
          · rw [stepO_val hm h7 h56 hk]
            have h8 := hm.1
            have h9 := hm.2.1
            exact wr_plain hB h hM e (by omega) hok.2.1 ht hk
  · rw [stepO_bad ⟨s, dn⟩ e (.inl hm)]
    refine (wr_none h e hm).mono ?_
    rintro q w' ⟨rfl, h1, h2⟩
    exact ⟨rfl, h1.up hM, h2⟩
end Go.Proofs.YtkolebnjhndmkaaDoor
/-
  CONTRACT of the document's own plain, for JSON: bytes as signs; of the document's own Tidy.
-/
namespace Go.Proofs.YtkolebnjhndmkaaDoor
open Go.RowKit
open Go.Lib
set_option maxRecDepth 100000 in
set_option maxHeartbeats 2000000 in
theorem plain_b : PlainB := by
  intro y m t c w ht
  simp only [evV]
  have HB := Lib.hid (fun x => (Below.refl w.heap.size w).alloc (Nat.le_refl _) x)
  have ho : outB ⟨4, y, m, t, c⟩ = 34 :: putS t.data.toList ++ [34] := by simp [outB]
  rw [ho]
  have hWr := fun W0 => rbase_any t W0 (by omega)
  obtain ⟨X, hX⟩ : ∃ X : ByteArray, (⟨(putS t.data.toList).toArray⟩ : ByteArray) = X := ⟨_, rfl⟩
  have hXs : X.size ≤ 6000 := by
    rw [← hX, size_of]
    have h1 := putS_length t.data.toList
    rw [size_list] at h1
    omega
  obtain ⟨U, hU⟩ : ∃ U, (⟨#[34]⟩ : ByteArray) ++ X = U := ⟨_, rfl⟩
  obtain ⟨Y, hY⟩ : ∃ Y, U ++ (⟨#[34]⟩ : ByteArray) = Y := ⟨_, rfl⟩
  have hUs : U.size ≤ 6001 := by rw [← hU, ByteArray.size_append]; show 1 + X.size ≤ 6001; omega
  have hYe : (⟨(34 :: putS t.data.toList ++ [34]).toArray⟩ : ByteArray) = Y := by
    rw [← hY, ← hU, ← hX]
    have e1 := cat_of [34] (putS t.data.toList)
    have e2 := cat_of ([34] ++ putS t.data.toList) [34]
    exact (by rw [show (⟨#[34]⟩ : ByteArray) = ⟨[(34 : UInt8)].toArray⟩ from rfl, e1, e2]; rfl)
  rw [hYe]
  rw [hX] at hWr
  have HWr := Lib.hid hWr
  have z1 : ¬ 9223372036854775807 < 1 + X.size := by omega
  have z2 : ¬ 9223372036854775807 < U.size + 1 := by omega
  clear ho hWr hX hYe
  go_enter Tryd.func27, Tryd.ntmps27
  go_wp2_with fail
  refine (HWr.out _).mono ?_
  rintro r w1 ⟨rfl, rfl⟩
  go_wp2
  go_ret2
  exact ⟨rfl, HB.out _⟩
/-- ANY PART, at whatever world: only the Writer's block has turned. -/
theorem wr_part {M b : Nat} {w : World} {s : List Bx} {dn : Bool} (h : WrAt M 0 w b s dn) (hM : M + 1 ≤ 1000) (hd : s.length < 800) (e : Ev) (hok : EvOk e) (ht : e.t.size ≤ 1000) :
    Calls Tryd.prog 12 #[.pointer (some ⟨b, 0, none⟩), evV e] w fun q w' => q = .returned (.tuple #[.string ⟨(stepO ⟨s, dn⟩ e).1.1.toArray⟩, .int .i64 (stepO ⟨s, dn⟩ e).1.2]) ∧ WrAt (M + 1) 0 w' b (stepO ⟨s, dn⟩ e).2.s (stepO ⟨s, dn⟩ e).2.dn ∧ Bew w.heap.size b w w' := by
  refine (wr_any plain_b (h.at_ (Nat.le_refl _)) hM hd e hok ht).mono ?_
  rintro q w' ⟨h1, h2, h3⟩
  exact ⟨h1, h2.at_ (Nat.zero_le _), h3⟩
theorem rtidy_k (e : Ev) : (tidyE e).k = e.k := by
  unfold tidyE
  by_cases h1 : e.k = 1
  · rw [if_pos h1]; exact h1.symm
  · by_cases h2 : e.k = 2
    · rw [if_neg h1, if_pos h2]; exact h2.symm
    · rw [if_neg h1, if_neg h2]
      split
      · rfl
      · split <;> rfl
theorem tidy_c {e : Ev} (h : e.k = 5 ∨ e.k = 6) : (tidyE e).c = e.c := by
  unfold tidyE
  rw [if_neg (by omega), if_neg (by omega), if_neg (by omega), if_pos h]
theorem tidy_may (e : Ev) : mayE (tidyE e) ↔ mayE e := by
  unfold mayE
  rw [rtidy_k]
  constructor
  · rintro ⟨a, b, c⟩
    exact ⟨a, b, fun h => by have := c h; rwa [tidy_c h] at this⟩
  · rintro ⟨a, b, c⟩
    exact ⟨a, b, fun h => by rw [tidy_c h]; exact c h⟩
theorem tidy_out (e : Ev) : outB (tidyE e) = outB e := by
  unfold outB outW
  rw [rtidy_k]
  unfold tidyE
  by_cases h4 : e.k = 4
  · rw [if_pos h4, if_pos h4, if_neg (by omega), if_neg (by omega), if_pos (.inr h4)]
  · rw [if_neg h4, if_neg h4]
    by_cases h0 : e.k = 0
    · rw [if_pos h0, if_pos h0]
    · rw [if_neg h0, if_neg h0]
      by_cases h1 : e.k = 1
      · rw [if_pos h1, if_pos h1, if_pos h1]
      · rw [if_neg h1, if_neg h1, if_neg h1]
        by_cases h2 : e.k = 2
        · rw [if_pos h2, if_pos h2, if_pos h2]
        · rw [if_neg h2, if_neg h2, if_neg h2]
          by_cases h3 : e.k = 3
          · rw [if_pos h3, if_pos h3, if_pos (.inl h3)]
          · rw [if_neg h3, if_neg h3]
theorem stepO_tidy (q : Os) (e : Ev) : stepO q (tidyE e) = stepO q e := by
  unfold stepO
  rw [rtidy_k, tidy_out]
  simp only [tidy_may]
  by_cases h : e.k = 5 ∨ e.k = 6
  · rw [tidy_c h]
  · simp only [if_neg h]
theorem tidy_ok {e : Ev} (h : EvOk e) (ht : e.t.size ≤ 1000) : EvOk (tidyE e) ∧ (tidyE e).t.size ≤ 1000 := by
  obtain ⟨h1, h2, h3, h4⟩ := h
  unfold tidyE
  by_cases c1 : e.k = 1
  · rw [if_pos c1]
    exact ⟨⟨by constructor <;> simp, by simp, by constructor <;> simp, Nat.zero_le _⟩, Nat.zero_le _⟩
  rw [if_neg c1]
  by_cases c2 : e.k = 2
  · rw [if_pos c2]
    exact ⟨⟨by constructor <;> simp, h2, by constructor <;> simp, Nat.zero_le _⟩, Nat.zero_le _⟩
  rw [if_neg c2]
  by_cases c3 : e.k = 3 ∨ e.k = 4
  · rw [if_pos c3]
    exact ⟨⟨h1, by simp, by constructor <;> simp, h4⟩, ht⟩
  rw [if_neg c3]
  by_cases c5 : e.k = 5 ∨ e.k = 6
  · rw [if_pos c5]
    exact ⟨⟨h1, by simp, h3, Nat.zero_le _⟩, Nat.zero_le _⟩
  · rw [if_neg c5]
    exact ⟨⟨h1, by simp, by constructor <;> simp, Nat.zero_le _⟩, Nat.zero_le _⟩
theorem step_err_nil {q : Os} {e : Ev} (h : (stepO q e).1.2 ≠ 0) : stepO q e = (([], (stepO q e).1.2), q) := by
  revert h
  unfold stepO
  split
  · intro _; rfl
  · split
    · split
      · rename_i hs
        intro _
        rfl
      · split
        · intro _; rfl
        · intro h; exact absurd rfl h
    · split
      · intro _; rfl
      · split
        · intro h; exact absurd rfl h
        · intro h; exact absurd rfl h
theorem step_err_kind {q : Os} {e : Ev} (h : (stepO q e).1.2 ≠ 0) : (stepO q e).1.2 = 14 ∨ (stepO q e).1.2 = 8 := by
  revert h
  unfold stepO
  split
  · intro _; exact .inl rfl
  · split
    · split
      · intro _; exact .inl rfl
      · split
        · intro _; exact .inl rfl
        · intro h; exact absurd rfl h
    · split
      · intro _; exact .inr rfl
      · split
        · intro h; exact absurd rfl h
        · intro h; exact absurd rfl h
set_option maxRecDepth 100000 in
set_option maxHeartbeats 1000000 in
/-- TIDY, of whatever part. -/
theorem tidy_ref (e : Ev) (w : World) : Calls Tryd.prog 13 #[evV e] w fun r w' => r = .returned (evV (tidyE e)) ∧ Below w.heap.size w w' := by
  obtain ⟨k, y, m, t, c⟩ := e
  by_cases hk : k = 0 ∨ k = 1 ∨ k = 2 ∨ k = 3 ∨ k = 4 ∨ k = 5 ∨ k = 6 ∨ k = 7
  · rcases hk with rfl | rfl | rfl | rfl | rfl | rfl | rfl | rfl
    all_goals simp only [evV]
    all_goals
      go_enter Tryd.func13, Tryd.ntmps13
      go_wp2
    all_goals simp [bodyPost, results, Tryd.results13, go_sem, tidyE]
    all_goals repeat (first | exact Below.refl _ _ | refine up_alloc ?_ _)
  · have n1 : (k == 1) = false := by rw [beq_eq_false_iff_ne]; omega
    have n2 : (k == 2) = false := by rw [beq_eq_false_iff_ne]; omega
    have n3 : (k == 3) = false := by rw [beq_eq_false_iff_ne]; omega
    have n4 : (k == 4) = false := by rw [beq_eq_false_iff_ne]; omega
    have n5 : (k == 5) = false := by rw [beq_eq_false_iff_ne]; omega
    have n6 : (k == 6) = false := by rw [beq_eq_false_iff_ne]; omega
    have ht : tidyE ⟨k, y, m, t, c⟩ = ⟨k, false, 0, ⟨#[]⟩, 0⟩ := by
      unfold tidyE
      simp only
      rw [if_neg (by omega), if_neg (by omega), if_neg (by omega), if_neg (by omega)]
    rw [ht]
    simp only [evV]
    clear hk ht
    go_enter Tryd.func13, Tryd.ntmps13
    go_wp2
    all_goals simp [bodyPost, results, Tryd.results13, go_sem]
    all_goals repeat (first | exact Below.refl _ _ | refine up_alloc ?_ _)
end Go.Proofs.YtkolebnjhndmkaaDoor
