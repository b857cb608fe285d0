/-
  CONTRACT of the document's own Writer, for CBOR: a part of a document. CONTRACTS of cborout.Writer, part F: end, write, Step. CONTRACTS of cborout.Writer, part G: a value; Step; a Writer that a law made. CONTRACT of cborout.All: as the machine of CoutPure over all parts. LAWS of chapter 14: the first call (alive); CboroutWholes, CboroutTexts. LAWS of chapter 14: CboroutTexts. CONTRACT of the document's own Writer, for CBOR: any part, whether it may be or not, as the machine of CoutPure. CONTRACTS of the book's documents out of numbers: every item, to the depth asked. CONTRACT of the book's documents out of numbers: truchmanbook.Doc. The book's documents: how many blocks one may take; what came in as ints. Documents written part by part as CBOR: the machine of CoutPure over documents that Check lets by; the document's own Writer as that machine. LAWS of chapter 14: CboroutShort. LAWS of chapter 14: CboroutEnds. TwoQ Writers beside each other; the document's own Writer beside them. A Writer and the document's own beside each other, part by part; the document's own over all parts. LAWS of chapter 14: CboroutCounts.
-/
import Derived.Test.YtockeedbceopiaaHRefKu
import Derived.Test.YtockeedbceopiaaHRefKv
import Derived.Test.YtockeedbceopiaaHRefKw
import Derived.Test.YtockeedbceopiaaHRefKx
import Derived.Test.YtockeedbceopiaaHRefKz
import Derived.Test.YtockeedbceopiaaHRefKzc
import Derived.Test.YtockeedbceopiaaHRefKm
import Derived.Test.YtockeedbceopiaaHRefKmc
import Derived.Test.YtockeedbceopiaaHRefKout
import Derived.Test.YtockeedbceopiaaG1a
import Derived.Test.YtockeedbceopiaaG0c
import Derived.Test.YtockeedbceopiaaHHeadRh
import Derived.Lib.SmallJoins
import Derived.Test.YtockeedbceopiaaHRefKe
import Derived.Test.YtockeedbceopiaaHRefKug
import Derived.Test.YtockeedbceopiaaHRefKzg
import Derived.Test.YtockeedbceopiaaHRefKzcg
import Derived.Test.YtockeedbceopiaaHDocG
import Derived.Laws.EntriesVeiled
import Derived.Test.YtockeedbceopiaaG0b
/-
  CONTRACT of the document's own Writer, for CBOR: a part of a document.
-/
namespace Go.Proofs.Ytockeedbceopiaa
open Go.RowKit
open Go.Lib
theorem WkAt.up {M M' B : Nat} {w : World} {b : Nat} {s : List Bx} {dn : Bool} (h : WkAt M B w b s dn) (h1 : M ≤ M') (h2 : M' ≤ 1000) : WkAt M' B w b s dn := by
  obtain ⟨a, cp, h3, h4⟩ := h.cells
  exact ⟨⟨a, cp, h3, ⟨h4.win, h4.vB, fun x hx => ⟨(h4.ok x hx).1, Nat.le_trans (h4.ok x hx).2 h1⟩, h4.deep, h2⟩⟩, h.blk, h.low⟩
/-- Of a document that goes on to its end: there is room for one part more. -/
theorem room_of {b : Bx} {r : List Bx} {e : Ev} {l : List Ev} (h : runC (.live (b :: r)) (e :: l) = .done) (h7 : e.k ≠ 7) (hc : 0 ≤ b.c) : (b.have_ : Int) < if b.map = true then 2 * b.c else b.c := by
  by_cases h1 : (b.have_ : Int) < if b.map = true then 2 * b.c else b.c
  · exact h1
  · by_cases h2 : (b.have_ : Int) = if b.map = true then 2 * b.c else b.c
    · have hf : fullB b = true := by
        unfold fullB
        rw [decide_eq_true_eq]
        exact ⟨hc, h2⟩
      exact absurd (full_end hf h) h7
    · exact absurd h (over_bad _ _ ⟨b, List.mem_cons_self, hc, by omega⟩)
theorem writeK_len {e : Ev} (hg : GoodK e) (s : List Bx) : (writeK s e).length ≤ 209 := by
  have ht := hg.text.1
  unfold writeK
  split
  · split
    · simp
    · split <;> simp
  split
  · simp
  split
  · simp
  split
  · exact Nat.le_trans (headB_len _ _) (by decide)
  split
  · rw [List.length_append]
    have := headB_len (if e.k = 3 then 3 else 2) e.t.data.toList.length
    omega
  split
  · simp
  · exact Nat.le_trans (headB_len _ _) (by decide)
theorem writeK_any {e : Ev} (h7 : e.k ≠ 7) (s : List Bx) : writeK s e = writeK [] e := by
  unfold writeK
  rw [if_neg h7, if_neg h7]
/-- A PART. -/
theorem wk_step (hH : HeadK) {M B b : Nat} {w : World} {s s' : List Bx} (h : WkAt M B w b s false) (hM : M + 1 ≤ 1000) (hd : s.length < 800) (hcs : ∀ x ∈ s, x.c ≤ 1000000) (e : Ev) (hg : GoodK e) (hst : stepC (.live s) e = ckS s')
    (hroom : e.k ≠ 7 → ∀ x r, s = x :: r → 0 ≤ x.c → (x.have_ : Int) < if x.map = true then 2 * x.c else x.c) :
    Calls Try.prog 13 #[.pointer (some ⟨b, 0, none⟩), evV e] w fun q w' => q = .returned (.tuple #[.string ⟨(writeK s e).toArray⟩, .int .i64 0]) ∧ WkAt (M + 1) B w' b s' (decide (s' = [])) ∧ Bew B b w w' := by
  have hnb : ∀ f, stepC (.live s) e ≠ .bad f := fun f hf => by
    rw [hst] at hf
    unfold ckS at hf
    split at hf <;> cases hf
  have hm : mayE e := by
    by_cases hm : mayE e
    · exact hm
    · exact absurd (by simp only [stepC]; rw [if_pos hm]) (hnb 2)
  have hinj : ∀ x y : List Bx, ckS x = ckS y → x = y := by
    intro x y hxy
    unfold ckS at hxy
    by_cases hx : x = [] <;> by_cases hy : y = []
    · rw [hx, hy]
    · rw [if_pos hx, if_neg hy] at hxy; cases hxy
    · rw [if_neg hx, if_pos hy] at hxy; cases hxy
    · rw [if_neg hx, if_neg hy] at hxy; cases hxy; rfl
  by_cases h7 : e.k = 7
  · cases s with
    | nil => exact absurd (by simp only [stepC]; rw [if_neg (by simpa using hm), if_pos h7]) (hnb 2)
    | cons bx r =>
      have hns : ¬ shutB bx := fun hsb => hnb 2 (by simp only [stepC]; rw [if_neg (by simpa using hm), if_pos h7, if_pos hsb])
      have he := good_end hg h7
      obtain rfl : r = s' := hinj _ _ (by rw [← hst, he]; exact (end_step hns).symm)
      obtain ⟨k, y, m, t, c⟩ := e
      obtain rfl : k = 7 := h7
      refine (wk_end h y m t c hns (hcs bx (by simp))).mono ?_
      rintro q w' ⟨rfl, h1, h2⟩
      exact ⟨rfl, h1.up (by omega) hM, h2⟩
  · have hkey : keyB s = true → e.k = 3 := by
      intro hk
      by_cases h3 : e.k = 3
      · exact h3
      · exact absurd (by simp only [stepC]; rw [if_neg (by simpa using hm), if_neg h7, if_pos ⟨hk, h3⟩]) (hnb 8)
    have hkey' : ¬ (keyB s = true ∧ e.k ≠ 3) := fun h => h.2 (hkey h.1)
    have hrm := hroom h7
    rw [writeK_any h7]
    have hlen := writeK_len hg []
    by_cases h56 : e.k = 5 ∨ e.k = 6
    · have hs' : s' = ⟨decide (e.k = 6), e.c, 0⟩ :: incB s := by
        refine hinj _ _ ?_
        rw [← hst]
        have h4 := hnb 4
        simp only [stepC] at h4 ⊢
        rw [if_neg (by simpa using hm), if_neg h7, if_neg hkey', if_pos h56] at h4 ⊢
        by_cases hl : 16 ≤ s.length
        · rw [if_pos hl] at h4
          exact absurd rfl h4
        · rw [if_neg hl]
          unfold ckS
          rw [if_neg (by simp)]
      subst hs'
      have hc := hg.cnt
      have hkf : keyB s = false := by
        cases hq : keyB s with
        | false => rfl
        | true => have := hkey hq; omega
      obtain ⟨k, y, m, t, c⟩ := e
      simp only at h56 hc hrm ⊢
      have hc2 : -1 ≤ c ∧ c ≤ 9223372036854775807 := by omega
      have hHd : 0 ≤ c → ∀ n : Int, ∀ W, Calls Try.prog 22 #[.int .i64 n, .int .u64 c] W fun r w' => r = .returned (.string ⟨(headB (n % 8).toNat c.toNat).toArray⟩) ∧ Below W.heap.size W w' := by
        intro h0 n W
        have := hH n c.toNat (by omega) W
        rwa [Int.toNat_of_nonneg h0] at this
      have hXs : ∀ j n : Nat, (⟨(headB j n).toArray⟩ : ByteArray).size ≤ 100000 := by
        intro j n
        rw [size_of]
        exact Nat.le_trans (headB_len _ _) (by decide)
      have hwn : ∀ k : Int, k = 5 ∨ k = 6 → c < 0 → writeK [] ⟨k, y, m, t, c⟩ = [if k = 6 then 191 else 159] := by
        intro k hk hn
        unfold writeK
        simp only
        rw [if_neg (by omega), if_neg (by omega), if_neg (by omega), if_neg (by omega), if_neg (by omega), if_pos hn]
      have hwc : ∀ k : Int, k = 5 ∨ k = 6 → ¬ c < 0 → writeK [] ⟨k, y, m, t, c⟩ = headB (if k = 6 then 5 else 4) c.toNat := by
        intro k hk hn
        unfold writeK
        simp only
        rw [if_neg (by omega), if_neg (by omega), if_neg (by omega), if_neg (by omega), if_neg (by omega), if_neg hn]
      by_cases hn : c < 0
      · rw [hwn k h56 hn]
        match s, h, hd, hcs, hkf, hrm with
        | [], h, _, _, _, _ =>
          rcases h56 with rfl | rfl
          · refine (wk_open0_5n h y m t c hc2 hn).mono ?_
            rintro q w' ⟨rfl, h1, h2⟩
            exact ⟨rfl, h1.up (by omega) hM, h2⟩
          · refine (wk_open0_6n h y m t c hc2 hn).mono ?_
            rintro q w' ⟨rfl, h1, h2⟩
            exact ⟨rfl, h1.up (by omega) hM, h2⟩
        | ⟨false, bc, bh⟩ :: r, h, hd, hcs, _, hrm =>
          have hbc := hcs _ List.mem_cons_self
          have hr := hrm _ r rfl
          simp only at hbc hr
          simp only [List.length_cons] at hd
          by_cases hb : bc < 0
          · rcases h56 with rfl | rfl
            · exact (wk_oan_5n h hM hd y m t c hc2 hn hb).mono (fun q w' h => h)
            · exact (wk_oan_6n h hM hd y m t c hc2 hn hb).mono (fun q w' h => h)
          · have hr := hr (by omega)
            rcases h56 with rfl | rfl
            · exact (wk_oac_5n h hM hd y m t c hc2 hn (by omega) (by omega) (by simpa using hr)).mono (fun q w' h => h)
            · exact (wk_oac_6n h hM hd y m t c hc2 hn (by omega) (by omega) (by simpa using hr)).mono (fun q w' h => h)
        | ⟨true, bc, bh⟩ :: r, h, hd, hcs, hkf, hrm =>
          have hbc := hcs _ List.mem_cons_self
          have hr := hrm _ r rfl
          have ho : bh % 2 = 1 := by simp [keyB] at hkf; omega
          simp only at hbc hr
          simp only [List.length_cons] at hd
          by_cases hb : bc < 0
          · rcases h56 with rfl | rfl
            · exact (wk_omn_5n h hM hd y m t c hc2 hn hb ho).mono (fun q w' h => h)
            · exact (wk_omn_6n h hM hd y m t c hc2 hn hb ho).mono (fun q w' h => h)
          · have hr := hr (by omega)
            rcases h56 with rfl | rfl
            · exact (wk_omc_5n h hM hd y m t c hc2 hn (by omega) (by omega) (by simpa using hr) ho).mono (fun q w' h => h)
            · exact (wk_omc_6n h hM hd y m t c hc2 hn (by omega) (by omega) (by simpa using hr) ho).mono (fun q w' h => h)
      · rw [hwc k h56 hn]
        have hp : 0 ≤ c := by omega
        have h4 := hHd hp 4
        have h5 := hHd hp 5
        rw [show ((4 : Int) % 8).toNat = 4 from rfl] at h4
        rw [show ((5 : Int) % 8).toNat = 5 from rfl] at h5
        match s, h, hd, hcs, hkf, hrm with
        | [], h, _, _, _, _ =>
          rcases h56 with rfl | rfl
          · refine (wk_open0_5c h y m t c hc2 hp _ (hXs 4 _) h4).mono ?_
            rintro q w' ⟨rfl, h1, h2⟩
            exact ⟨rfl, h1.up (by omega) hM, h2⟩
          · refine (wk_open0_6c h y m t c hc2 hp _ (hXs 5 _) h5).mono ?_
            rintro q w' ⟨rfl, h1, h2⟩
            exact ⟨rfl, h1.up (by omega) hM, h2⟩
        | ⟨false, bc, bh⟩ :: r, h, hd, hcs, _, hrm =>
          have hbc := hcs _ List.mem_cons_self
          have hr := hrm _ r rfl
          simp only at hbc hr
          simp only [List.length_cons] at hd
          by_cases hb : bc < 0
          · rcases h56 with rfl | rfl
            · exact (wk_oan_5c h hM hd y m t c hc2 hp _ (hXs 4 _) h4 hb).mono (fun q w' h => h)
            · exact (wk_oan_6c h hM hd y m t c hc2 hp _ (hXs 5 _) h5 hb).mono (fun q w' h => h)
          · have hr := hr (by omega)
            rcases h56 with rfl | rfl
            · exact (wk_oac_5c h hM hd y m t c hc2 hp _ (hXs 4 _) h4 (by omega) (by omega) (by simpa using hr)).mono (fun q w' h => h)
            · exact (wk_oac_6c h hM hd y m t c hc2 hp _ (hXs 5 _) h5 (by omega) (by omega) (by simpa using hr)).mono (fun q w' h => h)
        | ⟨true, bc, bh⟩ :: r, h, hd, hcs, hkf, hrm =>
          have hbc := hcs _ List.mem_cons_self
          have hr := hrm _ r rfl
          have ho : bh % 2 = 1 := by simp [keyB] at hkf; omega
          simp only at hbc hr
          simp only [List.length_cons] at hd
          by_cases hb : bc < 0
          · rcases h56 with rfl | rfl
            · exact (wk_omn_5c h hM hd y m t c hc2 hp _ (hXs 4 _) h4 hb ho).mono (fun q w' h => h)
            · exact (wk_omn_6c h hM hd y m t c hc2 hp _ (hXs 5 _) h5 hb ho).mono (fun q w' h => h)
          · have hr := hr (by omega)
            rcases h56 with rfl | rfl
            · exact (wk_omc_5c h hM hd y m t c hc2 hp _ (hXs 4 _) h4 (by omega) (by omega) (by simpa using hr) ho).mono (fun q w' h => h)
            · exact (wk_omc_6c h hM hd y m t c hc2 hp _ (hXs 5 _) h5 (by omega) (by omega) (by simpa using hr) ho).mono (fun q w' h => h)
    · have hk5 : e.k = 0 ∨ e.k = 1 ∨ e.k = 2 ∨ e.k = 3 ∨ e.k = 4 := by
        have := hm.1
        have := hm.2.1
        omega
      have hs' : s' = incB s := by
        refine hinj _ _ ?_
        rw [← hst]
        simp only [stepC]
        rw [if_neg (by simpa using hm), if_neg h7, if_neg hkey', if_neg h56]
        unfold ckS
        cases s <;> rfl
      subst hs'
      have hP := rplain_k hH e hg (by omega)
      have hX : (⟨(writeK [] e).toArray⟩ : ByteArray).size ≤ 100000 := by
        rw [size_of]
        exact Nat.le_trans hlen (by decide)
      generalize (⟨(writeK [] e).toArray⟩ : ByteArray) = X at hP hX ⊢
      match s, h, hcs, hkey', hrm with
      | [], h, _, _, _ =>
        refine (wk_val0 h e hk5 X hX hP).mono ?_
        rintro q w' ⟨rfl, h1, h2⟩
        exact ⟨rfl, h1.up (by omega) hM, h2⟩
      | ⟨false, bc, bh⟩ :: r, h, hcs, hkey', hrm =>
        have hbc := hcs _ List.mem_cons_self
        have hr := hrm _ r rfl
        simp only at hbc hr
        by_cases hb : bc < 0
        · exact (wk_v1 h hM e hk5 hkey' X hX hb hP).mono (fun q w' h => h)
        · exact (wk_v2 h hM e hk5 hkey' X hX (by omega) (by omega) (by simpa using hr (by omega)) hP).mono (fun q w' h => h)
      | ⟨true, bc, bh⟩ :: r, h, hcs, hkey', hrm =>
        have hbc := hcs _ List.mem_cons_self
        have hr := hrm _ r rfl
        simp only at hbc hr
        by_cases ho : bh % 2 = 1
        · by_cases hb : bc < 0
          · exact (wk_v3 h hM e hk5 hkey' X hX hb ho hP).mono (fun q w' h => h)
          · exact (wk_v4 h hM e hk5 hkey' X hX (by omega) (by omega) (by simpa using hr (by omega)) ho hP).mono (fun q w' h => h)
        · have he0 : bh % 2 = 0 := by omega
          have hk3 : e.k = 3 := by
            by_cases h3 : e.k = 3
            · exact h3
            · exact absurd ⟨by simp [keyB, he0], h3⟩ hkey'
          by_cases hb : bc < 0
          · exact (wk_v5 h hM e hk5 hkey' X hX hb he0 hk3 hP).mono (fun q w' h => h)
          · exact (wk_v6 h hM e hk5 hkey' X hX (by omega) (by omega) (by simpa using hr (by omega)) he0 hk3 hP).mono (fun q w' h => h)
end Go.Proofs.Ytockeedbceopiaa
/-
  CONTRACTS of cborout.Writer, part F: end, write, Step.
-/
namespace Go.Proofs.Ytockeedbceopiaa
open Go.RowKit
open Go.Lib
theorem QAt.whole {w : World} {b o : Nat} {F : List Nat} {s : List Bx} {d : Bool} (h : QAt w b o F ⟨s, d⟩) (D : Bool) (hD : D = true → s = []) : QAt (w.setCell ⟨b, o + 1, none⟩ (.bool D)) b o F ⟨s, D⟩ ∧ Jf b o F F w (w.setCell ⟨b, o + 1, none⟩ (.bool D)) := by
  obtain ⟨a, cp, hA, hW, hF⟩ := h.cells
  obtain ⟨cs, t, fr, hc, ht⟩ := h.blk
  have hap : b ∉ Value.owner (.slice a s.length cp) := hW.apart hc (fun e => ht e.symm)
  have hset := hA.set 1 (by simp) (.bool D)
  exact ⟨⟨⟨a, cp, by simpa using hset, hW.setCell_far hap _, hF⟩, ⟨_, t, fr, heap_setCell_at w ⟨b, o + 1, none⟩ _ _ _ _ rfl hc, ht⟩, hD, h.wf⟩, (Jf.refl b o F w).set (o + 1) _ (by omega)⟩
theorem QAt.pair {w : World} {b o : Nat} {F : List Nat} {q : Kq} (h : QAt w b o F q) : ∃ a cp, (w.cell? ⟨b, o, none⟩ = some (.slice a q.s.length cp) ∧ w.frozen? ⟨b, o, none⟩ = false) ∧ (∃ u, w.cell? ⟨b, o + 1, none⟩ = some u) ∧ w.frozen? ⟨b, o + 1, none⟩ = false := by
  obtain ⟨a, cp, hA, _, _⟩ := h.cells
  obtain ⟨⟨c0, f0⟩, ⟨c1, f1⟩⟩ := oat_two hA
  exact ⟨a, cp, ⟨c0, f0⟩, ⟨_, c1⟩, f1⟩
theorem len_emp (s : List Bx) : ((s.length : Int) == 0) = s.isEmpty := by
  cases s with
  | nil => rfl
  | cons x r =>
    rw [Bool.eq_iff_iff]
    simp
    omega
set_option maxRecDepth 100000 in
set_option maxHeartbeats 4000000 in
/-- A container's end. -/
theorem endQ {w : World} {b o : Nat} {F : List Nat} {x : Bx} {r : List Bx} (h : QAt w b o F ⟨x :: r, false⟩) (hs : r.length ≤ 999) :
    Calls Try.prog 40 #[.pointer (some ⟨b, o, none⟩)] w fun q w' => q = .returned (.string ⟨(if x.c < 0 then [(255 : UInt8)] else []).toArray⟩) ∧ QAt w' b o F ⟨r, r.isEmpty⟩ ∧ Jf b o F F w w' := by
  have HL := Lib.hid (leaveQ h hs)
  have hx := h.wf x (by simp)
  have hO : (⟨(if x.c < 0 then [(255 : UInt8)] else []).toArray⟩ : ByteArray) = ⟨(if (x.c != -1) = true then [] else [(255 : UInt8)]).toArray⟩ := by
    by_cases hc : x.c = -1
    · rw [if_pos (by omega), if_neg (by simp [hc])]
    · rw [if_neg (by omega), if_pos (by simpa using hc)]
  rw [hO]
  generalize (x.c != -1) = C at *
  have HE := Lib.hid (fun W => qend_of C W)
  generalize (⟨(if C = true then [] else [(255 : UInt8)]).toArray⟩ : ByteArray) = Z at *
  have he := len_emp r
  have hE0 : r.isEmpty = true → r = [] := fun e => by simpa using e
  generalize r.isEmpty = E at *
  have HE0 := Lib.hid hE0
  clear h hx hO hE0
  go_enter Try.func40, Try.ntmps40
  go_wp2_with fail
  refine HL.out.mono ?_
  rintro e w1 ⟨rfl, hj, hf⟩
  obtain ⟨a, cp, ⟨c0, f0⟩, ⟨u, c1⟩, f1⟩ := hj.pair
  have hw := hj.whole E HE0.out
  have HW := Lib.hid (And.intro hw.1 (hf.trans hw.2))
  simp only at c0
  generalize r.length = n' at *
  clear hj hf hw
  go_wp2_with fail
  refine (HE.out _).mono ?_
  rintro e w2 ⟨rfl, rfl⟩
  go_wp2
  go_ret
  exact ⟨rfl, HW.out⟩
/-- COUNT, of a Writer. -/
theorem QAt.count {w : World} {b o : Nat} {F : List Nat} {s : List Bx} (h : QAt w b o F ⟨s, false⟩) (hs : dpQ s ≤ 1000) (hf : fulT s = false) : ∃ a cp, (∀ w', Below w.heap.size w w' → w'.cell? ⟨b, o, none⟩ = some (.slice a s.length cp)) ∧
    (∀ w', Below w.heap.size w w' → Calls Try.prog 41 #[.slice a s.length cp] w' fun r w2 => r = .returned (.tuple #[]) ∧ QAt w2 b o F ⟨incB s, false⟩ ∧ Jf b o F F w w2) := by
  obtain ⟨a, cp, hA, hW, hF⟩ := h.cells
  obtain ⟨cs, t, fr, hc, ht⟩ := h.blk
  have hlt := h.lt
  refine ⟨a, cp, fun w' k => (hA.keep (k.block b hlt) 0 _ rfl).1, fun w' k => ?_⟩
  have hWk : Win w' 99 3 (.slice a s.length cp) s.length (kcL s) := hW.keep fun i hi => k.block i (hW.lt i hi)
  refine (kcount_any hWk hs).mono ?_
  rintro r w2 ⟨h1, h2, h3⟩
  have hbF : b ∉ F := fun hk => (h.row b hk).2.1 rfl
  rw [hF] at h3
  have hlt' : b < w'.heap.size := Nat.lt_of_lt_of_le hlt k.size
  have hblk : w2.heap[b]? = w.heap[b]? := (h3.block b hlt' hbF).trans (k.block b hlt)
  have hl : (incB s).length = s.length := by cases s <;> rfl
  refine ⟨h1, ⟨⟨a, cp, ?_, ?_, ?_⟩, ⟨cs, t, fr, hblk.trans hc, ht⟩, fun e => (by cases e), h.wf.inc hf⟩, ?_⟩
  · simp only [hl]
    exact hA.keep hblk
  · simp only [hl]
    exact h2
  · simp only [hl]
    exact hF
  · have hj : Jf b o F F w' w2 := ⟨⟨h3.os, h3.tape, h3.output, h3.size, fun i hi hn => h3.block i hi (fun e => hn (List.mem_cons_of_mem _ e)), fun i hi => .inl hi⟩, fun c1 t1 fr1 h1 => ⟨c1, (h3.block b hlt' hbF).trans h1, rfl⟩, fun i _ => World.cell?_of_block (w := w') (h3.block b hlt' hbF)⟩
    exact (Jf.of k hlt).trans hj
set_option maxRecDepth 100000 in
set_option maxHeartbeats 4000000 in
theorem qwrite_end {w : World} {b o : Nat} {F : List Nat} {x : Bx} {r : List Bx} (h : QAt w b o F ⟨x :: r, false⟩) (hs : r.length ≤ 999) (v : Value)
    (hC : ∀ W, (Instr.typeAssert v 20 61 true).run Try.prog W = .ok (.tuple #[.agg #[], .bool true]) W) :
    Calls Try.prog 25 #[.pointer (some ⟨b, o, none⟩), v] w fun q w' => q = .returned (.string ⟨(if x.c < 0 then [(255 : UInt8)] else []).toArray⟩) ∧ QAt w' b o F ⟨r, r.isEmpty⟩ ∧ Jf b o F F w w' := by
  have HE : Hid (∀ X, Calls Try.prog 40 #[.pointer (some ⟨b, o, none⟩)] (w.alloc X) fun q w' => q = .returned (.string ⟨(if x.c < 0 then [(255 : UInt8)] else []).toArray⟩) ∧ QAt w' b o F ⟨r, r.isEmpty⟩ ∧ Jf b o F F w w') := Lib.hid (fun X => by
    refine (endQ (h.alloc X) hs).mono ?_
    rintro q w' ⟨h1, h2, h3⟩
    exact ⟨h1, h2, (Jf.of (up_alloc (Below.refl _ _) X) h.lt).trans h3⟩)
  generalize (⟨(if x.c < 0 then [(255 : UInt8)] else []).toArray⟩ : ByteArray) = Z at *
  clear h
  go_enter Try.func25, Try.ntmps25
  go_wp2_with fail
  refine (HE.out _).mono ?_
  rintro q w1 ⟨rfl, hj⟩
  have HJ := Lib.hid hj
  clear hj
  go_wp2
  go_ret
  exact ⟨rfl, HJ.out⟩
theorem begB_size (m : Bool) (c : Int) : (⟨(begB m c).toArray⟩ : ByteArray).size ≤ 9 := by
  rw [size_of]
  unfold begB
  split
  · simp
  · exact headB_len _ _
set_option maxRecDepth 100000 in
set_option maxHeartbeats 4000000 in
theorem qwrite_open {w : World} {b o : Nat} {F : List Nat} {s : List Bx} (h : QAt w b o F ⟨s, false⟩) (hs : dpQ s ≤ 900) (hf : fulT s = false) (v : Value) (m : Bool) (c : Int) (hc : -1 ≤ c ∧ c ≤ 9223372036854775807)
    (hC : ∀ W, (Instr.typeAssert v 20 61 true).run Try.prog W = .ok (.tuple #[.agg #[], .bool false]) W)
    (hB : ∀ W, (Instr.typeAssert v 20 58 true).run Try.prog W = .ok (.tuple #[.agg #[.bool m, .int .i64 c], .bool true]) W) :
    Calls Try.prog 25 #[.pointer (some ⟨b, o, none⟩), v] w fun r w' => r = .returned (.string ⟨(begB m c).toArray⟩) ∧ ∃ F', QAt w' b o F' ⟨⟨m, c, 0⟩ :: incB s, false⟩ ∧ Jf b o F F' w w' := by
  obtain ⟨a, cp, hc0, hN⟩ := h.count (by omega) hf
  have hb := h.lt
  have HC0 := Lib.hid hc0
  have HN := Lib.hid hN
  have HB0 := Lib.hid hb
  have hlen : (incB s).length ≤ 1000 := Nat.le_trans (dp_len _) (Nat.le_trans (dp_inc s) (by omega))
  have hE : ∀ w2, QAt w2 b o F ⟨incB s, false⟩ → Jf b o F F w w2 → Calls Try.prog 42 #[.pointer (some ⟨b, o, none⟩), .agg #[.bool m, .int .i64 c]] (w2.alloc (.cells #[.bool m, .int .i64 c] 58)).drew fun e w' => e = .returned (.tuple #[]) ∧ (w'.cell? ⟨w2.heap.size, 0, none⟩ = some (.bool m) ∧ w'.cell? ⟨w2.heap.size, 1, none⟩ = some (.int .i64 c)) ∧
      Hid (∀ w3, Below w'.heap.size w' w3 → ∃ F', QAt w3 b o F' ⟨⟨m, c, 0⟩ :: incB s, false⟩ ∧ Jf b o F F' w w3) := by
    intro w2 q2 j2
    have q3 := (q2.alloc (.cells #[.bool m, .int .i64 c] 58)).drewN 1
    refine (enterQ q3 hlen m c hc).mono ?_
    rintro e w' ⟨h1, F', h2, h3⟩
    have hblk : w'.heap[w2.heap.size]? = (w2.alloc (.cells #[.bool m, .int .i64 c] 58)).heap[w2.heap.size]? := by
      refine h3.step.block w2.heap.size (by show w2.heap.size < (w2.alloc _).heap.size; simp) ?_
      intro hm
      rcases List.mem_cons.1 hm with e | hm
      · have := q2.lt
        omega
      · have := (q2.row _ hm).1
        omega
    have hB := blk_new w2 #[.bool m, .int .i64 c] 58
    refine ⟨h1, ⟨(World.cell?_of_block (w := (w2.alloc (.cells #[.bool m, .int .i64 c] 58))) hblk).trans (hB.cell 0), (World.cell?_of_block (w := (w2.alloc (.cells #[.bool m, .int .i64 c] 58))) hblk).trans (hB.cell 1)⟩, Lib.hid fun w3 k => ⟨F', h2.go k, ?_⟩⟩
    have j3 : Jf b o F F w (w2.alloc (.cells #[.bool m, .int .i64 c] 58)).drew := (j2.up HB0.out (up_alloc (Below.refl _ _) _)).drewN 1
    exact (j3.trans h3).up HB0.out k
  have HE := Lib.hid hE
  have HG := Lib.hid (fun W => qbegin_of m c hc W)
  generalize (⟨(begB m c).toArray⟩ : ByteArray) = Z at *
  clear h hs hf hc hc0 hN hb hlen hE
  go_enter Try.func25, Try.ntmps25
  have B0 := Lib.hid (up_alloc (Below.refl w.heap.size w) (.cells #[] 61))
  have d0 := HC0.out _ B0.out
  go_wp2_with fail
  refine (HN.out _ B0.out).mono ?_
  rintro r w2 ⟨rfl, q2, j2⟩
  have H2 := Lib.hid (HE.out w2 q2 j2)
  have EB : Hid (Blk (w2.alloc (.cells #[.bool m, .int .i64 c] 58)) w2.heap.size #[.bool m, .int .i64 c] 58) := Lib.hid (blk_new w2 #[.bool m, .int .i64 c] 58)
  have x0 : (w2.alloc (.cells #[.bool m, .int .i64 c] 58)).cell? ⟨w2.heap.size, 0, none⟩ = some (.bool m) := EB.out.cell 0
  have x1 : (w2.alloc (.cells #[.bool m, .int .i64 c] 58)).cell? ⟨w2.heap.size, 1, none⟩ = some (.int .i64 c) := EB.out.cell 1
  clear q2 j2 EB
  go_wp2_with fail
  go_region_with (go_at_call 42; refine (H2.out).mono ?_; rintro r w3 ⟨rfl, ⟨y0, y1⟩, HF⟩)
  all_goals
    clear x0 x1
    go_wp2_with fail
    refine (HG.out _).mono ?_
    rintro r w4 ⟨rfl, b4⟩
    have HF2 := Lib.hid (HF.out _ b4)
    clear b4
    go_wp2
    go_ret
    exact ⟨rfl, HF2.out⟩
end Go.Proofs.Ytockeedbceopiaa
/-
  CONTRACTS of cborout.Writer, part G: a value; Step; a Writer that a law made.
-/
namespace Go.Proofs.Ytockeedbceopiaa
open Go.RowKit
open Go.Lib
set_option maxRecDepth 100000 in
set_option maxHeartbeats 4000000 in
theorem qwrite_val {w : World} {b o : Nat} {F : List Nat} {s : List Bx} (h : QAt w b o F ⟨s, false⟩) (hs : dpQ s ≤ 900) (hf : fulT s = false) (v : Value) (T : ByteArray)
    (hC : ∀ W, (Instr.typeAssert v 20 61 true).run Try.prog W = .ok (.tuple #[.agg #[], .bool false]) W)
    (hB : ∀ W, (Instr.typeAssert v 20 58 true).run Try.prog W = .ok (.tuple #[.agg #[.bool false, .int .i64 0], .bool false]) W)
    (hX : ∀ W, Calls Try.prog 44 #[v] W fun r w' => r = .returned (.string T) ∧ Below W.heap.size W w') :
    Calls Try.prog 25 #[.pointer (some ⟨b, o, none⟩), v] w fun r w' => r = .returned (.string T) ∧ QAt w' b o F ⟨incB s, s.isEmpty⟩ ∧ Jf b o F F w w' := by
  obtain ⟨a, cp, hc0, hN⟩ := h.count (by omega) hf
  have hb := h.lt
  have HC0 := Lib.hid hc0
  have HN := Lib.hid hN
  have HB0 := Lib.hid hb
  have he := len_emp s
  have hl : (incB s).length = s.length := by cases s <;> rfl
  have hE0 : s.isEmpty = true → incB s = [] := fun e => by
    have : s = [] := by simpa using e
    rw [this]; rfl
  have HE0 := Lib.hid hE0
  have HX := Lib.hid hX
  generalize s.isEmpty = E at *
  have HL := Lib.hid hl
  clear h hs hf hc0 hN hb hE0 hX hl
  go_enter Try.func25, Try.ntmps25
  have B0 := Lib.hid (up_alloc (Below.refl w.heap.size w) (.cells #[] 61))
  have d0 := HC0.out _ B0.out
  go_wp2_with fail
  refine (HN.out _ B0.out).mono ?_
  rintro r w2 ⟨rfl, q2, j2⟩
  have q3 := q2.alloc (.cells #[.bool false, .int .i64 0] 58)
  have j3 := j2.up HB0.out (up_alloc (Below.refl _ _) (.cells #[.bool false, .int .i64 0] 58))
  obtain ⟨a2, cp2, ⟨c0, f0⟩, ⟨u, c1⟩, f1⟩ := q3.pair
  simp only [HL.out] at c0
  have hw := q3.whole E HE0.out
  have HW : Hid (∀ w', Below ((w2.alloc (.cells #[.bool false, .int .i64 0] 58)).setCell ⟨b, o + 1, none⟩ (.bool E)).heap.size ((w2.alloc (.cells #[.bool false, .int .i64 0] 58)).setCell ⟨b, o + 1, none⟩ (.bool E)) w' → QAt w' b o F ⟨incB s, E⟩ ∧ Jf b o F F w w') := Lib.hid (fun w' k => ⟨hw.1.go k, (j3.trans hw.2).up HB0.out k⟩)
  generalize s.length = n' at *
  clear hw q2 q3 j2 j3
  go_wp2_with fail
  refine (HX.out _).mono ?_
  rintro r w4 ⟨rfl, b4⟩
  have H4 := Lib.hid (HW.out _ b4)
  clear b4
  go_wp2
  go_ret
  exact ⟨rfl, H4.out⟩
/-- STEP: of what is no part. -/
theorem qo_other {w : World} {b o : Nat} {F : List Nat} {q : Kq} (h : QAt w b o F q) (v : Value) (X : Ev) (hP : ∀ W, Calls Try.prog 36 #[v] W fun r w' => r = .returned (.tuple #[evV X, .bool false]) ∧ Below W.heap.size W w') :
    Calls Try.prog 12 #[.pointer (some ⟨b, o, none⟩), v] w fun r w' => r = .returned (.tuple #[.string ⟨#[]⟩, .int .i64 14]) ∧ QAt w' b o F q ∧ Jf b o F F w w' := by
  have HR := Lib.hid (qrefuses_other (w := w) (b := b) (o := o) v X hP)
  have HF : Hid (∀ w', Below w.heap.size w w' → QAt w' b o F q ∧ Jf b o F F w w') := Lib.hid (fun w' k => ⟨h.go k, Jf.of k h.lt⟩)
  clear h hP
  go_enter Try.func12, Try.ntmps12
  go_wp2_with fail
  refine HR.out.mono ?_
  rintro r w1 ⟨rfl, b1⟩
  have H1 := Lib.hid (HF.out _ b1)
  clear b1
  go_wp2
  go_ret2
  exact ⟨rfl, H1.out⟩
set_option maxRecDepth 100000 in
set_option maxHeartbeats 2000000 in
theorem qo_err {w : World} {b o : Nat} {F : List Nat} {q : Kq} (h : QAt w b o F q) (v : Value) (n : Nat) (hn : n = 14 ∨ n = 8)
    (hR : Calls Try.prog 24 #[.pointer (some ⟨b, o, none⟩), v] w fun r w' => r = .returned (.int .i64 n) ∧ Below w.heap.size w w') :
    Calls Try.prog 12 #[.pointer (some ⟨b, o, none⟩), v] w fun r w' => r = .returned (.tuple #[.string ⟨#[]⟩, .int .i64 n]) ∧ QAt w' b o F q ∧ Jf b o F F w w' := by
  have HR := Lib.hid hR
  have HF : Hid (∀ w', Below w.heap.size w w' → QAt w' b o F q ∧ Jf b o F F w w') := Lib.hid (fun w' k => ⟨h.go k, Jf.of k h.lt⟩)
  clear h hR
  rcases hn with rfl | rfl
  all_goals
    go_enter Try.func12, Try.ntmps12
    go_wp2_with fail
    refine HR.out.mono ?_
    rintro r w1 ⟨rfl, b1⟩
    have H1 := Lib.hid (HF.out _ b1)
    clear b1
    go_wp2
    go_ret2
    exact ⟨rfl, H1.out⟩
set_option maxRecDepth 100000 in
set_option maxHeartbeats 2000000 in
theorem qo_ok {w : World} {b o : Nat} {F : List Nat} {q : Kq} (h : QAt w b o F q) (v : Value) (T : ByteArray) (q' : Kq)
    (hR : Calls Try.prog 24 #[.pointer (some ⟨b, o, none⟩), v] w fun r w' => r = .returned (.int .i64 0) ∧ Below w.heap.size w w')
    (hW : ∀ W, Below w.heap.size w W → Calls Try.prog 25 #[.pointer (some ⟨b, o, none⟩), v] W fun r w' => r = .returned (.string T) ∧ ∃ F', QAt w' b o F' q' ∧ Jf b o F F' W w') :
    Calls Try.prog 12 #[.pointer (some ⟨b, o, none⟩), v] w fun r w' => r = .returned (.tuple #[.string T, .int .i64 0]) ∧ ∃ F', QAt w' b o F' q' ∧ Jf b o F F' w w' := by
  have HR := Lib.hid hR
  have HW := Lib.hid hW
  have hb := h.lt
  clear h hR hW
  have HB := Lib.hid hb
  clear hb
  go_enter Try.func12, Try.ntmps12
  go_wp2_with fail
  refine HR.out.mono ?_
  rintro r w1 ⟨rfl, b1⟩
  have H1 := Lib.hid b1
  clear b1
  go_wp2_with fail
  refine (HW.out _ H1.out).mono ?_
  rintro r w2 ⟨rfl, F', hj, hf⟩
  have H2 : Hid (∃ F', QAt w2 b o F' q' ∧ Jf b o F F' w w2) := Lib.hid ⟨F', hj, (Jf.of H1.out HB.out).trans hf⟩
  clear hj hf
  go_wp2
  go_ret2
  exact ⟨rfl, H2.out⟩
theorem writeK_beg {e : Ev} (h56 : e.k = 5 ∨ e.k = 6) (s : List Bx) : writeK s e = begB (decide (e.k = 6)) e.c := by
  unfold writeK begB
  rw [if_neg (by omega), if_neg (by omega), if_neg (by omega), if_neg (by omega), if_neg (by omega)]
  by_cases h6 : e.k = 6
  · simp [h6]
  · simp [h6]
/-- STEP: of a part, whether it may come now or not. -/
theorem qo_step {w : World} {b o : Nat} {F : List Nat} {q : Kq} (h : QAt w b o F q) (hs : dpQ q.s ≤ 900) (e : Ev) (hm : mayE e) (hok : EvOk e) (ht : e.t.size ≤ 1000) :
    Calls Try.prog 12 #[.pointer (some ⟨b, o, none⟩), valE e] w fun r w' => r = .returned (.tuple #[.string ⟨(stepQ q e).1.1.toArray⟩, .int .i64 ((stepQ q e).1.2 : Nat)]) ∧ ∃ F', QAt w' b o F' (stepQ q e).2 ∧ Jf b o F F' w w' := by
  have hR := refusesQ h (by omega) e hm
  have bad : ∀ n : Nat, (n = 14 ∨ n = 8) → stepQ q e = (([], n), q) → Calls Try.prog 12 #[.pointer (some ⟨b, o, none⟩), valE e] w fun r w' => r = .returned (.tuple #[.string ⟨(stepQ q e).1.1.toArray⟩, .int .i64 ((stepQ q e).1.2 : Nat)]) ∧ ∃ F', QAt w' b o F' (stepQ q e).2 ∧ Jf b o F F' w w' := by
    intro n hn hq
    rw [hq] at hR ⊢
    refine (qo_err h (valE e) n hn hR).mono ?_
    rintro r w' ⟨h1, h2, h3⟩
    exact ⟨h1, F, h2, h3⟩
  have hC := as_close e hm
  have hB := as_begin e hm
  obtain ⟨s, dn⟩ := q
  simp only at hs
  have hl := dp_len s
  cases dn with
  | true => exact bad 14 (.inl rfl) (stepQ_bad ⟨s, true⟩ e (.inr rfl))
  | false =>
    by_cases h7 : e.k = 7
    · cases s with
      | nil => exact bad 14 (.inl rfl) (stepQ_none hm h7)
      | cons x r =>
        by_cases ho : shutB x
        · exact bad 14 (.inl rfl) (stepQ_shut hm h7 ho)
        · rw [stepQ_end hm h7 ho] at hR ⊢
          rw [decide_eq_true h7] at hC
          refine qo_ok h (valE e) _ _ hR (fun W k => ?_)
          refine (qwrite_end (h.go k) (by simp only [List.length_cons] at hl; omega) (valE e) hC).mono ?_
          rintro q w' ⟨h1, h2, h3⟩
          refine ⟨?_, F, h2, h3⟩
          rw [h1]
          unfold writeK
          rw [if_pos h7]
    · rw [decide_eq_false h7] at hC
      by_cases hf : fulT s = true
      · exact bad 14 (.inl rfl) (stepQ_full hm h7 hf)
      · have hf : fulT s = false := by simpa using hf
        by_cases hk : keyB s = true ∧ e.k ≠ 3
        · exact bad 8 (.inr rfl) (stepQ_key hm h7 hf hk.1 hk.2)
        · by_cases h56 : e.k = 5 ∨ e.k = 6
          · have hkf : keyB s = false := by
              cases hq : keyB s with
              | false => rfl
              | true => exact absurd ⟨hq, by omega⟩ hk
            rw [decide_eq_true h56, if_pos h56] at hB
            rw [stepQ_open hm h56 hf hkf] at hR ⊢
            refine qo_ok h (valE e) _ _ hR (fun W k => ?_)
            refine (qwrite_open (h.go k) hs hf (valE e) (decide (e.k = 6)) e.c ⟨hm.2.2 h56, hok.2.2.1.2⟩ hC hB).mono ?_
            rintro q w' ⟨h1, F', h2, h3⟩
            exact ⟨by rw [h1, writeK_beg h56], F', h2, h3⟩
          · rw [decide_eq_false h56, if_neg h56, decide_eq_false (by omega : ¬ e.k = 6)] at hB
            have hk5 : e.k = 0 ∨ e.k = 1 ∨ e.k = 2 ∨ e.k = 3 ∨ e.k = 4 := by
              have := kind8 hm
              omega
            rw [stepQ_val hm h7 h56 hf hk] at hR ⊢
            refine qo_ok h (valE e) _ _ hR (fun W k => ?_)
            refine (qwrite_val (h.go k) hs hf (valE e) _ hC hB (fun W' => qvalue_of e hk5 hok.2.1 ht W')).mono ?_
            rintro q w' ⟨h1, h2, h3⟩
            exact ⟨by rw [h1, writeK_any h7 s], F, h2, h3⟩
/-- A Writer that a law made: all its blocks are new since w0. -/
structure QW (w0 w : World) (b : Nat) (F : List Nat) (q : Kq) : Prop where
  at_ : QAt w b 0 F q
  lo : w0.heap.size ≤ b
  row : ∀ k ∈ F, w0.heap.size ≤ k
  bel : Below w0.heap.size w0 w
  typ : ∃ cs fr, w.heap[b]? = some (.cells cs 28 fr)
theorem QW.go {w0 w w' : World} {b : Nat} {F : List Nat} {q : Kq} (h : QW w0 w b F q) (k : Below w.heap.size w w') : QW w0 w' b F q := by
  obtain ⟨cs, fr, hc⟩ := h.typ
  exact ⟨h.at_.go k, h.lo, h.row, h.bel.trans (k.mono h.bel.size), cs, fr, (k.block b h.at_.lt).trans hc⟩
theorem QW.next {w0 w w' : World} {b : Nat} {F F' : List Nat} {q q' : Kq} (h : QW w0 w b F q) (hj : QAt w' b 0 F' q') (k : Jf b 0 F F' w w') : QW w0 w' b F' q' := by
  have h1 := k.step.low (B := w0.heap.size) (fun i hi => (List.mem_cons.1 hi).elim (fun e => e ▸ h.lo) (fun hi => h.row i hi)) h.bel.size
  obtain ⟨cs, fr, hc⟩ := h.typ
  obtain ⟨c', hc', _⟩ := k.shape _ _ _ hc
  exact ⟨hj, h.lo, fun i hi => h1 i (List.mem_cons_of_mem _ hi), h.bel.trans (k.below h.lo h.row h.bel.size), c', fr, hc'⟩
/-- STEP, within a law. -/
theorem qw_step {w0 w : World} {b : Nat} {F : List Nat} {q : Kq} (h : QW w0 w b F q) (hs : dpQ q.s ≤ 900) (e : Ev) (hm : mayE e) (hok : EvOk e) (ht : e.t.size ≤ 1000) :
    Calls Try.prog 12 #[.pointer (some ⟨b, 0, none⟩), valE e] w fun r w' => r = .returned (.tuple #[.string ⟨(stepQ q e).1.1.toArray⟩, .int .i64 ((stepQ q e).1.2 : Nat)]) ∧ ∃ F', QW w0 w' b F' (stepQ q e).2 ∧ Jf b 0 F F' w w' := by
  refine (qo_step h.at_ hs e hm hok ht).mono ?_
  rintro r w' ⟨h1, F', h2, h3⟩
  exact ⟨h1, F', h.next h2 h3, h3⟩
theorem qw_new (w0 w : World) (hb : Below w0.heap.size w0 w) : QW w0 (w.alloc (.cells #[.slice none 0 0, .bool false] 28)) w.heap.size [] ⟨[], false⟩ :=
  ⟨⟨⟨none, 0, jat_block (heap_alloc_new w _), Win.nil_ _ _ _, rfl⟩, ⟨_, _, _, heap_alloc_new w _, by decide⟩, fun e => (by cases e), fun x hx => (by simp at hx)⟩, hb.size, fun k hk => (by simp at hk), up_alloc hb _, _, _, heap_alloc_new w _⟩
/-- What lies in blocks of other types. -/
theorem QW.off {w0 w w' : World} {b : Nat} {F F' : List Nat} {q : Kq} (h : QW w0 w b F q) (k : Jf b 0 F F' w w') : Off [28, 99] w w' := by
  intro i c t fr hi ht
  have hlt := (Array.getElem?_eq_some_iff.1 hi).1
  rw [k.step.block i hlt ?_]
  · exact hi
  · intro hm
    rcases List.mem_cons.1 hm with e | hm
    · subst e
      obtain ⟨cs, fr', hc⟩ := h.typ
      rw [hi] at hc
      cases hc
      exact ht (by simp)
    · obtain ⟨_, _, cur, hc⟩ := h.at_.row i hm
      rw [hi] at hc
      cases hc
      exact ht (by simp)
/-- A step of others, in blocks of other types. -/
theorem QW.kept {w0 w w' : World} {b : Nat} {F : List Nat} {q : Kq} {ts : List Nat} (h : QW w0 w b F q) (k : Off ts w w') (h1 : 28 ∉ ts) (h2 : 99 ∉ ts) (hb : Below w0.heap.size w w') : QW w0 w' b F q := by
  obtain ⟨cs, fr, hc⟩ := h.typ
  refine ⟨h.at_.keep fun i hi => ?_, h.lo, h.row, h.bel.trans hb, cs, fr, k _ _ _ _ hc h1⟩
  rcases hi with rfl | hi
  · rw [hc, k _ _ _ _ hc h1]
  · obtain ⟨_, _, cur, hr⟩ := h.at_.row i hi
    rw [hr, k _ _ _ _ hr h2]
end Go.Proofs.Ytockeedbceopiaa
/-
  CONTRACT of cborout.All: as the machine of CoutPure over all parts.
-/
namespace Go.Proofs.Ytockeedbceopiaa
open Go.RowKit
open Go.Lib
theorem qwriteK_len (s : List Bx) (e : Ev) (ht : e.t.size ≤ 1000) : (writeK s e).length ≤ 2000 := by
  have h1 : e.t.data.toList.length = e.t.size := Array.length_toList
  unfold writeK
  split
  · split
    · simp
    · split <;> simp
  split
  · simp
  split
  · simp
  split
  · exact Nat.le_trans (headB_len _ _) (by decide)
  split
  · rw [List.length_append]
    have := headB_len (if e.k = 3 then 3 else 2) e.t.data.toList.length
    omega
  split
  · simp
  · exact Nat.le_trans (headB_len _ _) (by decide)
theorem qstep_size (q : Kq) (e : Ev) (ht : e.t.size ≤ 1000) : (stepQ q e).1.1.length ≤ 2000 := by
  unfold stepQ
  split
  · simp
  · split
    · split
      · simp
      · split
        · simp
        · dsimp only
          exact qwriteK_len _ _ ht
    · split
      · simp
      · split
        · simp
        · split <;> exact qwriteK_len _ _ ht
/-- In the midst of all parts. -/
structure QAllI (w0 wr : World) (L : List Ev) (j : Nat) (q : Kq) (F : List Nat) (acc : List UInt8) : Prop where
  jw : QW w0 wr w0.heap.size F q
  bld : IsB w0.heap.size (w0.heap.size + 1) acc wr
  eq : allQ ⟨[], false⟩ L = (acc ++ (allQ q (L.drop j)).1, (allQ q (L.drop j)).2)
  len : acc.length ≤ 2000 * j
  dep : dpQ q.s ≤ j
theorem qdrop_at {L : List Ev} {j : Nat} (h : j < L.length) : L.drop j = L[j] :: L.drop (j + 1) := List.drop_eq_getElem_cons h
theorem QAllI.next {w0 wr w3 : World} {L : List Ev} {j : Nat} {q : Kq} {F F' : List Nat} {acc : List UInt8} (h : QAllI w0 wr L j q F acc) (hj : j < L.length) (hm : mayE L[j]) (_ : EvOk L[j]) (ht : L[j].t.size ≤ 1000) (h0 : (stepQ q L[j]).1.2 = 0)
    (hw : QW w0 w3 w0.heap.size F' (stepQ q L[j]).2) (hb : IsB w0.heap.size (w0.heap.size + 1) (acc ++ (stepQ q L[j]).1.1) w3) : QAllI w0 w3 L (j + 1) (stepQ q L[j]).2 F' (acc ++ (stepQ q L[j]).1.1) := by
  have h1 := qstep_size q L[j] ht
  have h2 := qstep_dp q L[j]
  refine ⟨hw, hb, ?_, ?_, ?_⟩
  · have := h.eq
    rw [qdrop_at hj, allQ_cons_ok hm h0] at this
    rw [this]
    simp
  · have := h.len
    rw [List.length_append]
    omega
  · have := h.dep
    omega
set_option maxRecDepth 100000 in
set_option maxHeartbeats 8000000 in
/-- ALL. -/
theorem qall_any (A : Option Addr) (n cp : Nat) (E : Nat → Ev) (w : World) (hn : n ≤ 900) (hE : EvsAt w w.heap.size A n E) (hok : ∀ i, i < n → EvOk (E i) ∧ (E i).t.size ≤ 1000) :
    Calls Try.prog 18 #[.slice A n cp] w fun r w' => r = .returned (.tuple #[.string ⟨(allQ ⟨[], false⟩ (pre E n)).1.toArray⟩, .int .i64 ((allQ ⟨[], false⟩ (pre E n)).2 : Nat)]) ∧ Below w.heap.size w w' := by
  have hLn : (pre E n).length = n := pre_length E n
  have hget : ∀ j (h : j < n) (h' : j < (pre E n).length), (pre E n)[j]'h' = E j := by
    intro j h h'
    simp [pre]
  have HG := Lib.hid hget
  have HL := Lib.hid hLn
  have HE := Lib.hid hE
  have HOK := Lib.hid hok
  obtain ⟨R, hR⟩ : ∃ R, allQ ⟨[], false⟩ (pre E n) = R := ⟨_, rfl⟩
  have HR := Lib.hid hR
  have H0 : Hid (QAllI w ((w.alloc (.cells #[.slice none 0 0, .bool false] 28)).alloc (.cells #[.pointer none, .slice none 0 0] 75)) (pre E n) 0 ⟨[], false⟩ [] []) := Lib.hid ⟨(qw_new w w (Below.refl _ _)).go (up_alloc (Below.refl _ _) _), isB_new _ _ _ (by omega) (by
    have := heap_alloc_new (w.alloc (.cells #[.slice none 0 0, .bool false] 28)) (.cells #[.pointer none, .slice none 0 0] 75)
    simpa using this), by simp, by simp, by simp [dpQ]⟩
  rw [hR]
  clear hget hLn hE hok hR
  generalize pre E n = L at *
  go_enter Try.func18, Try.ntmps18
  go_wp2
  go_loopw [8, 9, 10, 11, 14] (fun _ _ _ _ i wr => ∃ (j : Nat) (q : Kq) (F : List Nat) (acc : List UInt8), i = .int .i64 j ∧ j ≤ n ∧ Hid (QAllI w wr L j q F acc)) (fun _ _ _ _ i _ => n - (RowKit.intOf i).toNat)
  case atStart => exact ⟨0, _, _, _, rfl, by omega, H0⟩
  case round =>
    obtain ⟨j, q, F, acc, rfl, hj, HA⟩ := hrel
    clear H0
    by_cases hlt : j < n
    · have hjL : j < L.length := by rw [HL.out]; exact hlt
      have hLe : L[j] = E j := HG.out j hlt hjL
      have hOKe := HOK.out j hlt
      have HO := Lib.hid (fun W => of_any (E j) W)
      obtain ⟨g, off, rfl, hgb, x0, x1, x2, x3, x4⟩ := (HE.out.below HA.out.jw.bel).cells hlt
      have hgb2 : g < wr.heap.size := Nat.lt_of_lt_of_le hgb HA.out.jw.bel.size
      have hdep : dpQ q.s ≤ 900 := by have := HA.out.dep; omega
      by_cases hm : mayE (E j)
      · rw [if_pos hm, decide_eq_true hm] at HO
        have HS : Hid (∀ W', Below wr.heap.size wr W' → Calls Try.prog 12 #[.pointer (some ⟨w.heap.size, 0, none⟩), valE (E j)] W' fun r w' => r = .returned (.tuple #[.string ⟨(stepQ q (E j)).1.1.toArray⟩, .int .i64 ((stepQ q (E j)).1.2 : Nat)]) ∧ ∃ F', QW w w' w.heap.size F' (stepQ q (E j)).2 ∧ IsB w.heap.size (w.heap.size + 1) acc w') := Lib.hid (fun W' k => by
          refine (qw_step (HA.out.jw.go k) hdep (E j) hm hOKe.1 hOKe.2).mono ?_
          rintro r w' ⟨h1, F', h2, h3⟩
          have hB1 : IsB w.heap.size (w.heap.size + 1) acc W' := isB_off (ts := []) HA.out.bld (fun i c t fr hi _ => by rw [k.block i (Array.getElem?_eq_some_iff.1 hi).1]; exact hi) (by simp) (by simp)
          exact ⟨h1, F', h2, isB_off hB1 ((HA.out.jw.go k).off h3) (by decide) (by decide)⟩)
        have hsz := qstep_size q (E j) hOKe.2
        by_cases h0 : (stepQ q (E j)).1.2 = 0
        · have HN : Hid (∀ w3 F', QW w w3 w.heap.size F' (stepQ q (E j)).2 → IsB w.heap.size (w.heap.size + 1) (acc ++ (stepQ q (E j)).1.1) w3 → QAllI w w3 L (j + 1) (stepQ q (E j)).2 F' (acc ++ (stepQ q (E j)).1.1)) := Lib.hid (fun w3 F' a b => by
            have := HA.out.next (w3 := w3) (F' := F') hjL (by rw [hLe]; exact hm) (by rw [hLe]; exact hOKe.1) (by rw [hLe]; exact hOKe.2) (by rw [hLe]; exact h0) (by rw [hLe]; exact a) (by rw [hLe]; exact b)
            rwa [hLe] at this)
          have hal := HA.out.len
          rw [h0] at HS
          generalize valE (E j) = V at HS HO
          generalize stepQ q (E j) = Q at HS HN hsz h0
          obtain ⟨⟨T, e0⟩, q'⟩ := Q
          simp only at HS HN hsz h0
          obtain ⟨Z, hZ⟩ : ∃ Z : ByteArray, (⟨T.toArray⟩ : ByteArray) = Z := ⟨_, rfl⟩
          have hZl : Z.data.toList = T := by rw [← hZ]
          have hZs : Z.size ≤ 2000 := by rw [← hZ, size_of]; exact hsz
          rw [hZ] at HS
          generalize E j = e at *
          obtain ⟨k, y, m, t, c⟩ := e
          simp only [evV] at x0 x1 x2 x3 x4 HO
          have HZ := Lib.hid hZl
          have HAL := Lib.hid (And.intro hal (And.intro hZs hj))
          clear hLe hOKe hgb hdep hm hsz h0 hZ hZl hZs hal hjL
          go_wp2_with fail
          refine (HO.out _).mono ?_
          rintro r w1 ⟨rfl, b1⟩
          have B1 := Lib.hid (up_trans (up_alloc (Below.refl _ _) _) b1)
          clear b1
          go_wp2_with fail
          refine (HS.out _ B1.out).mono ?_
          rintro r w2 ⟨rfl, F', hj2, hb2⟩
          have H2 := Lib.hid (And.intro hj2 hb2)
          clear hj2 hb2
          go_wp2_with fail
          refine (sb_write w.heap.size (w.heap.size + 1) acc Z w2 H2.out.2 (by have := HAL.out; omega) H2.out.1.bel.size).mono ?_
          rintro r w3 ⟨rfl, i3, b3, k3⟩
          rw [HZ.out] at i3
          have H3 := Lib.hid (HN.out w3 F' (H2.out.1.kept (off_kept H2.out.2 k3) (by decide) (by decide) b3) i3)
          clear i3 b3 k3
          go_wp2
          go_roundw
          case rel => exact ⟨j + 1, _, _, _, rfl, hlt, H3⟩
          case measure => simp [RowKit.intOf]; omega
        · have hR : R = (acc, (stepQ q (E j)).1.2) := by
            have := HA.out.eq
            rw [qdrop_at hjL, hLe, allQ_cons_err hm h0, HR.out] at this
            simpa using this
          have hn' : (((stepQ q (E j)).1.2 : Int) != 0) = true := by simp; omega
          generalize valE (E j) = V at HS HO
          generalize stepQ q (E j) = Q at *
          obtain ⟨⟨T, n0⟩, q'⟩ := Q
          simp only at HS hsz h0 hR hn'
          generalize E j = e at *
          obtain ⟨k, y, m, t, c⟩ := e
          simp only [evV] at x0 x1 x2 x3 x4 HO
          subst hR
          have HAc := Lib.hid HA.out.jw.bel
          generalize (⟨T.toArray⟩ : ByteArray) = Z at HS
          clear hLe hOKe hgb hdep hm hsz h0 hjL
          go_wp2_with fail
          refine (HO.out _).mono ?_
          rintro r w1 ⟨rfl, b1⟩
          have B1 := Lib.hid (up_trans (up_alloc (Below.refl _ _) _) b1)
          clear b1
          go_wp2_with fail
          refine (HS.out _ B1.out).mono ?_
          rintro r w2 ⟨rfl, F', hj2, hb2⟩
          have H2 := Lib.hid (And.intro hj2 hb2)
          clear hj2 hb2
          go_wp2_with fail
          refine (sb_string w.heap.size (w.heap.size + 1) acc w2 H2.out.2 H2.out.1.bel.size).mono ?_
          rintro r w3 ⟨rfl, i3, b3, k3⟩
          have B3 := Lib.hid (H2.out.1.bel.trans b3)
          clear i3 b3 k3
          go_wp2
          go_ret2
          exact ⟨rfl, B3.out⟩
      · have hR : R = (acc, 1) := by
          have := HA.out.eq
          rw [qdrop_at hjL, hLe, allQ_cons_bad hm, HR.out] at this
          simpa using this
        rw [if_neg hm, decide_eq_false hm] at HO
        generalize E j = e at *
        obtain ⟨k, y, m, t, c⟩ := e
        simp only [evV] at x0 x1 x2 x3 x4 HO
        subst hR
        have HBB : Hid (∀ W', Below wr.heap.size wr W' → IsB w.heap.size (w.heap.size + 1) acc W' ∧ Below w.heap.size w W') := Lib.hid (fun W' k => ⟨isB_off (ts := []) HA.out.bld (fun i c t fr hi _ => by rw [k.block i (Array.getElem?_eq_some_iff.1 hi).1]; exact hi) (by simp) (by simp), HA.out.jw.bel.trans (k.mono HA.out.jw.bel.size)⟩)
        clear hLe hOKe hgb hdep hm hjL
        go_wp2_with fail
        refine (HO.out _).mono ?_
        rintro r w1 ⟨rfl, b1⟩
        have B1 := Lib.hid (HBB.out _ (up_trans (up_alloc (Below.refl _ _) _) b1))
        clear b1
        go_wp2_with fail
        refine (sb_string w.heap.size (w.heap.size + 1) acc w1 B1.out.1 B1.out.2.size).mono ?_
        rintro r w3 ⟨rfl, i3, b3, k3⟩
        have B3 := Lib.hid (B1.out.2.trans b3)
        clear i3 b3 k3
        go_wp2
        go_ret2
        exact ⟨rfl, B3.out⟩
    · obtain rfl : j = n := by omega
      have hR : R = (acc, if q.dn = true then 0 else 3) := by
        have := HA.out.eq
        rw [List.drop_of_length_le (by rw [HL.out]; omega), HR.out] at this
        rw [this]
        simp [allQ]
      have HD := Lib.hid (doneQ HA.out.jw.at_)
      have HS := Lib.hid (sb_string w.heap.size (w.heap.size + 1) acc wr HA.out.bld HA.out.jw.bel.size)
      have HB := Lib.hid HA.out.jw.bel
      obtain ⟨D, hD⟩ : ∃ D, q.dn = D := ⟨_, rfl⟩
      rw [hD] at hR HD
      clear hD
      cases D with
      | true =>
        obtain rfl : R = (acc, 0) := hR
        go_wp2_with fail
        refine HD.out.mono ?_
        rintro r w1 ⟨rfl, rfl⟩
        go_wp2_with fail
        refine HS.out.mono ?_
        rintro r w3 ⟨rfl, i3, b3, k3⟩
        have B3 := Lib.hid (HB.out.trans b3)
        clear i3 b3 k3
        go_wp2
        go_ret2
        exact ⟨rfl, B3.out⟩
      | false =>
        obtain rfl : R = (acc, 3) := hR
        go_wp2_with fail
        refine HD.out.mono ?_
        rintro r w1 ⟨rfl, rfl⟩
        go_wp2_with fail
        refine HS.out.mono ?_
        rintro r w3 ⟨rfl, i3, b3, k3⟩
        have B3 := Lib.hid (HB.out.trans b3)
        clear i3 b3 k3
        go_wp2
        go_ret2
        exact ⟨rfl, B3.out⟩
end Go.Proofs.Ytockeedbceopiaa
/-
  LAWS of chapter 14: the first call (alive); CboroutWholes, CboroutTexts.
-/
namespace Go.Proofs.Ytockeedbceopiaa
open Go.RowKit
open Go.Lib
theorem qall_win {w : World} {a : Option Addr} {m cap : Nat} {T : TypeId} {L : List Ev} (h : Win w T 5 (.slice a m cap) m (evsC L)) (hm : L.length = m) (hn : m ≤ 900) (hok : ∀ e ∈ L, EvOk e ∧ e.t.size ≤ 1000) :
    Calls Try.prog 18 #[.slice a m cap] w fun r w' => r = .returned (.tuple #[.string ⟨(allQ ⟨[], false⟩ L).1.toArray⟩, .int .i64 ((allQ ⟨[], false⟩ L).2 : Nat)]) ∧ Below w.heap.size w w' := by
  subst hm
  have := qall_any a L.length cap (getE L) w hn (evs_win h (Nat.le_refl _)) (fun i hi => by
    have : getE L i = L[i] := by simp [getE, hi]
    rw [this]
    exact hok _ (List.getElem_mem hi))
  rwa [pre_getE] at this
def qList : List Ev := [⟨5, false, 0, ⟨#[]⟩, 1⟩, ⟨1, true, 0, ⟨#[]⟩, 0⟩, ⟨7, false, 0, ⟨#[]⟩, 0⟩]
theorem q_list : evsC qList = [.int .i64 5, .bool false, .int .u64 0, .string ⟨#[]⟩, .int .i64 1, .int .i64 1, .bool true, .int .u64 0, .string ⟨#[]⟩, .int .i64 0, .int .i64 7, .bool false, .int .u64 0, .string ⟨#[]⟩, .int .i64 0] := rfl
theorem q_ok : ∀ e ∈ qList, EvOk e ∧ e.t.size ≤ 1000 := by
  intro e he
  simp only [qList, List.mem_cons, List.not_mem_nil, or_false] at he
  rcases he with rfl | rfl | rfl
  all_goals exact ⟨⟨by constructor <;> simp, by simp, by constructor <;> simp, by decide⟩, by decide⟩
theorem q_all : allQ ⟨[], false⟩ qList = ([129, 245], 0) := by decide +kernel
set_option maxRecDepth 100000 in
set_option maxHeartbeats 2000000 in
theorem qalive_any (w : World) : Calls Try.prog 10 #[] w fun e w' => e = .returned (.bool true) ∧ Below w.heap.size w w' := by
  have hC : Calls Try.prog 18 #[.slice (some ⟨w.heap.size, 0, none⟩) 3 3] (w.alloc (.cells (evsC qList).toArray 35)) fun r w' => r = .returned (.tuple #[.string ⟨#[129, 245]⟩, .int .i64 0]) ∧ Below (w.alloc (.cells (evsC qList).toArray 35)).heap.size (w.alloc (.cells (evsC qList).toArray 35)) w' := by
    have := qall_win (win_list w qList 35 3 rfl (by omega)) rfl (by omega) q_ok
    rwa [q_all] at this
  rw [q_list] at hC
  have HC := Lib.hid hC
  clear hC
  go_enter Try.func10, Try.ntmps10
  go_wp2_with fail
  refine HC.out.mono ?_
  rintro e w1 ⟨rfl, b1⟩
  have B1 := Lib.hid (up_trans (up_alloc (Below.refl _ _) _) b1)
  clear b1
  go_wp2
  go_ret
  exact ⟨rfl, B1.out⟩
/-- One part. -/
theorem qall_one (e : Ev) (hok : EvOk e) (ht : e.t.size ≤ 1000) (bs : List UInt8) (n : Nat) (h : allQ ⟨[], false⟩ [e] = (bs, n)) (W : World) :
    Calls Try.prog 18 #[.slice (some ⟨W.heap.size, 0, none⟩) 1 1] (W.alloc (.cells (evsC [e]).toArray 35)) fun r w' => r = .returned (.tuple #[.string ⟨bs.toArray⟩, .int .i64 (n : Nat)]) ∧ Below (W.alloc (.cells (evsC [e]).toArray 35)).heap.size (W.alloc (.cells (evsC [e]).toArray 35)) w' := by
  have := qall_win (win_list W [e] 35 1 rfl (by omega)) rfl (by omega) (fun x hx => by
    simp only [List.mem_singleton] at hx
    subst hx
    exact ⟨hok, ht⟩)
  rwa [h] at this
/-- The same, at a world whose size is spelled otherwise. -/
theorem qall_one_at (e : Ev) (hok : EvOk e) (ht : e.t.size ≤ 1000) (bs : List UInt8) (n : Nat) (h : allQ ⟨[], false⟩ [e] = (bs, n)) (W : World) (m : Nat) (hm : W.heap.size = m) :
    Calls Try.prog 18 #[.slice (some ⟨m, 0, none⟩) 1 1] (W.alloc (.cells (evsC [e]).toArray 35)) fun r w' => r = .returned (.tuple #[.string ⟨bs.toArray⟩, .int .i64 (n : Nat)]) ∧ Below W.heap.size W w' := by
  subst hm
  refine (qall_one e hok ht bs n h W).mono ?_
  rintro r w' ⟨h1, h2⟩
  exact ⟨h1, up_trans (up_alloc (Below.refl _ _) _) h2⟩
set_option maxRecDepth 100000 in
set_option maxHeartbeats 2000000 in
theorem qwholes_row (y : Bool) (m : Nat) (hm : m < 18446744073709551616) (w : World) :
    Calls Try.prog 7 #[.agg #[.bool y, .int .u64 m]] w fun e w' => e = .returned (.bool true) ∧ Below w.heap.size w w' := by
  have HA := Lib.hid (fun W => qalive_any W)
  have HC := Lib.hid (fun W => qall_one ⟨2, y, m, ⟨#[]⟩, 0⟩ ⟨by constructor <;> simp, hm, by constructor <;> simp, by show 0 ≤ _; omega⟩ (by show 0 ≤ _; omega) _ _ (wholes_all y m) W)
  rw [show evsC [(⟨2, y, m, ⟨#[]⟩, 0⟩ : Ev)] = [.int .i64 2, .bool y, .int .u64 m, .string ⟨#[]⟩, .int .i64 0] from rfl] at HC
  cases y
  · have HR := Lib.hid (fun W => rhead_any 0 m hm W)
    rw [show ((0 : Int) % 8).toNat = 0 from rfl] at HR
    simp only [Bool.false_eq_true, if_false] at HC
    generalize (⟨(headB 0 m).toArray⟩ : ByteArray) = Z at *
    have he : (Z.toList == Z.toList) = true := by simp
    have EB : ∀ W, Below (w.alloc (.cells #[.bool false, .int .u64 m] 54)).heap.size (w.alloc (.cells #[.bool false, .int .u64 m] 54)) W → W.cell? ⟨w.heap.size, 0, none⟩ = some (.bool false) ∧ W.cell? ⟨w.heap.size, 1, none⟩ = some (.int .u64 m) := fun W k => by
      have hb := (blk_new w #[.bool false, .int .u64 m] 54).go k
      exact ⟨hb.cell 0, hb.cell 1⟩
    have EB := Lib.hid EB
    go_enter Try.func7, Try.ntmps7
    go_wp2_with fail
    refine (HA.out _).mono ?_
    rintro e w1 ⟨rfl, b1⟩
    have B1 := Lib.hid b1
    obtain ⟨c0, c1⟩ := EB.out _ b1
    clear b1
    go_wp2_with fail
    refine (HC.out _).mono ?_
    rintro e w2 ⟨rfl, b2⟩
    have B2 := Lib.hid (up_trans (up_alloc B1.out _) b2)
    obtain ⟨d0, d1⟩ := EB.out _ B2.out
    clear b2
    go_wp2_with fail
    refine (HR.out _).mono ?_
    rintro e w3 ⟨rfl, b3⟩
    have B3 := Lib.hid (up_trans B2.out b3)
    clear b3
    go_wp2
    go_ret
    exact ⟨rfl, up_trans (up_alloc (Below.refl _ _) _) B3.out⟩
  · have HR := Lib.hid (fun W => rhead_any 1 m hm W)
    rw [show ((1 : Int) % 8).toNat = 1 from rfl] at HR
    simp only [if_true] at HC
    generalize (⟨(headB 1 m).toArray⟩ : ByteArray) = Z at *
    have he : (Z.toList == Z.toList) = true := by simp
    have EB : ∀ W, Below (w.alloc (.cells #[.bool true, .int .u64 m] 54)).heap.size (w.alloc (.cells #[.bool true, .int .u64 m] 54)) W → W.cell? ⟨w.heap.size, 0, none⟩ = some (.bool true) ∧ W.cell? ⟨w.heap.size, 1, none⟩ = some (.int .u64 m) := fun W k => by
      have hb := (blk_new w #[.bool true, .int .u64 m] 54).go k
      exact ⟨hb.cell 0, hb.cell 1⟩
    have EB := Lib.hid EB
    go_enter Try.func7, Try.ntmps7
    go_wp2_with fail
    refine (HA.out _).mono ?_
    rintro e w1 ⟨rfl, b1⟩
    have B1 := Lib.hid b1
    obtain ⟨c0, c1⟩ := EB.out _ b1
    clear b1
    go_wp2_with fail
    refine (HC.out _).mono ?_
    rintro e w2 ⟨rfl, b2⟩
    have B2 := Lib.hid (up_trans (up_alloc B1.out _) b2)
    obtain ⟨d0, d1⟩ := EB.out _ B2.out
    clear b2
    go_wp2_with fail
    refine (HR.out _).mono ?_
    rintro e w3 ⟨rfl, b3⟩
    have B3 := Lib.hid (up_trans B2.out b3)
    clear b3
    go_wp2
    go_ret
    exact ⟨rfl, up_trans (up_alloc (Below.refl _ _) _) B3.out⟩
end Go.Proofs.Ytockeedbceopiaa
/-
  LAWS of chapter 14: CboroutTexts.
-/
namespace Go.Proofs.Ytockeedbceopiaa
open Go.RowKit
open Go.Lib
set_option maxRecDepth 100000 in
set_option maxHeartbeats 4000000 in
theorem qtexts_row (t : ByteArray) (y : Bool) (w : World) :
    Calls Try.prog 9 #[.string t, .bool y] w fun e w' => e = .returned (.bool true) ∧ Below w.heap.size w w' := by
  have HA := Lib.hid (fun W => qalive_any W)
  by_cases hx : t.size ≤ 300
  · have c1 : ((300 : Int) < (t.size : Int)) = False := by simp; omega
    have hl : t.data.toList.length = t.size := Array.length_toList
    have hw : IntKind.u64.wrap (t.size : Int) = (t.size : Int) := by simp only [IntKind.wrap_u64]; omega
    have hcat : ∀ j, (⟨(headB j t.data.toList.length ++ t.data.toList).toArray⟩ : ByteArray) = ⟨(headB j t.size).toArray⟩ ++ t := by
      intro j
      rw [hl, ← cat_of]
    have hsz : ∀ j, (⟨(headB j t.size).toArray⟩ : ByteArray).size ≤ 9 := fun j => by rw [size_of]; exact headB_len j t.size
    have ok : ∀ k : Int, 0 ≤ k ∧ k ≤ 7 → EvOk ⟨k, false, 0, t, 0⟩ := fun k hk => ⟨by constructor <;> (simp only; omega), by simp, by constructor <;> simp, by show t.size ≤ _; omega⟩
    cases y
    · have HC := Lib.hid (fun W m hm => qall_one_at ⟨3, false, 0, t, 0⟩ (ok 3 (by omega)) (by show t.size ≤ _; omega) _ _ (texts_all true t) W m hm)
      rw [show evsC [(⟨3, false, 0, t, 0⟩ : Ev)] = [.int .i64 3, .bool false, .int .u64 0, .string t, .int .i64 0] from rfl] at HC
      simp only [if_true] at HC
      rw [hcat 3] at HC
      have HR := Lib.hid (fun W => rhead_any 3 t.size (by omega) W)
      rw [show ((3 : Int) % 8).toNat = 3 from rfl] at HR
      have hsz := hsz 3
      generalize (⟨(headB 3 t.size).toArray⟩ : ByteArray) = Z at *
      have z1 : ¬ 9223372036854775807 < Z.size + t.size := by omega
      have he : ((Z ++ t).toList == (Z ++ t).toList) = true := by simp
      clear hcat hsz ok hl hx
      go_enter Try.func9, Try.ntmps9
      go_wp2_with fail
      refine (HA.out _).mono ?_
      rintro e w1 ⟨rfl, b1⟩
      have B1 := Lib.hid (up_alloc b1 (.cells #[.int .i64 3, .bool false, .int .u64 0, .string t, .int .i64 0] 35))
      clear b1
      go_wp2_with fail
      refine (HC.out _ _ (by simp)).mono ?_
      rintro e w2 ⟨rfl, b2⟩
      have B2 := Lib.hid (up_trans B1.out b2)
      clear b2
      go_wp2_with fail
      refine (HR.out _).mono ?_
      rintro e w3 ⟨rfl, b3⟩
      have B3 := Lib.hid (up_trans B2.out b3)
      clear b3
      go_wp2
      go_ret
      exact ⟨rfl, B3.out⟩
    · have HC := Lib.hid (fun W m hm => qall_one_at ⟨4, false, 0, t, 0⟩ (ok 4 (by omega)) (by show t.size ≤ _; omega) _ _ (texts_all false t) W m hm)
      rw [show evsC [(⟨4, false, 0, t, 0⟩ : Ev)] = [.int .i64 4, .bool false, .int .u64 0, .string t, .int .i64 0] from rfl] at HC
      simp only [Bool.false_eq_true, if_false] at HC
      rw [hcat 2] at HC
      have HR := Lib.hid (fun W => rhead_any 2 t.size (by omega) W)
      rw [show ((2 : Int) % 8).toNat = 2 from rfl] at HR
      have hsz := hsz 2
      generalize (⟨(headB 2 t.size).toArray⟩ : ByteArray) = Z at *
      have z1 : ¬ 9223372036854775807 < Z.size + t.size := by omega
      have he : ((Z ++ t).toList == (Z ++ t).toList) = true := by simp
      clear hcat hsz ok hl hx
      go_enter Try.func9, Try.ntmps9
      go_wp2_with fail
      refine (HA.out _).mono ?_
      rintro e w1 ⟨rfl, b1⟩
      have B1 := Lib.hid b1
      clear b1
      go_wp2_with fail
      refine (HC.out _ _ (by simp)).mono ?_
      rintro e w2 ⟨rfl, b2⟩
      have B2 := Lib.hid b2
      clear b2
      go_wp2_with fail
      refine (HR.out _).mono ?_
      rintro e w3 ⟨rfl, b3⟩
      have B3 := Lib.hid b3
      clear b3
      go_wp2
      go_ret
      exact ⟨rfl, up_trans (up_trans (up_alloc B1.out _) B2.out) B3.out⟩
  · have c1 : ((300 : Int) < (t.size : Int)) = True := by simp; omega
    clear hx
    go_enter Try.func9, Try.ntmps9
    go_wp2_with fail
    refine (HA.out _).mono ?_
    rintro e w1 ⟨rfl, b1⟩
    have B1 := Lib.hid b1
    clear b1
    go_wp2
    go_ret
    exact ⟨rfl, B1.out⟩
end Go.Proofs.Ytockeedbceopiaa
/-
  CONTRACT of the document's own Writer, for CBOR: any part, whether it may be or not, as the machine of CoutPure.
-/
namespace Go.Proofs.Ytockeedbceopiaa
open Go.RowKit
open Go.Lib
theorem writeK_size {e : Ev} (hk : 0 ≤ e.k ∧ e.k < 5) (ht : e.t.size ≤ 1000) : (⟨(writeK [] e).toArray⟩ : ByteArray).size ≤ 100000 := by
  have h1 : e.t.data.toList.length = e.t.size := Array.length_toList
  rw [size_of]
  unfold writeK
  rw [if_neg (by omega)]
  split
  · simp
  split
  · simp
  split
  · exact Nat.le_trans (headB_len _ _) (by decide)
  split
  · rw [List.length_append]
    have := headB_len (if e.k = 3 then 3 else 2) e.t.data.toList.length
    omega
  split
  · simp
  · exact Nat.le_trans (headB_len _ _) (by decide)
/-- A value that is no container. -/
theorem wk_plain {M B b : Nat} {w : World} {s : List Bx} (hH : HeadK) (h : WkAt M B w b s false) (hM : M + 1 ≤ 1000) (e : Ev) (hk : e.k = 0 ∨ e.k = 1 ∨ e.k = 2 ∨ e.k = 3 ∨ e.k = 4) (hm : e.m < 18446744073709551616) (ht : e.t.size ≤ 1000) (hf : fulT s = false) (hkey : ¬ (keyB s = true ∧ e.k ≠ 3)) :
    Calls Try.prog 13 #[.pointer (some ⟨b, 0, none⟩), evV e] w fun q w' => q = .returned (.tuple #[.string ⟨(writeK s e).toArray⟩, .int .i64 0]) ∧ WkAt (M + 1) B w' b (incB s) s.isEmpty ∧ Bew B b w w' := by
  rw [writeK_any (by omega) s]
  have hP := rplain_w hH e (by omega) (by omega) hm ht
  have hX := writeK_size (e := e) (by omega) ht
  generalize (⟨(writeK [] e).toArray⟩ : ByteArray) = X at hP hX ⊢
  match s, h, hf, hkey with
  | [], h, _, _ =>
    refine (wk_val0 h e hk X hX hP).mono ?_
    rintro q w' ⟨rfl, h1, h2⟩
    exact ⟨rfl, h1.up (by omega) hM, h2⟩
  | ⟨false, bc, bh⟩ :: r, h, hf, hkey =>
    simp only [fulT, decide_eq_false_iff_not, Bool.false_eq_true, if_false] at hf
    by_cases hb : bc < 0
    · exact (wk_v1 h hM e hk hkey X hX hb hP).mono (fun q w' h => h)
    · by_cases hg : bc ≤ 2305843009213693952
      · exact (wk_v2 h hM e hk hkey X hX (by omega) hg (by omega) hP).mono (fun q w' h => h)
      · exact (wk_v2g h hM e hk hkey X hX (by omega) hP).mono (fun q w' h => h)
  | ⟨true, bc, bh⟩ :: r, h, hf, hkey =>
    simp only [fulT, decide_eq_false_iff_not, if_true] at hf
    by_cases ho : bh % 2 = 1
    · by_cases hb : bc < 0
      · exact (wk_v3 h hM e hk hkey X hX hb ho hP).mono (fun q w' h => h)
      · by_cases hg : bc ≤ 2305843009213693952
        · exact (wk_v4 h hM e hk hkey X hX (by omega) hg (by omega) ho hP).mono (fun q w' h => h)
        · exact (wk_v4g h hM e hk hkey X hX (by omega) ho hP).mono (fun q w' h => h)
    · have he0 : bh % 2 = 0 := by omega
      have hk3 : e.k = 3 := by
        by_cases h3 : e.k = 3
        · exact h3
        · exact absurd ⟨by simp [keyB, he0], h3⟩ hkey
      by_cases hb : bc < 0
      · exact (wk_v5 h hM e hk hkey X hX hb he0 hk3 hP).mono (fun q w' h => h)
      · by_cases hg : bc ≤ 2305843009213693952
        · exact (wk_v6 h hM e hk hkey X hX (by omega) hg (by omega) he0 hk3 hP).mono (fun q w' h => h)
        · exact (wk_v6g h hM e hk hkey X hX (by omega) he0 hk3 hP).mono (fun q w' h => h)
/-- A container begins. -/
theorem wk_begin {M B b : Nat} {w : World} {s : List Bx} (hH : HeadK) (h : WkAt M B w b s false) (hM : M + 1 ≤ 1000) (k : Int) (hk : k = 5 ∨ k = 6) (y : Bool) (m : Nat) (t : ByteArray) (c : Int) (hc : -1 ≤ c ∧ c ≤ 9223372036854775807) (hf : fulT s = false) (hkey : keyB s = false) (hd : s.length < 800) :
    Calls Try.prog 13 #[.pointer (some ⟨b, 0, none⟩), evV ⟨k, y, m, t, c⟩] w fun q w' => q = .returned (.tuple #[.string ⟨(writeK s ⟨k, y, m, t, c⟩).toArray⟩, .int .i64 0]) ∧ WkAt (M + 1) B w' b (⟨decide (k = 6), c, 0⟩ :: incB s) false ∧ Bew B b w w' := by
  have hodd : ∀ bc bh r, s = (⟨true, bc, bh⟩ : Bx) :: r → bh % 2 = 1 := by
    rintro bc bh r rfl
    simp [keyB] at hkey
    omega
  have hHd : 0 ≤ c → ∀ n : Int, ∀ W, Calls Try.prog 22 #[.int .i64 n, .int .u64 c] W fun r w' => r = .returned (.string ⟨(headB (n % 8).toNat c.toNat).toArray⟩) ∧ Below W.heap.size W w' := by
    intro h0 n W
    have := hH n c.toNat (by omega) W
    rwa [Int.toNat_of_nonneg h0] at this
  have hXs : ∀ j n : Nat, (⟨(headB j n).toArray⟩ : ByteArray).size ≤ 100000 := by
    intro j n
    rw [size_of]
    exact Nat.le_trans (headB_len _ _) (by decide)
  rw [writeK_any (e := ⟨k, y, m, t, c⟩) (by simp only; omega) s]
  by_cases hn : c < 0
  · have hw : writeK [] ⟨k, y, m, t, c⟩ = [if k = 6 then 191 else 159] := by
      unfold writeK
      simp only
      rw [if_neg (by omega), if_neg (by omega), if_neg (by omega), if_neg (by omega), if_neg (by omega), if_pos hn]
    rw [hw]
    match s, h, hf, hd, hodd with
    | [], h, _, _, _ =>
      rcases hk with rfl | rfl
      · refine (wk_open0_5n h y m t c hc hn).mono ?_
        rintro q w' ⟨rfl, h1, h2⟩
        exact ⟨rfl, h1.up (by omega) hM, h2⟩
      · refine (wk_open0_6n h y m t c hc hn).mono ?_
        rintro q w' ⟨rfl, h1, h2⟩
        exact ⟨rfl, h1.up (by omega) hM, h2⟩
    | ⟨false, bc, bh⟩ :: r, h, hf, hd, _ =>
      simp only [fulT, decide_eq_false_iff_not, Bool.false_eq_true, if_false] at hf
      simp only [List.length_cons] at hd
      by_cases hb : bc < 0
      · rcases hk with rfl | rfl
        · exact (wk_oan_5n h hM hd y m t c hc hn hb).mono (fun q w' h => h)
        · exact (wk_oan_6n h hM hd y m t c hc hn hb).mono (fun q w' h => h)
      · by_cases hg : bc ≤ 2305843009213693952
        · rcases hk with rfl | rfl
          · exact (wk_oac_5n h hM hd y m t c hc hn (by omega) hg (by omega)).mono (fun q w' h => h)
          · exact (wk_oac_6n h hM hd y m t c hc hn (by omega) hg (by omega)).mono (fun q w' h => h)
        · rcases hk with rfl | rfl
          · exact (wk_oag_5n h hM hd y m t c hc hn (by omega)).mono (fun q w' h => h)
          · exact (wk_oag_6n h hM hd y m t c hc hn (by omega)).mono (fun q w' h => h)
    | ⟨true, bc, bh⟩ :: r, h, hf, hd, hodd =>
      have ho := hodd bc bh r rfl
      simp only [fulT, decide_eq_false_iff_not, if_true] at hf
      simp only [List.length_cons] at hd
      by_cases hb : bc < 0
      · rcases hk with rfl | rfl
        · exact (wk_omn_5n h hM hd y m t c hc hn hb ho).mono (fun q w' h => h)
        · exact (wk_omn_6n h hM hd y m t c hc hn hb ho).mono (fun q w' h => h)
      · by_cases hg : bc ≤ 2305843009213693952
        · rcases hk with rfl | rfl
          · exact (wk_omc_5n h hM hd y m t c hc hn (by omega) hg (by omega) ho).mono (fun q w' h => h)
          · exact (wk_omc_6n h hM hd y m t c hc hn (by omega) hg (by omega) ho).mono (fun q w' h => h)
        · rcases hk with rfl | rfl
          · exact (wk_omg_5n h hM hd y m t c hc hn (by omega) ho).mono (fun q w' h => h)
          · exact (wk_omg_6n h hM hd y m t c hc hn (by omega) ho).mono (fun q w' h => h)
  · have hw : writeK [] ⟨k, y, m, t, c⟩ = headB (if k = 6 then 5 else 4) c.toNat := by
      unfold writeK
      simp only
      rw [if_neg (by omega), if_neg (by omega), if_neg (by omega), if_neg (by omega), if_neg (by omega), if_neg hn]
    rw [hw]
    have hp : 0 ≤ c := by omega
    have h4 := hHd hp 4
    have h5 := hHd hp 5
    rw [show ((4 : Int) % 8).toNat = 4 from rfl] at h4
    rw [show ((5 : Int) % 8).toNat = 5 from rfl] at h5
    match s, h, hf, hd, hodd with
    | [], h, _, _, _ =>
      rcases hk with rfl | rfl
      · refine (wk_open0_5c h y m t c hc hp _ (hXs 4 _) h4).mono ?_
        rintro q w' ⟨rfl, h1, h2⟩
        exact ⟨rfl, h1.up (by omega) hM, h2⟩
      · refine (wk_open0_6c h y m t c hc hp _ (hXs 5 _) h5).mono ?_
        rintro q w' ⟨rfl, h1, h2⟩
        exact ⟨rfl, h1.up (by omega) hM, h2⟩
    | ⟨false, bc, bh⟩ :: r, h, hf, hd, _ =>
      simp only [fulT, decide_eq_false_iff_not, Bool.false_eq_true, if_false] at hf
      simp only [List.length_cons] at hd
      by_cases hb : bc < 0
      · rcases hk with rfl | rfl
        · exact (wk_oan_5c h hM hd y m t c hc hp _ (hXs 4 _) h4 hb).mono (fun q w' h => h)
        · exact (wk_oan_6c h hM hd y m t c hc hp _ (hXs 5 _) h5 hb).mono (fun q w' h => h)
      · by_cases hg : bc ≤ 2305843009213693952
        · rcases hk with rfl | rfl
          · exact (wk_oac_5c h hM hd y m t c hc hp _ (hXs 4 _) h4 (by omega) hg (by omega)).mono (fun q w' h => h)
          · exact (wk_oac_6c h hM hd y m t c hc hp _ (hXs 5 _) h5 (by omega) hg (by omega)).mono (fun q w' h => h)
        · rcases hk with rfl | rfl
          · exact (wk_oag_5c h hM hd y m t c hc hp _ (hXs 4 _) h4 (by omega)).mono (fun q w' h => h)
          · exact (wk_oag_6c h hM hd y m t c hc hp _ (hXs 5 _) h5 (by omega)).mono (fun q w' h => h)
    | ⟨true, bc, bh⟩ :: r, h, hf, hd, hodd =>
      have ho := hodd bc bh r rfl
      simp only [fulT, decide_eq_false_iff_not, if_true] at hf
      simp only [List.length_cons] at hd
      by_cases hb : bc < 0
      · rcases hk with rfl | rfl
        · exact (wk_omn_5c h hM hd y m t c hc hp _ (hXs 4 _) h4 hb ho).mono (fun q w' h => h)
        · exact (wk_omn_6c h hM hd y m t c hc hp _ (hXs 5 _) h5 hb ho).mono (fun q w' h => h)
      · by_cases hg : bc ≤ 2305843009213693952
        · rcases hk with rfl | rfl
          · exact (wk_omc_5c h hM hd y m t c hc hp _ (hXs 4 _) h4 (by omega) hg (by omega) ho).mono (fun q w' h => h)
          · exact (wk_omc_6c h hM hd y m t c hc hp _ (hXs 5 _) h5 (by omega) hg (by omega) ho).mono (fun q w' h => h)
        · rcases hk with rfl | rfl
          · exact (wk_omg_5c h hM hd y m t c hc hp _ (hXs 4 _) h4 (by omega) ho).mono (fun q w' h => h)
          · exact (wk_omg_6c h hM hd y m t c hc hp _ (hXs 5 _) h5 (by omega) ho).mono (fun q w' h => h)
/-- ANY PART. -/
theorem wk_any {M B b : Nat} {w : World} {s : List Bx} {dn : Bool} (hH : HeadK) (h : WkAt M B w b s dn) (hM : M + 1 ≤ 1000) (hd : s.length < 800) (e : Ev) (hok : EvOk e) (ht : e.t.size ≤ 1000) :
    Calls Try.prog 13 #[.pointer (some ⟨b, 0, none⟩), evV e] w fun q w' => q = .returned (.tuple #[.string ⟨(stepQ ⟨s, dn⟩ e).1.1.toArray⟩, .int .i64 (stepQ ⟨s, dn⟩ e).1.2]) ∧ WkAt (M + 1) B w' b (stepQ ⟨s, dn⟩ e).2.s (stepQ ⟨s, dn⟩ e).2.dn ∧ Bew B b w w' := by
  have up : ∀ {s' : List Bx} {dn' : Bool} {w' : World}, WkAt M B w' b s' dn' → WkAt (M + 1) B w' b s' dn' := fun h => h.up (by omega) hM
  by_cases hm : mayE e
  · cases dn with
    | true =>
      rw [stepQ_bad ⟨s, true⟩ e (.inr rfl)]
      refine (wk_over h e hm).mono ?_
      rintro q w' ⟨rfl, h1, h2⟩
      exact ⟨rfl, up h1, h2⟩
    | false =>
      by_cases h7 : e.k = 7
      · cases s with
        | nil =>
          rw [stepQ_none hm h7]
          obtain ⟨k, y, m, t, c⟩ := e
          obtain rfl : k = 7 := h7
          refine (wk_end0 h y m t c).mono ?_
          rintro q w' ⟨rfl, h1, h2⟩
          exact ⟨rfl, up h1, h2⟩
        | cons bx r =>
          obtain ⟨_, _, _, hS⟩ := h.cells
          have hbok := hS.ok bx (by simp)
          have hb1 : bx.have_ ≤ 1000 := Nat.le_trans hbok.2 hS.most
          by_cases hsh : shutB bx
          · rw [stepQ_shut hm h7 hsh]
            obtain ⟨k, y, m, t, c⟩ := e
            obtain rfl : k = 7 := h7
            obtain ⟨bm, bc, bh⟩ := bx
            have fin : ∀ (q : Ending) w', (q = .returned (.tuple #[.string ⟨#[]⟩, .int .i64 14]) ∧ WkAt M B w' b ((⟨bm, bc, bh⟩ : Bx) :: r) false ∧ Bew B b w w') → (q = .returned (.tuple #[.string ⟨([] : List UInt8).toArray⟩, .int .i64 ((14 : Nat) : Int)]) ∧ WkAt (M + 1) B w' b ((⟨bm, bc, bh⟩ : Bx) :: r) false ∧ Bew B b w w') := by
              rintro q w' ⟨rfl, h1, h2⟩
              exact ⟨rfl, up h1, h2⟩
            cases bm with
            | true =>
              by_cases ho : bh % 2 = 1
              · exact (wk_odd h y m t c ho).mono fin
              · rcases hsh with ⟨h1, h2⟩ | ⟨_, h2⟩
                · exact (wk_shutM h y m t c (by omega) ⟨h1, hbok.1.2⟩ (by simpa using h2)).mono fin
                · exact absurd h2 ho
            | false =>
              rcases hsh with ⟨h1, h2⟩ | ⟨h1, _⟩
              · exact (wk_shutA h y m t c h1 (by simpa using h2)).mono fin
              · cases h1
          · rw [stepQ_end hm h7 hsh]
            have hcc : bx.c ≤ 1000000 := by
              by_cases h0 : 0 ≤ bx.c
              · by_cases h2 : (bx.have_ : Int) = if bx.map = true then 2 * bx.c else bx.c
                · split at h2 <;> omega
                · exact absurd (.inl ⟨h0, h2⟩) hsh
              · omega
            obtain ⟨k, y, m, t, c⟩ := e
            obtain rfl : k = 7 := h7
            refine (wk_end h y m t c hsh hcc).mono ?_
            rintro q w' ⟨rfl, h1, h2⟩
            have hr : decide (r = []) = r.isEmpty := by cases r <;> rfl
            rw [hr] at h1
            exact ⟨rfl, up h1, h2⟩
      · by_cases hf : fulT s = true
        · rw [stepQ_full hm h7 hf]
          match s, h, hf with
          | ⟨bm, bc, bh⟩ :: r, h, hf =>
            simp only [fulT, decide_eq_true_eq] at hf
            cases bm with
            | false =>
              refine (wk_fullA h e hm h7 hf.1 (by simpa using hf.2)).mono ?_
              rintro q w' ⟨rfl, h1, h2⟩
              exact ⟨rfl, up h1, h2⟩
            | true =>
              refine (wk_fullM h e hm h7 hf.1 (by simpa using hf.2)).mono ?_
              rintro q w' ⟨rfl, h1, h2⟩
              exact ⟨rfl, up h1, h2⟩
        · have hf : fulT s = false := by simpa using hf
          by_cases hk : keyB s = true ∧ e.k ≠ 3
          · rw [stepQ_key hm h7 hf hk.1 hk.2]
            obtain ⟨hk1, h3⟩ := hk
            match s, h, hk1, hf with
            | ⟨false, _, _⟩ :: _, _, hk1, _ => simp [keyB] at hk1
            | ⟨true, bc, bh⟩ :: r, h, hk1, hf =>
              have he0 : bh % 2 = 0 := by simpa [keyB] using hk1
              simp only [fulT, decide_eq_false_iff_not, if_true] at hf
              have fin : ∀ (q : Ending) w', (q = .returned (.tuple #[.string ⟨#[]⟩, .int .i64 8]) ∧ WkAt M B w' b ((⟨true, bc, bh⟩ : Bx) :: r) false ∧ Bew B b w w') → (q = .returned (.tuple #[.string ⟨([] : List UInt8).toArray⟩, .int .i64 ((8 : Nat) : Int)]) ∧ WkAt (M + 1) B w' b ((⟨true, bc, bh⟩ : Bx) :: r) false ∧ Bew B b w w') := by
                rintro q w' ⟨rfl, h1, h2⟩
                exact ⟨rfl, up h1, h2⟩
              by_cases hb : bc < 0
              · exact (wk_nokeyN h e hm h7 h3 he0 hb).mono fin
              · by_cases hg : bc ≤ 2305843009213693952
                · exact (wk_nokeyC h e hm h7 h3 he0 (by omega) hg (by omega)).mono fin
                · exact (wk_nokeyG h e hm h7 h3 he0 (by omega)).mono fin
          · by_cases h56 : e.k = 5 ∨ e.k = 6
            · have hkf : keyB s = false := by
                cases hq : keyB s with
                | false => rfl
                | true => exact absurd ⟨hq, by omega⟩ hk
              rw [stepQ_open hm h56 hf hkf]
              obtain ⟨k, y, m, t, c⟩ := e
              have hcc : -1 ≤ c := hm.2.2 h56
              exact wk_begin hH h hM k h56 y m t c ⟨hcc, hok.2.2.1.2⟩ hf hkf hd
            · rw [stepQ_val hm h7 h56 hf hk]
              have h8 := hm.1
              have h9 := hm.2.1
              exact wk_plain hH h hM e (by omega) hok.2.1 ht hf hk
  · rw [stepQ_bad ⟨s, dn⟩ e (.inl hm)]
    refine (wk_none h e hm).mono ?_
    rintro q w' ⟨rfl, h1, h2⟩
    exact ⟨rfl, up h1, h2⟩
end Go.Proofs.Ytockeedbceopiaa
/-
  CONTRACTS of the book's documents out of numbers: every item, to the depth asked.
-/
namespace Go.Proofs.Ytockeedbceopiaa
open Go.RowKit
open Go.Lib
theorem plain_ok {D n cp at_ m bl bd bo ba bn bi : Nat} (d : Nat) {A : Option Addr} {L : Nat → Int} {W w : World} {v : Value} {out : List Ev} (h : DS W A n cp L D bl bd bo ba bn bi w v m out at_) (h1 : at_ ≤ 900000000) (h2 : n ≤ 900000000) (h3 : m ≤ 900000000) (hx : nxD n L at_ % 8 ≤ 4) :
    Calls Try.prog 33 #[.int .i64 ((d : Nat) : Int), .pointer (some ⟨bn, 0, none⟩), .pointer (some ⟨bo, 0, none⟩), .pointer (some ⟨bd, 0, none⟩), .pointer (some ⟨bi, 0, none⟩)] w fun r w' => ∃ v', r = .returned (.tuple #[]) ∧ DS W A n cp L D bl bd bo ba bn bi w' v' (m + 1) (out ++ [plainD (nxD n L at_)]) (at_ + 1) := by
  by_cases k0 : nxD n L at_ % 8 = 0
  · exact plain0 d h h1 h2 h3 k0
  by_cases k1 : nxD n L at_ % 8 = 1
  · exact plain1 d h h1 h2 h3 k1
  by_cases k2 : nxD n L at_ % 8 = 2
  · exact plain2 d h h1 h2 h3 k2
  by_cases k3 : nxD n L at_ % 8 = 3
  · exact plain3 d h h1 h2 h3 k3
  exact plain4 d h h1 h2 h3 (by omega)
theorem cap_pos (f : Nat) : 1 ≤ capD f := by
  cases f
  · exact Nat.le_refl _
  · simp only [capD]; omega
/-- Every item tells its parts. -/
theorem item_any {D n cp bl bd bo ba bn bi : Nat} {A : Option Addr} {L : Nat → Int} {W : World} (h2 : n ≤ 900000000) (hD : D ≤ 1000) : ∀ f d, d + f = D → ItemOk W A n cp L D bl bd bo ba bn bi d f
  | 0, d, hd => by
    intro m a w v out h ha hm
    simp only [capD] at ha hm
    simp only [itemD]
    by_cases k : nxD n L a % 8 ≤ 4
    · rw [if_pos k]
      exact plain_ok d h (by omega) h2 (by omega) k
    · rw [if_neg k]
      by_cases k5 : nxD n L a % 8 = 5
      · exact low5 d h (by omega) h2 (by omega) k5 (by omega)
      by_cases k6 : nxD n L a % 8 = 6
      · exact low6 d h (by omega) h2 (by omega) k6 (by omega)
      exact low7 d h (by omega) h2 (by omega) (by omega) (by omega)
  | f + 1, d, hd => by
    intro m a w v out h ha hm
    have hp := cap_pos (f + 1)
    by_cases k : nxD n L a % 8 ≤ 4
    · simp only [itemD]
      rw [if_pos k]
      exact plain_ok d h (by omega) h2 (by omega) k
    · have ih := item_any (W := W) (A := A) (cp := cp) (L := L) (bl := bl) (bd := bd) (bo := bo) (ba := ba) (bn := bn) (bi := bi) h2 hD f (d + 1) (by omega)
      by_cases k5 : nxD n L a % 8 = 5
      · exact item_arr h ha h2 hm k5 hd hD ih
      · exact item_map h ha h2 hm (by omega) hd hD ih
end Go.Proofs.Ytockeedbceopiaa
/-
  CONTRACT of the book's documents out of numbers: truchmanbook.Doc.
-/
namespace Go.Proofs.Ytockeedbceopiaa
open Go.RowKit
open Go.Lib
theorem blk_new1 (w : World) (X : Obj) (cs : Array Value) (t : TypeId) : Blk ((w.alloc X).alloc (.cells cs t)) (w.heap.size + 1) cs t := by
  have := blk_new (w.alloc X) cs t
  rwa [World.size_alloc] at this
theorem blk_new2 (w : World) (X Y : Obj) (cs : Array Value) (t : TypeId) : Blk (((w.alloc X).alloc Y).alloc (.cells cs t)) (w.heap.size + 1 + 1) cs t := by
  have := blk_new1 (w.alloc X) Y cs t
  rwa [World.size_alloc] at this
theorem blk_new3 (w : World) (X Y Z : Obj) (cs : Array Value) (t : TypeId) : Blk ((((w.alloc X).alloc Y).alloc Z).alloc (.cells cs t)) (w.heap.size + 1 + 1 + 1) cs t := by
  have := blk_new2 (w.alloc X) Y Z cs t
  rwa [World.size_alloc] at this
theorem blk_new4 (w : World) (X Y Z U : Obj) (cs : Array Value) (t : TypeId) : Blk (((((w.alloc X).alloc Y).alloc Z).alloc U).alloc (.cells cs t)) (w.heap.size + 1 + 1 + 1 + 1) cs t := by
  have := blk_new3 (w.alloc X) Y Z U cs t
  rwa [World.size_alloc] at this
theorem blk_new5 (w : World) (X Y Z U V : Obj) (cs : Array Value) (t : TypeId) : Blk ((((((w.alloc X).alloc Y).alloc Z).alloc U).alloc V).alloc (.cells cs t)) (w.heap.size + 1 + 1 + 1 + 1 + 1) cs t := by
  have := blk_new4 (w.alloc X) Y Z U V cs t
  rwa [World.size_alloc] at this
/-- What Doc lays ahead of its one item. -/
theorem ds_new (A : Option Addr) (n cp : Nat) (L : Nat → Int) (D : Nat) (w : World) (hL : DLAt w w.heap.size A n L) :
    DS w A n cp L D w.heap.size (w.heap.size + 1) (w.heap.size + 1 + 1) (w.heap.size + 1 + 1 + 1) (w.heap.size + 1 + 1 + 1 + 1) (w.heap.size + 1 + 1 + 1 + 1 + 1)
      ((((((w.alloc (.cells #[.slice A n cp] 48)).alloc (.cells #[.int .i64 D] 3)).alloc (.cells #[.slice none 0 0] 22)).alloc (.cells #[.int .i64 0] 3)).alloc (.cells #[clNext (w.heap.size + 1 + 1 + 1) w.heap.size] 81)).alloc
        (.cells #[clItem (w.heap.size + 1 + 1 + 1 + 1) (w.heap.size + 1 + 1) (w.heap.size + 1) (w.heap.size + 1 + 1 + 1 + 1 + 1)] 82)) (.slice none 0 0) 0 [] 0 := by
  have hB : Below w.heap.size w ((((((w.alloc (.cells #[.slice A n cp] 48)).alloc (.cells #[.int .i64 D] 3)).alloc (.cells #[.slice none 0 0] 22)).alloc (.cells #[.int .i64 0] 3)).alloc (.cells #[clNext (w.heap.size + 1 + 1 + 1) w.heap.size] 81)).alloc
        (.cells #[clItem (w.heap.size + 1 + 1 + 1 + 1) (w.heap.size + 1 + 1) (w.heap.size + 1) (w.heap.size + 1 + 1 + 1 + 1 + 1)] 82)) := up_alloc (up_alloc (up_alloc (up_alloc (up_alloc (up_alloc (Below.refl _ _) _) _) _) _) _) _
  exact ⟨((((((blk_new _ _ _).alloc _).alloc _).alloc _).alloc _).alloc _), (((((blk_new1 _ _ _ _).alloc _).alloc _).alloc _).alloc _), (((blk_new2 _ _ _ _ _).alloc _).alloc _).alloc _, ((blk_new3 _ _ _ _ _ _).alloc _).alloc _, (blk_new4 _ _ _ _ _ _ _).alloc _, blk_new5 _ _ _ _ _ _ _ _,
    ⟨hB, Win.nil_ _ _ _, fun k hk => by simp [Value.owner] at hk⟩, rfl, hL.below hB, by omega, by omega, by omega⟩
set_option maxHeartbeats 2000000 in
/-- Doc tells the parts of one item. -/
theorem doc_any (A : Option Addr) (n cp : Nat) (L : Nat → Int) (D : Nat) (w : World) (hL : DLAt w w.heap.size A n L) (h2 : n ≤ 900000000) (hD : D ≤ 1000) (hC : capD D ≤ 900000000) :
    Calls Try.prog 20 #[.slice A n cp, .int .i64 ((D : Nat) : Int)] w fun r w' => ∃ v, r = .returned v ∧ Made w w' v (itemD n L D 0).1.length (itemD n L D 0).1 := by
  have hI := item_any (bl := w.heap.size) (bd := w.heap.size + 1) (bo := w.heap.size + 1 + 1) (ba := w.heap.size + 1 + 1 + 1) (bn := w.heap.size + 1 + 1 + 1 + 1) (bi := w.heap.size + 1 + 1 + 1 + 1 + 1) (cp := cp) (A := A) (L := L) (W := w) h2 hD D 0 (by omega) 0 0 _ _ _ (ds_new A n cp L D w hL) (by omega) (by omega)
  simp only [Nat.zero_add, List.nil_append] at hI
  have HI := Lib.hid hI
  clear hI hL hC
  go_enter Try.func20, Try.ntmps20
  go_wp2_with fail
  refine HI.out.mono ?_
  rintro r w1 ⟨v, rfl, hS⟩
  have o0 := hS.o.cell 0
  simp only [List.getElem?_toArray, List.getElem?_cons_zero] at o0
  have HM := Lib.hid hS.made
  clear hS
  go_wp2
  go_ret
  exact ⟨v, rfl, HM.out⟩
end Go.Proofs.Ytockeedbceopiaa
/-
  The book's documents: how many blocks one may take; what came in as ints.
-/
namespace Go.Proofs.Ytockeedbceopiaa
open Go.RowKit
open Go.Lib
theorem cap16 (D : Nat) (hD : D ≤ 16) : capD D ≤ 900000000 := by
  have hc : D = 0 ∨ D = 1 ∨ D = 2 ∨ D = 3 ∨ D = 4 ∨ D = 5 ∨ D = 6 ∨ D = 7 ∨ D = 8 ∨ D = 9 ∨ D = 10 ∨ D = 11 ∨ D = 12 ∨ D = 13 ∨ D = 14 ∨ D = 15 ∨ D = 16 := by omega
  rcases hc with rfl | rfl | rfl | rfl | rfl | rfl | rfl | rfl | rfl | rfl | rfl | rfl | rfl | rfl | rfl | rfl | rfl <;> decide +kernel
/-- What came in as ints, as the documents want it. -/
theorem dlat_reads {w : World} {A : Option Addr} {n : Nat} {zs : List Int} (hl : zs.length = n) (hR : Reads w w.heap.size 1 A n (zs.map (Value.int .i64))) : DLAt w w.heap.size A n (fun i => zs.getD i 0) := fun h0 => by
  obtain ⟨ad, rfl, hb, hc⟩ := hR.2 h0
  obtain ⟨b, off, spot⟩ := ad
  have h00 := hc 0 (.int .i64 (zs[0]'(by omega))) (by simp [show 0 < zs.length by omega])
  have hspot : spot = none := by simpa [Addr.add] using World.cell?_spot h00
  subst hspot
  refine ⟨b, off, rfl, hb, fun i hi => ?_⟩
  have hi' : i < zs.length := by omega
  have := hc i (.int .i64 zs[i]) (by simp [hi'])
  by_cases hi0 : i = 0
  · subst hi0
    simpa [List.getD, hi', Addr.add] using this
  · simpa [List.getD, hi', Addr.add, hi0] using this
end Go.Proofs.Ytockeedbceopiaa
/-
  Documents written part by part as CBOR: the machine of CoutPure over documents that Check lets by; the document's own Writer as that machine.
-/
namespace Go.Proofs.Ytockeedbceopiaa
open Go.RowKit
open Go.Lib
/-- Nothing is asked of the library's tables (jsonout's laws ask it of one). -/
def NoTab (_ : World) : Prop := True
theorem NoTab.alloc {w : World} (_ : NoTab w) (x : Obj) : NoTab (w.alloc x) := trivial
theorem NoTab.below {B : Nat} {w w' : World} (_ : NoTab w) (_ : Below B w w') : NoTab w' := trivial
theorem qoalive_any (w : World) (_ : NoTab w) : Calls Try.prog 10 #[] w fun e w' => e = .returned (.bool true) ∧ Below w.heap.size w w' := qalive_any w
theorem qv_step {w0 w : World} {b : Nat} {F : List Nat} {q : Kq} (h : QW w0 w b F q) (_ : NoTab w0) (hs : dpQ q.s ≤ 900) (e : Ev) (hm : mayE e) (hok : EvOk e) (ht : e.t.size ≤ 1000) :
    Calls Try.prog 12 #[.pointer (some ⟨b, 0, none⟩), valE e] w fun r w' => r = .returned (.tuple #[.string ⟨(stepQ q e).1.1.toArray⟩, .int .i64 ((stepQ q e).1.2 : Nat)]) ∧ ∃ F', QW w0 w' b F' (stepQ q e).2 ∧ Jf b 0 F F' w w' := qw_step h hs e hm hok ht
/-- STEP, its answer as it is. -/
theorem qw_to {w0 w : World} {b : Nat} {F : List Nat} {q : Kq} (h : QW w0 w b F q) (_ : NoTab w0) (hs : dpQ q.s ≤ 900) (e : Ev) (hm : mayE e) (hok : EvOk e) (ht : e.t.size ≤ 1000) {bs : List UInt8} {n : Nat} {q' : Kq} (hq : stepQ q e = ((bs, n), q')) {v : Value} (hv : valE e = v) :
    Calls Try.prog 12 #[.pointer (some ⟨b, 0, none⟩), v] w fun r w' => r = .returned (.tuple #[.string ⟨bs.toArray⟩, .int .i64 (n : Nat)]) ∧ ∃ F', QW w0 w' b F' q' ∧ Jf b 0 F F' w w' := by
  have := qw_step h hs e hm hok ht
  rw [hq, hv] at this
  exact this
/-- A part of a document that is one: written, and what then. -/
theorem qlive_at {l : List Ev} (h : runC (.live []) l = .done) {j : Nat} (hj : j < l.length) : ∃ s, runC (.live []) (l.take j) = .live s ∧ (stepQ ⟨s, false⟩ l[j]).1.2 = 0 ∧ (stepQ ⟨s, false⟩ l[j]).2 = ckQ (stepC (.live s) l[j]) := by
  obtain ⟨s, hs, _⟩ := live_at h hj
  have h1 : runC (runC (.live []) (l.take j)) (l.drop j) = .done := by rw [← runC_append, List.take_append_drop]; exact h
  have hd : l.drop j = l[j] :: l.drop (j + 1) := List.drop_eq_getElem_cons hj
  rw [hd, hs] at h1
  have h2 := (step_ckQ h1).2
  exact ⟨s, hs, by rw [h2], by rw [h2]⟩
theorem headK : HeadK := fun n v hv w => rhead_any n v hv w
/-- ANY PART, by the document's own Writer, at whatever world: only its block has turned. -/
theorem wk_part {M b : Nat} {w : World} {s : List Bx} {dn : Bool} (h : WkAt M 0 w b s dn) (hM : M + 1 ≤ 1000) (hd : dpQ s < 800) (e : Ev) (hok : EvOk e) (ht : e.t.size ≤ 1000) :
    Calls Try.prog 13 #[.pointer (some ⟨b, 0, none⟩), evV e] w fun q w' => q = .returned (.tuple #[.string ⟨(stepQ ⟨s, dn⟩ e).1.1.toArray⟩, .int .i64 (stepQ ⟨s, dn⟩ e).1.2]) ∧ WkAt (M + 1) 0 w' b (stepQ ⟨s, dn⟩ e).2.s (stepQ ⟨s, dn⟩ e).2.dn ∧ Bew w.heap.size b w w' := by
  refine (wk_any headK (h.at_ (Nat.le_refl _)) hM (Nat.lt_of_le_of_lt (dp_len s) hd) e hok ht).mono ?_
  rintro q w' ⟨h1, h2, h3⟩
  exact ⟨h1, h2.at_ (Nat.zero_le _), h3⟩
theorem tidy_writeK (s : List Bx) {e : Ev} (hm : mayE e) : writeK s (tidyE e) = writeK s e := by
  unfold writeK
  rw [rtidy_k]
  unfold tidyE
  by_cases h7 : e.k = 7
  · rw [if_pos h7, if_pos h7]
  rw [if_neg h7, if_neg h7]
  by_cases h0 : e.k = 0
  · rw [if_pos h0, if_pos h0]
  rw [if_neg h0, if_neg h0]
  by_cases h1 : e.k = 1
  · rw [if_pos h1, if_pos h1, if_pos h1]
  rw [if_neg h1, if_neg h1, if_neg h1]
  by_cases h2 : e.k = 2
  · rw [if_pos h2, if_pos h2, if_pos h2]
  rw [if_neg h2, if_neg h2, if_neg h2]
  by_cases h34 : e.k = 3 ∨ e.k = 4
  · rw [if_pos h34, if_pos h34, if_pos h34]
  rw [if_neg h34, if_neg h34, if_neg h34]
  by_cases h56 : e.k = 5 ∨ e.k = 6
  · rw [if_pos h56]
  · have := hm.1
    have := hm.2.1
    omega
theorem stepQ_tidy (q : Kq) (e : Ev) : stepQ q (tidyE e) = stepQ q e := by
  by_cases hn : ¬ mayE e
  · rw [stepQ_bad q e (.inl hn), stepQ_bad q _ (.inl (fun h => hn ((tidy_may e).1 h)))]
  have hm : mayE e := Classical.not_not.1 hn
  unfold stepQ
  simp only [tidy_may, rtidy_k, tidy_writeK _ hm]
  by_cases h : e.k = 5 ∨ e.k = 6
  · rw [tidy_c h]
  · simp only [if_neg h]
theorem qstep_err_nil {q : Kq} {e : Ev} (h : (stepQ q e).1.2 ≠ 0) : stepQ q e = (([], (stepQ q e).1.2), q) := by
  revert h
  unfold stepQ
  split
  · intro _; rfl
  · split
    · split
      · intro _
        rfl
      · split
        · intro _; rfl
        · intro h; exact absurd rfl h
    · split
      · intro _; rfl
      · split
        · intro _; rfl
        · split
          · intro h; exact absurd rfl h
          · intro h; exact absurd rfl h
theorem qstep_err_kind {q : Kq} {e : Ev} (h : (stepQ q e).1.2 ≠ 0) : (stepQ q e).1.2 = 14 ∨ (stepQ q e).1.2 = 8 := by
  revert h
  unfold stepQ
  split
  · intro _; exact .inl rfl
  · split
    · split
      · intro _; exact .inl rfl
      · split
        · intro _; exact .inl rfl
        · intro h; exact absurd rfl h
    · split
      · intro _; exact .inl rfl
      · split
        · intro _; exact .inr rfl
        · split
          · intro h; exact absurd rfl h
          · intro h; exact absurd rfl h
end Go.Proofs.Ytockeedbceopiaa
/-
  LAWS of chapter 14: CboroutShort.
-/
namespace Go.Proofs.Ytockeedbceopiaa
open Go.RowKit
open Go.Lib
theorem open_opn (l : List Ev) : l.map openE = l.map opnQ := rfl
theorem allQ_size : ∀ (l : List Ev) (q : Kq), (∀ e ∈ l, e.t.size ≤ 1000) → (allQ q l).1.length ≤ 2000 * l.length
  | [], q, _ => by simp [allQ]
  | e :: l, q, h => by
    by_cases hm : mayE e
    · by_cases h0 : (stepQ q e).1.2 = 0
      · rw [allQ_cons_ok hm h0]
        have h1 := qstep_size q e (h e (by simp))
        have h2 := allQ_size l (stepQ q e).2 (fun x hx => h x (by simp [hx]))
        simp only [List.length_append, List.length_cons]
        omega
      · rw [allQ_cons_err hm h0]
        simp
    · rw [allQ_cons_bad hm]
      simp
theorem begs_take {l : List Ev} {j : Nat} (hj : j < l.length) : begsQ (l.take (j + 1)) = begsQ (l.take j) + if l[j].k = 5 ∨ l[j].k = 6 then 1 else 0 := by
  unfold begsQ
  rw [List.take_add_one, List.getElem?_eq_getElem hj, List.countP_append]
  by_cases h : l[j].k = 5 ∨ l[j].k = 6
  · simp [h]
  · simp [h]
theorem begs_le (l : List Ev) : begsQ l ≤ l.length := List.countP_le_length
set_option maxRecDepth 100000 in
set_option maxHeartbeats 8000000 in
theorem qshort_in (A : Option Addr) (n cp : Nat) (Li : Nat → Int) (w : World) (hL : DLAt w w.heap.size A n Li) (hn : n ≤ 60) :
    Calls Try.prog 6 #[.slice A n cp] w fun r w' => r = .returned (.bool true) ∧ Below w.heap.size w w' := by
  have t1 : ((60 : Int) < (n : Int)) = False := by simp; omega
  have HAL := Lib.hid (qalive_any w)
  have hrun := doc_run n Li 8 (by omega)
  have hde := doc_e n Li 8
  have hps := doc_pos n Li 8 0
  have hlen := item_length n Li 8
  have HDOC := Lib.hid (fun W (h : DLAt W W.heap.size A n Li) => doc_any A n cp Li 8 W h (by omega) (by omega) (cap16 8 (by omega)))
  have HLI := Lib.hid hL
  generalize (itemD n Li 8 0).1 = I at *
  obtain ⟨hs1, hs2, hs3⟩ := short_all hrun (fun e he _ => ⟨hps e he, by have := (hde e he).cnt; omega⟩)
  have hsz := allQ_size I ⟨[], false⟩ (fun e he => (docE_small (hde e he)).2)
  have hsz2 := allQ_size (I.map opnQ) ⟨[], false⟩ (fun e he => by
    obtain ⟨x, hx, rfl⟩ := List.mem_map.1 he
    exact (docE_small (docE_open (hde x hx)).1).2)
  rw [List.length_map] at hsz2
  have HALL1 := Lib.hid (fun W a c (h : Win W 35 5 (.slice a I.length c) I.length (evsC I)) => qall_win h rfl (by omega) (fun e he => docE_small (hde e he)))
  have HALL2 := Lib.hid (fun W a c (h : Win W 35 5 (.slice a I.length c) I.length (evsC (I.map opnQ))) => qall_win h (by simp) (by omega) (fun e he => by
    obtain ⟨x, hx, rfl⟩ := List.mem_map.1 he
    exact docE_small (docE_open (hde x hx)).1))
  have HOP : Hid (∀ W a c, Win W 35 5 (.slice a I.length c) I.length (evsC I) → Calls Try.prog 21 #[.slice a I.length c] W fun r w' => ∃ v, r = .returned v ∧ Made W w' v I.length (I.map opnQ)) := Lib.hid (fun W a c h => by
    have := dopen_any a I.length c (getE I) W (by omega) (evs_win h (Nat.le_refl _))
    rwa [pre_getE, open_opn] at this)
  rw [hs2] at HALL2
  rw [hs1] at HALL1
  obtain ⟨S, hS⟩ : ∃ S : ByteArray, (⟨(allQ ⟨[], false⟩ I).1.toArray⟩ : ByteArray) = S := ⟨_, rfl⟩
  obtain ⟨T, hT⟩ : ∃ T : ByteArray, (⟨(allQ ⟨[], false⟩ (I.map opnQ)).1.toArray⟩ : ByteArray) = T := ⟨_, rfl⟩
  rw [hS] at HALL1
  rw [hT] at HALL2
  have hSl : S.size = (allQ ⟨[], false⟩ I).1.length := by rw [← hS]; exact size_of _
  have hTl : T.size = (allQ ⟨[], false⟩ (I.map opnQ)).1.length := by rw [← hT]; exact size_of _
  have hTS : T.size = S.size + begsQ I := by omega
  have hS9 : S.size ≤ 2000 * 482 := by omega
  have hbl := begs_le I
  obtain ⟨N, hN⟩ : ∃ N, I.length = N := ⟨_, rfl⟩
  have HN := Lib.hid hN
  have HB := Lib.hid (And.intro hTS (And.intro hS9 hbl))
  have hbt : ∀ j, j < N → ∀ h : j < I.length, begsQ (I.take (j + 1)) = begsQ (I.take j) + if I[j].k = 5 ∨ I[j].k = 6 then 1 else 0 := fun j _ h => begs_take h
  have HBT := Lib.hid hbt
  have hbz : begsQ (I.take N) = begsQ I := by rw [← hN, List.take_length]
  have HBZ := Lib.hid hbz
  have hbm : ∀ j, begsQ (I.take j) ≤ 482 := fun j => Nat.le_trans (begs_le _) (by rw [List.length_take]; omega)
  have HBM := Lib.hid hbm
  rw [hN] at HDOC HALL1 HALL2 HOP hlen
  have hN482 : N ≤ 482 := by omega
  clear hL hrun hde hps hs1 hs2 hs3 hsz hsz2 hS hT hSl hTl hTS hS9 hbl hN hbt hbz hbm hn hlen
  go_enter Try.func6, Try.ntmps6
  go_wp2_with fail
  refine HAL.out.mono ?_
  rintro e w1 ⟨rfl, b1⟩
  have B1 := Lib.hid b1
  have HL1 := Lib.hid (show DLAt w1 w1.heap.size A n Li from fun h0 => by
    obtain ⟨b, off, h1, h2, h3⟩ := HLI.out.below b1 h0
    exact ⟨b, off, h1, Nat.lt_of_lt_of_le h2 b1.size, h3⟩)
  clear b1
  go_wp2_with fail
  refine (HDOC.out _ HL1.out).mono ?_
  rintro r w2 ⟨v2, rfl, hM2⟩
  obtain ⟨a2, c2, rfl, _, _⟩ := hM2.2.1.slice_form
  have B2 := Lib.hid (up_trans B1.out hM2.1)
  have HM2 := Lib.hid hM2.2.1
  clear hM2
  go_wp2_with fail
  refine (HALL1.out _ _ _ HM2.out).mono ?_
  rintro r w3 ⟨rfl, b3⟩
  have B3 := Lib.hid (up_trans B2.out b3)
  have HM3 := Lib.hid (HM2.out.keep fun k hk => b3.block k (HM2.out.lt k hk))
  clear b3
  go_wp2_with fail
  refine (HOP.out _ _ _ HM3.out).mono ?_
  rintro r w4 ⟨v4, rfl, hM4⟩
  obtain ⟨a4, c4, rfl, _, _⟩ := hM4.2.1.slice_form
  have B4 := Lib.hid (up_trans B3.out hM4.1)
  have HM34 := Lib.hid (HM3.out.keep fun k hk => hM4.1.block k (HM3.out.lt k hk))
  have HM4 := Lib.hid hM4.2.1
  clear hM4
  go_wp2_with fail
  refine (HALL2.out _ _ _ HM4.out).mono ?_
  rintro r w5 ⟨rfl, b5⟩
  have B5 := Lib.hid (up_trans B4.out b5)
  have HM5 := Lib.hid (evs_win (HM34.out.keep fun k hk => b5.block k (HM34.out.lt k hk)) (n := N) (by rw [HN.out]; exact Nat.le_refl _))
  clear b5
  go_wp2
  go_loopw [8, 9, 33] (fun cnt _ i wr => ∃ j : Nat, i = .int .i64 j ∧ j ≤ N ∧ cnt = .int .i64 (begsQ (I.take j) : Nat) ∧ wr = w5) (fun _ _ i _ => N - (RowKit.intOf i).toNat)
  case atStart => exact ⟨0, rfl, Nat.zero_le _, rfl, rfl⟩
  case round =>
    obtain ⟨j, rfl, hj, rfl, rfl⟩ := hrel
    have hb0 := HBM.out j
    by_cases hlt : j < N
    · have hjL : j < I.length := by rw [HN.out]; exact hlt
      have HT1 := Lib.hid (HBT.out j hlt hjL)
      obtain ⟨g, off, rfl, hgb, x0, x1, x2, x3, x4⟩ := HM5.out.cells hlt
      have hge : getE I j = I[j] := by simp [getE, hjL]
      rw [hge] at x0
      clear x1 x2 x3 x4 hge
      generalize I[j] = ej at *
      obtain ⟨k', y', m', t', c'⟩ := ej
      simp only at x0 HT1
      generalize begsQ (I.take j) = z at *
      by_cases h5 : k' = 5
      · subst h5
        rw [if_pos (by omega)] at HT1
        go_wp2
        go_roundw
        case rel => exact ⟨j + 1, rfl, hlt, by rw [HT1.out]; rfl, by first | rfl | trivial⟩
        case measure => simp [RowKit.intOf]; omega
      · by_cases h6 : k' = 6
        · subst h6
          rw [if_pos (by omega)] at HT1
          go_wp2
          go_roundw
          case rel => exact ⟨j + 1, rfl, hlt, by rw [HT1.out]; rfl, by first | rfl | trivial⟩
          case measure => simp [RowKit.intOf]; omega
        · rw [if_neg (by omega)] at HT1
          have z5 : (k' == 5) = false := by rw [beq_eq_false_iff_ne]; exact h5
          have z6 : (k' == 6) = false := by rw [beq_eq_false_iff_ne]; exact h6
          clear h5 h6
          go_wp2
          go_roundw
          case rel => exact ⟨j + 1, rfl, hlt, by rw [HT1.out]; rfl, by first | rfl | trivial⟩
          case measure => simp [RowKit.intOf]; omega
    · obtain rfl : j = N := by omega
      have hz := HBZ.out
      obtain ⟨h1, h2, h3⟩ := HB.out
      rw [hz] at hb0 ⊢
      generalize begsQ I = z at *
      have he : ((T.size : Int) == (S.size : Int) + (z : Int)) = true := by rw [beq_iff_eq]; omega
      have hw : IntKind.i64.wrap ((S.size : Int) + (z : Int)) = (S.size : Int) + (z : Int) := by simp only [IntKind.wrap_i64]; omega
      clear HB h3
      go_wp2
      go_ret
      exact ⟨by simp, B5.out⟩
set_option maxRecDepth 100000 in
set_option maxHeartbeats 2000000 in
theorem qshort_row (A : Option Addr) (n cp : Nat) (Li : Nat → Int) (w : World) (hL : DLAt w w.heap.size A n Li) :
    Calls Try.prog 6 #[.slice A n cp] w fun r w' => r = .returned (.bool true) ∧ Below w.heap.size w w' := by
  by_cases hn : n ≤ 60
  · exact qshort_in A n cp Li w hL hn
  · have t1 : ((60 : Int) < (n : Int)) = True := by simp; omega
    have HA := Lib.hid (qalive_any w)
    clear hL hn
    go_enter Try.func6, Try.ntmps6
    go_wp2_with fail
    refine HA.out.mono ?_
    rintro r w1 ⟨rfl, b1⟩
    have B1 := Lib.hid b1
    clear b1
    go_wp2
    go_ret
    exact ⟨rfl, B1.out⟩
end Go.Proofs.Ytockeedbceopiaa
/-
  LAWS of chapter 14: CboroutEnds.
-/
namespace Go.Proofs.Ytockeedbceopiaa
open Go.RowKit
open Go.Lib
/-- In the midst of a document, part by part: a Writer as Check's state. -/
structure QEndI (w0 wr : World) (b : Nat) (L : List Ev) (j : Nat) (q : Kq) (F : List Nat) : Prop where
  jw : QW w0 wr b F q
  st : q = ckQ (runC (.live []) (L.take j))
  dep : dpQ q.s ≤ j
theorem QEndI.live {w0 wr : World} {b : Nat} {L : List Ev} {j : Nat} {q : Kq} {F : List Nat} (h : QEndI w0 wr b L j q F) (hr : runC (.live []) L = .done) (hj : j < L.length) :
    q.dn = false ∧ (stepQ q L[j]).1.2 = 0 ∧ (stepQ q L[j]).2 = ckQ (runC (.live []) (L.take (j + 1))) := by
  obtain ⟨s, hs, h1, h2⟩ := qlive_at hr hj
  have hq := h.st
  rw [hs] at hq
  subst hq
  exact ⟨rfl, h1, by rw [runC_take hj, hs]; exact h2⟩
theorem QEndI.next {w0 wr w2 : World} {b : Nat} {L : List Ev} {j : Nat} {q : Kq} {F F2 : List Nat} (h : QEndI w0 wr b L j q F) (hr : runC (.live []) L = .done) (hj : j < L.length) (hw : QW w0 w2 b F2 (stepQ q L[j]).2) :
    QEndI w0 w2 b L (j + 1) (stepQ q L[j]).2 F2 := by
  refine ⟨hw, (h.live hr hj).2.2, ?_⟩
  have := qstep_dp q L[j]
  have := h.dep
  omega
theorem QEndI.over {w0 wr : World} {b : Nat} {L : List Ev} {j : Nat} {q : Kq} {F : List Nat} (h : QEndI w0 wr b L j q F) (hr : runC (.live []) L = .done) (hj : L.length ≤ j) : q = ⟨[], true⟩ := by
  have hq := h.st
  rw [List.take_of_length_le hj, hr] at hq
  exact hq
set_option maxRecDepth 100000 in
set_option maxHeartbeats 8000000 in
theorem qends_in (A : Option Addr) (n cp : Nat) (Li : Nat → Int) (e : Ev) (hok : EvOk e) (w : World) (hT : NoTab w) (hL : DLAt w w.heap.size A n Li) (hn : n ≤ 50) (ht : e.t.size ≤ 100) :
    Calls Try.prog 5 #[.slice A n cp, evV e] w fun r w' => r = .returned (.bool true) ∧ Below w.heap.size w w' := by
  have t1 : ((50 : Int) < (n : Int)) = False := by simp; omega
  have t2 : ((100 : Int) < (e.t.size : Int)) = False := by simp; omega
  have HA : Hid (∀ X, Calls Try.prog 10 #[] (w.alloc X) fun r w' => r = .returned (.bool true) ∧ Below (w.alloc X).heap.size (w.alloc X) w') := Lib.hid (fun X => qoalive_any _ (hT.alloc X))
  have HO := Lib.hid (fun W => of_any e W)
  have hrun := doc_run n Li 6 (by omega)
  have hde := doc_e n Li 6
  have hlen := item_length n Li 6
  have HDOC := Lib.hid (fun W (h : DLAt W W.heap.size A n Li) => doc_any A n cp Li 6 W h (by omega) (by omega) (cap16 6 (by omega)))
  have HLI := Lib.hid hL
  generalize (itemD n Li 6 0).1 = I at *
  have HRUN := Lib.hid hrun
  have HDE := Lib.hid hde
  obtain ⟨N, hN⟩ : ∃ N, I.length = N := ⟨_, rfl⟩
  rw [hN] at HDOC hlen
  have HN := Lib.hid hN
  have hN482 : N ≤ 482 := by omega
  have HT : Hid (∀ X, NoTab (w.alloc X)) := Lib.hid (fun X => hT.alloc X)
  have HFIN := Lib.hid (fun (X : Obj) W' (k : Below (w.alloc X).heap.size (w.alloc X) W') => up_trans (up_alloc (Below.refl w.heap.size w) X) k)
  have hq2 : mayE e → stepQ ⟨[], true⟩ e = (([], 14), ⟨[], true⟩) := fun hm => stepQ_bad ⟨[], true⟩ e (.inr rfl)
  have H2 : Hid (∀ (hm : mayE e) (U W : World) b F (hU : NoTab U) (h : QW U W b F ⟨[], true⟩), Calls Try.prog 12 #[.pointer (some ⟨b, 0, none⟩), valE e] W fun r w' => r = .returned (.tuple #[.string ⟨#[]⟩, .int .i64 14]) ∧ ∃ F', QW U w' b F' ⟨[], true⟩ ∧ Jf b 0 F F' W w') :=
    Lib.hid (fun hm U W b F hU h => qw_to h hU (by simp [dpQ]) e hm hok (by omega) (hq2 hm) (v := valE e) rfl)
  have HEV : Hid (evV e = evV e) := Lib.hid rfl
  have hdec : (decide (mayE e) = true) ∨ (decide (mayE e) = false) := by cases decide (mayE e) <;> simp
  obtain ⟨V, hV⟩ : ∃ V, valE e = V := ⟨_, rfl⟩
  by_cases hm : mayE e
  · rw [if_pos hm, decide_eq_true hm, hV] at HO
    have H3 := Lib.hid (H2.out hm)
    rw [hV] at H3
    obtain ⟨k, y, m, t, c⟩ := e
    simp only [evV] at *
    have E0 := Lib.hid (blk_new w #[.int .i64 k, .bool y, .int .u64 m, .string t, .int .i64 c] 35)
    clear hT hrun hde hlen hN hL hn hok hq2 H2 hdec hV hm HEV ht
    go_enter Try.func5, Try.ntmps5
    go_wp2_with fail
    refine (HA.out _).mono ?_
    rintro r w1 ⟨rfl, b1⟩
    have B1 := Lib.hid b1
    have HL1 := Lib.hid (show DLAt w1 w1.heap.size A n Li from fun h0 => by
      obtain ⟨b, off, h1, h2, h3⟩ := HLI.out.below (up_trans (up_alloc (Below.refl _ _) _) b1) h0
      exact ⟨b, off, h1, Nat.lt_of_lt_of_le h2 (up_trans (up_alloc (Below.refl w.heap.size w) _) b1).size, h3⟩)
    clear b1
    go_wp2_with fail
    refine (HDOC.out _ HL1.out).mono ?_
    rintro r w2 ⟨v2, rfl, hM2⟩
    obtain ⟨a2, c2, rfl, _, _⟩ := hM2.2.1.slice_form
    have B2 := Lib.hid (up_trans B1.out hM2.1)
    have HE2 := Lib.hid (evs_win hM2.2.1 (n := N) (by rw [HN.out]; exact Nat.le_refl _))
    clear hM2
    have BW := Lib.hid (up_trans (up_alloc (Below.refl w.heap.size w) (.cells #[.int .i64 k, .bool y, .int .u64 m, .string t, .int .i64 c] 35)) B2.out)
    have TW := Lib.hid ((HT.out (.cells #[.int .i64 k, .bool y, .int .u64 m, .string t, .int .i64 c] 35)).below B2.out)
    have E2 := Lib.hid (E0.out.go B2.out)
    have H0 : Hid (QEndI w2 (w2.alloc (.cells #[.slice none 0 0, .bool false] 28)) w2.heap.size I 0 ⟨[], false⟩ []) := Lib.hid ⟨qw_new _ w2 (Below.refl _ _), rfl, by simp [dpQ]⟩
    clear E0 B1 B2 HL1
    go_wp2
    go_loopw [7, 8, 9, 10, 11, 36] (fun _ _ _ _ _ i wr => ∃ (j : Nat) (q : Kq) (F : List Nat), i = .int .i64 j ∧ j ≤ N ∧ Hid (QEndI w2 wr w2.heap.size I j q F)) (fun _ _ _ _ _ i _ => N - (RowKit.intOf i).toNat)
    case atStart => exact ⟨0, _, _, rfl, by omega, H0⟩
    case round =>
      obtain ⟨j, q, F, rfl, hj, HI⟩ := hrel
      clear H0
      by_cases hlt : j < N
      · have hjL : j < I.length := by rw [HN.out]; exact hlt
        obtain ⟨l1, l2, l3⟩ := HI.out.live HRUN.out hjL
        have hE := HDE.out _ (List.getElem_mem hjL)
        have HD := Lib.hid (doneQ HI.out.jw.at_)
        rw [l1] at HD
        have HS : Hid (∀ W', Below wr.heap.size wr W' → Calls Try.prog 12 #[.pointer (some ⟨w2.heap.size, 0, none⟩), valE I[j]] W' fun r w' => r = .returned (.tuple #[.string ⟨(stepQ q I[j]).1.1.toArray⟩, .int .i64 0]) ∧ ∃ F', QEndI w2 w' w2.heap.size I (j + 1) (stepQ q I[j]).2 F') := Lib.hid (fun W' kb => by
          have hs := qv_step (HI.out.jw.go kb) TW.out (by have := HI.out.dep; omega) I[j] (docE_may hE) (docE_small hE).1 (docE_small hE).2
          rw [l2] at hs
          refine hs.mono ?_
          rintro r w' ⟨h1, F', h2, h3⟩
          exact ⟨h1, F', HI.out.next HRUN.out hjL h2⟩)
        have HOj := Lib.hid (fun W => of_any I[j] W)
        rw [if_pos (docE_may hE), decide_eq_true (docE_may hE)] at HOj
        obtain ⟨g, off, rfl, hgb, x0, x1, x2, x3, x4⟩ := (HE2.out.below HI.out.jw.bel).cells hlt
        have hge : getE I j = I[j] := by simp [getE, hjL]
        rw [hge] at x0 x1 x2 x3 x4
        have hgb2 : g < wr.heap.size := Nat.lt_of_lt_of_le hgb HI.out.jw.bel.size
        generalize valE I[j] = Vj at *
        generalize (⟨(stepQ q I[j]).1.1.toArray⟩ : ByteArray) = Zj at *
        generalize (stepQ q I[j]).2 = qj at *
        generalize I[j] = ej at *
        obtain ⟨k', y', m', t', c'⟩ := ej
        simp only [evV] at x0 x1 x2 x3 x4 HOj
        clear l1 l2 l3 hE hge hgb hjL
        go_wp2_with fail
        refine HD.out.mono ?_
        rintro r w3 ⟨rfl, rfl⟩
        go_wp2_with fail
        refine (HOj.out _).mono ?_
        rintro r w4 ⟨rfl, b4⟩
        have B4 := Lib.hid b4
        clear b4
        go_wp2_with fail
        refine (HS.out _ B4.out).mono ?_
        rintro r w5 ⟨rfl, F5, h5⟩
        have H5 := Lib.hid h5
        clear h5
        go_wp2
        go_roundw
        case rel => exact ⟨j + 1, _, _, rfl, hlt, H5⟩
        case measure => simp [RowKit.intOf]; omega
      · obtain rfl : j = N := by omega
        have hq := HI.out.over HRUN.out (by rw [HN.out]; exact Nat.le_refl _)
        subst hq
        obtain ⟨⟨z0, z1, z2, z3, z4⟩, ⟨y0, y1, y2, y3, y4⟩⟩ := (E2.out.go HI.out.jw.bel).ev
        go_wp2_with fail
        refine (HO.out _).mono ?_
        rintro r w3 ⟨rfl, b3⟩
        have J3 := Lib.hid (HI.out.jw.go b3)
        clear b3 z0 z1 z2 z3 z4 y0 y1 y2 y3 y4
        go_wp2_with fail
        refine (H3.out _ _ _ _ TW.out J3.out).mono ?_
        rintro r w4 ⟨rfl, F4, j4, _⟩
        have J4 := Lib.hid j4
        clear j4
        go_wp2_with fail
        refine (doneQ J4.out.at_).mono ?_
        rintro r w5 ⟨rfl, rfl⟩
        go_wp2
        go_ret
        exact ⟨rfl, up_trans BW.out J4.out.bel⟩
  · rw [if_neg hm, decide_eq_false hm] at HO
    obtain ⟨k, y, m, t, c⟩ := e
    simp only [evV] at *
    have E0 := Lib.hid (blk_new w #[.int .i64 k, .bool y, .int .u64 m, .string t, .int .i64 c] 35)
    clear hT hrun hde hlen hN hL hn hok hq2 H2 hdec hV hm HEV ht V
    go_enter Try.func5, Try.ntmps5
    go_wp2_with fail
    refine (HA.out _).mono ?_
    rintro r w1 ⟨rfl, b1⟩
    have B1 := Lib.hid b1
    have HL1 := Lib.hid (show DLAt w1 w1.heap.size A n Li from fun h0 => by
      obtain ⟨b, off, h1, h2, h3⟩ := HLI.out.below (up_trans (up_alloc (Below.refl _ _) _) b1) h0
      exact ⟨b, off, h1, Nat.lt_of_lt_of_le h2 (up_trans (up_alloc (Below.refl w.heap.size w) _) b1).size, h3⟩)
    clear b1
    go_wp2_with fail
    refine (HDOC.out _ HL1.out).mono ?_
    rintro r w2 ⟨v2, rfl, hM2⟩
    obtain ⟨a2, c2, rfl, _, _⟩ := hM2.2.1.slice_form
    have B2 := Lib.hid (up_trans B1.out hM2.1)
    have HE2 := Lib.hid (evs_win hM2.2.1 (n := N) (by rw [HN.out]; exact Nat.le_refl _))
    clear hM2
    have BW := Lib.hid (up_trans (up_alloc (Below.refl w.heap.size w) (.cells #[.int .i64 k, .bool y, .int .u64 m, .string t, .int .i64 c] 35)) B2.out)
    have TW := Lib.hid ((HT.out (.cells #[.int .i64 k, .bool y, .int .u64 m, .string t, .int .i64 c] 35)).below B2.out)
    have E2 := Lib.hid (E0.out.go B2.out)
    have H0 : Hid (QEndI w2 (w2.alloc (.cells #[.slice none 0 0, .bool false] 28)) w2.heap.size I 0 ⟨[], false⟩ []) := Lib.hid ⟨qw_new _ w2 (Below.refl _ _), rfl, by simp [dpQ]⟩
    clear E0 B1 B2 HL1
    go_wp2
    go_loopw [7, 8, 9, 10, 11, 36] (fun _ _ _ _ _ i wr => ∃ (j : Nat) (q : Kq) (F : List Nat), i = .int .i64 j ∧ j ≤ N ∧ Hid (QEndI w2 wr w2.heap.size I j q F)) (fun _ _ _ _ _ i _ => N - (RowKit.intOf i).toNat)
    case atStart => exact ⟨0, _, _, rfl, by omega, H0⟩
    case round =>
      obtain ⟨j, q, F, rfl, hj, HI⟩ := hrel
      clear H0
      by_cases hlt : j < N
      · have hjL : j < I.length := by rw [HN.out]; exact hlt
        obtain ⟨l1, l2, l3⟩ := HI.out.live HRUN.out hjL
        have hE := HDE.out _ (List.getElem_mem hjL)
        have HD := Lib.hid (doneQ HI.out.jw.at_)
        rw [l1] at HD
        have HS : Hid (∀ W', Below wr.heap.size wr W' → Calls Try.prog 12 #[.pointer (some ⟨w2.heap.size, 0, none⟩), valE I[j]] W' fun r w' => r = .returned (.tuple #[.string ⟨(stepQ q I[j]).1.1.toArray⟩, .int .i64 0]) ∧ ∃ F', QEndI w2 w' w2.heap.size I (j + 1) (stepQ q I[j]).2 F') := Lib.hid (fun W' kb => by
          have hs := qv_step (HI.out.jw.go kb) TW.out (by have := HI.out.dep; omega) I[j] (docE_may hE) (docE_small hE).1 (docE_small hE).2
          rw [l2] at hs
          refine hs.mono ?_
          rintro r w' ⟨h1, F', h2, h3⟩
          exact ⟨h1, F', HI.out.next HRUN.out hjL h2⟩)
        have HOj := Lib.hid (fun W => of_any I[j] W)
        rw [if_pos (docE_may hE), decide_eq_true (docE_may hE)] at HOj
        obtain ⟨g, off, rfl, hgb, x0, x1, x2, x3, x4⟩ := (HE2.out.below HI.out.jw.bel).cells hlt
        have hge : getE I j = I[j] := by simp [getE, hjL]
        rw [hge] at x0 x1 x2 x3 x4
        have hgb2 : g < wr.heap.size := Nat.lt_of_lt_of_le hgb HI.out.jw.bel.size
        generalize valE I[j] = Vj at *
        generalize (⟨(stepQ q I[j]).1.1.toArray⟩ : ByteArray) = Zj at *
        generalize (stepQ q I[j]).2 = qj at *
        generalize I[j] = ej at *
        obtain ⟨k', y', m', t', c'⟩ := ej
        simp only [evV] at x0 x1 x2 x3 x4 HOj
        clear l1 l2 l3 hE hge hgb hjL
        go_wp2_with fail
        refine HD.out.mono ?_
        rintro r w3 ⟨rfl, rfl⟩
        go_wp2_with fail
        refine (HOj.out _).mono ?_
        rintro r w4 ⟨rfl, b4⟩
        have B4 := Lib.hid b4
        clear b4
        go_wp2_with fail
        refine (HS.out _ B4.out).mono ?_
        rintro r w5 ⟨rfl, F5, h5⟩
        have H5 := Lib.hid h5
        clear h5
        go_wp2
        go_roundw
        case rel => exact ⟨j + 1, _, _, rfl, hlt, H5⟩
        case measure => simp [RowKit.intOf]; omega
      · obtain rfl : j = N := by omega
        have hq := HI.out.over HRUN.out (by rw [HN.out]; exact Nat.le_refl _)
        subst hq
        obtain ⟨⟨z0, z1, z2, z3, z4⟩, ⟨y0, y1, y2, y3, y4⟩⟩ := (E2.out.go HI.out.jw.bel).ev
        go_wp2_with fail
        refine (HO.out _).mono ?_
        rintro r w3 ⟨rfl, b3⟩
        have J3 := Lib.hid (HI.out.jw.go b3)
        clear b3 z0 z1 z2 z3 z4 y0 y1 y2 y3 y4
        go_wp2_with fail
        refine (doneQ J3.out.at_).mono ?_
        rintro r w5 ⟨rfl, rfl⟩
        go_wp2
        go_ret
        exact ⟨rfl, up_trans BW.out J3.out.bel⟩
set_option maxRecDepth 100000 in
set_option maxHeartbeats 2000000 in
theorem qends_row (A : Option Addr) (n cp : Nat) (Li : Nat → Int) (e : Ev) (w : World) (hT : NoTab w) (hL : DLAt w w.heap.size A n Li) (hok : EvOk e) :
    Calls Try.prog 5 #[.slice A n cp, evV e] w fun r w' => r = .returned (.bool true) ∧ Below w.heap.size w w' := by
  have HA : Hid (∀ X, Calls Try.prog 10 #[] (w.alloc X) fun r w' => r = .returned (.bool true) ∧ Below w.heap.size w w') := Lib.hid (fun X => (qoalive_any _ (hT.alloc X)).mono (by
    rintro r w' ⟨h1, h2⟩
    exact ⟨h1, up_trans (up_alloc (Below.refl _ _) X) h2⟩))
  by_cases h1 : n ≤ 50
  · by_cases h2 : e.t.size ≤ 100
    · exact qends_in A n cp Li e hok w hT hL h1 h2
    · have c1 : ((50 : Int) < (n : Int)) = False := by simp; omega
      have c2 : ((100 : Int) < (e.t.size : Int)) = True := by simp; omega
      obtain ⟨k, y, m, t, c⟩ := e
      simp only [evV] at *
      clear hT hok h1 h2 hL
      go_enter Try.func5, Try.ntmps5
      go_wp2_with fail
      refine (HA.out _).mono ?_
      rintro r w1 ⟨rfl, b1⟩
      have B1 := Lib.hid b1
      clear b1
      go_wp2
      go_ret
      exact ⟨rfl, B1.out⟩
  · have c1 : ((50 : Int) < (n : Int)) = True := by simp; omega
    obtain ⟨k, y, m, t, c⟩ := e
    simp only [evV] at *
    clear hT hok h1 hL
    go_enter Try.func5, Try.ntmps5
    go_wp2_with fail
    refine (HA.out _).mono ?_
    rintro r w1 ⟨rfl, b1⟩
    have B1 := Lib.hid b1
    clear b1
    go_wp2
    go_ret
    exact ⟨rfl, B1.out⟩
end Go.Proofs.Ytockeedbceopiaa
/-
  TwoQ Writers beside each other; the document's own Writer beside them.
-/
namespace Go.Proofs.Ytockeedbceopiaa
open Go.RowKit
open Go.Lib
/-- TwoQ Writers of their own blocks. -/
structure TwoQ (w0 w : World) (b1 b2 : Nat) (F1 F2 : List Nat) (q1 q2 : Kq) : Prop where
  one : QW w0 w b1 F1 q1
  two : QW w0 w b2 F2 q2
  ne : b1 ≠ b2
  dis : ∀ k ∈ F2, k ∉ F1
theorem QW.not_row {w0 w : World} {b b' : Nat} {F F' : List Nat} {q q' : Kq} (h : QW w0 w b F q) (h' : QW w0 w b' F' q') : b ∉ F' := by
  intro hb
  obtain ⟨_, _, cur, hc⟩ := h'.at_.row b hb
  obtain ⟨cs, fr, hc'⟩ := h.typ
  rw [hc] at hc'
  have : (99 : Nat) = 28 := by injection hc' with hc'; injection hc'
  exact absurd this (by decide)
theorem TwoQ.go {w0 w w' : World} {b1 b2 : Nat} {F1 F2 : List Nat} {q1 q2 : Kq} (h : TwoQ w0 w b1 b2 F1 F2 q1 q2) (k : Below w.heap.size w w') : TwoQ w0 w' b1 b2 F1 F2 q1 q2 := ⟨h.one.go k, h.two.go k, h.ne, h.dis⟩
theorem qstays_beside {w0 w w' : World} {b1 b2 : Nat} {F1 F1' F2 : List Nat} {q1 q2 : Kq} (h1 : QW w0 w b1 F1 q1) (h2 : QW w0 w b2 F2 q2) (ne : b1 ≠ b2) (dis : ∀ k ∈ F2, k ∉ F1) (k : Jf b1 0 F1 F1' w w') : QW w0 w' b2 F2 q2 ∧ (∀ k ∈ F2, k ∉ F1') := by
  have keep : ∀ i, i = b2 ∨ i ∈ F2 → w'.heap[i]? = w.heap[i]? := by
    intro i hi
    refine k.step.block i ?_ ?_
    · rcases hi with rfl | hi
      · exact h2.at_.lt
      · exact (h2.at_.row i hi).1
    · intro hm
      rcases List.mem_cons.1 hm with e | hm
      · rcases hi with rfl | hi
        · exact ne e.symm
        · subst e
          exact h1.not_row h2 hi
      · rcases hi with rfl | hi
        · exact h2.not_row h1 hm
        · exact dis i hi hm
  obtain ⟨cs, fr, hc⟩ := h2.typ
  refine ⟨⟨h2.at_.keep keep, h2.lo, h2.row, h2.bel.trans (k.below h1.lo h1.row h1.bel.size), cs, fr, (keep b2 (.inl rfl)).trans hc⟩, fun i hi hF => ?_⟩
  rcases k.step.foot i (List.mem_cons_of_mem _ hF) with hm | hm
  · rcases List.mem_cons.1 hm with e | hm
    · subst e
      exact h1.not_row h2 hi
    · exact dis i hi hm
  · have := (h2.at_.row i hi).1
    omega
theorem TwoQ.left {w0 w w' : World} {b1 b2 : Nat} {F1 F1' F2 : List Nat} {q1 q1' q2 : Kq} (h : TwoQ w0 w b1 b2 F1 F2 q1 q2) (hj : QW w0 w' b1 F1' q1') (k : Jf b1 0 F1 F1' w w') : TwoQ w0 w' b1 b2 F1' F2 q1' q2 := by
  obtain ⟨h1, h2⟩ := qstays_beside h.one h.two h.ne h.dis k
  exact ⟨hj, h1, h.ne, h2⟩
theorem TwoQ.right {w0 w w' : World} {b1 b2 : Nat} {F1 F2 F2' : List Nat} {q1 q2 q2' : Kq} (h : TwoQ w0 w b1 b2 F1 F2 q1 q2) (hj : QW w0 w' b2 F2' q2') (k : Jf b2 0 F2 F2' w w') : TwoQ w0 w' b1 b2 F1 F2' q1 q2' := by
  obtain ⟨h1, h2⟩ := qstays_beside h.two h.one (fun e => h.ne e.symm) (fun k h1 h2 => h.dis k h2 h1) k
  exact ⟨h1, hj, h.ne, fun k hk hF => h2 k hF hk⟩
theorem twoq_new (w : World) : TwoQ w ((w.alloc (.cells #[.slice none 0 0, .bool false] 28)).alloc (.cells #[.slice none 0 0, .bool false] 28)) w.heap.size (w.heap.size + 1) [] [] ⟨[], false⟩ ⟨[], false⟩ := by
  have h2 := qw_new w (w.alloc (.cells #[.slice none 0 0, .bool false] 28)) (up_alloc (Below.refl _ _) _)
  have e : (w.alloc (.cells #[.slice none 0 0, .bool false] 28)).heap.size = w.heap.size + 1 := by simp
  rw [e] at h2
  exact ⟨(qw_new w w (Below.refl _ _)).go (up_alloc (Below.refl _ _) _), h2, by omega, fun k hk => by simp at hk⟩
/-- The document's own Writer in the midst of a document. -/
structure QPrI (w5 wq : World) (L : List Ev) (i : Nat) (q : Kq) : Prop where
  wr : WkAt i 0 wq w5.heap.size q.s q.dn
  st : q = ckQ (runC (.live []) (L.take i))
  dep : dpQ q.s ≤ i
  bel : Below w5.heap.size w5 wq
theorem qpr_new (w : World) (L : List Ev) : QPrI w (w.alloc (.cells #[.int .i64 2, .slice none 0 0, .bool false] 32)) L 0 ⟨[], false⟩ :=
  ⟨⟨⟨none, 0, jat_block (heap_alloc_new w _), ⟨Win.nil_ _ _ _, fun k hk => by simp [Value.owner] at hk, fun b hb => by simp at hb, by simp, by omega⟩⟩, ⟨_, heap_alloc_new w _⟩, Nat.zero_le _⟩, rfl, by simp [dpQ], up_alloc (Below.refl _ _) _⟩
theorem QPrI.go {w5 wq w' : World} {L : List Ev} {i : Nat} {q : Kq} (h : QPrI w5 wq L i q) (k : Below wq.heap.size wq w') : QPrI w5 w' L i q := ⟨h.wr.go k, h.st, h.dep, h.bel.trans (k.mono h.bel.size)⟩
theorem QPrI.step {w5 wq : World} {L : List Ev} {i : Nat} {q : Kq} (h : QPrI w5 wq L i q) (hr : runC (.live []) L = .done) (hi : i < L.length) (hi9 : i ≤ 700) (hde : DocE L[i]) :
    Calls Try.prog 13 #[.pointer (some ⟨w5.heap.size, 0, none⟩), evV L[i]] wq fun r w' => ∃ v, r = .returned v ∧ QPrI w5 w' L (i + 1) (stepQ q L[i]).2 := by
  obtain ⟨s, hs, h1, h2⟩ := qlive_at hr hi
  have hq := h.st
  rw [hs] at hq
  subst hq
  refine (wk_part h.wr (by omega) (by have := h.dep; omega) L[i] (docE_small hde).1 (docE_small hde).2).mono ?_
  rintro r w' ⟨e1, e2, e3⟩
  refine ⟨_, e1, e2, ?_, ?_, h.bel.trans (e3.below h.bel.size (Nat.le_refl _))⟩
  · rw [runC_take hi, hs]
    exact h2
  · have := qstep_dp (ckQ (.live s)) L[i]
    have := h.dep
    omega
/-- What it tells of another part. -/
theorem QPrI.tells {w5 wq : World} {L : List Ev} {i : Nat} {q : Kq} (h : QPrI w5 wq L i q) (hi9 : i ≤ 700) (e : Ev) (hok : EvOk e) (ht : e.t.size ≤ 1000) :
    Calls Try.prog 13 #[.pointer (some ⟨w5.heap.size, 0, none⟩), evV (tidyE e)] wq fun r w' => ∃ Z : ByteArray, r = .returned (.tuple #[.string Z, .int .i64 ((stepQ q e).1.2 : Nat)]) ∧ Below w5.heap.size w5 w' := by
  obtain ⟨h1, h2⟩ := tidy_ok hok ht
  have := wk_part h.wr (by omega) (by have := h.dep; omega) (tidyE e) h1 h2
  rw [stepQ_tidy] at this
  refine this.mono ?_
  rintro r w' ⟨e1, e2, e3⟩
  exact ⟨_, e1, h.bel.trans (e3.below h.bel.size (Nat.le_refl _))⟩
/-- In the midst of the law. -/
structure QRefI (w0 wr : World) (L : List Ev) (j : Nat) (q : Kq) (F1 F2 : List Nat) : Prop where
  two : TwoQ w0 wr w0.heap.size (w0.heap.size + 1) F1 F2 q q
  st : q = ckQ (runC (.live []) (L.take j))
  dep : dpQ q.s ≤ j
theorem QRefI.go {w0 wr w' : World} {L : List Ev} {j : Nat} {q : Kq} {F1 F2 : List Nat} (h : QRefI w0 wr L j q F1 F2) (k : Below wr.heap.size wr w') : QRefI w0 w' L j q F1 F2 := ⟨h.two.go k, h.st, h.dep⟩
theorem QRefI.live {w0 wr : World} {L : List Ev} {j : Nat} {q : Kq} {F1 F2 : List Nat} (h : QRefI w0 wr L j q F1 F2) (hr : runC (.live []) L = .done) (hj : j < L.length) :
    q.dn = false ∧ (stepQ q L[j]).1.2 = 0 ∧ (stepQ q L[j]).2 = ckQ (runC (.live []) (L.take (j + 1))) := by
  obtain ⟨s, hs, h1, h2⟩ := qlive_at hr hj
  have hq := h.st
  rw [hs] at hq
  subst hq
  exact ⟨rfl, h1, by rw [runC_take hj, hs]; exact h2⟩
theorem QRefI.over {w0 wr : World} {L : List Ev} {j : Nat} {q : Kq} {F1 F2 : List Nat} (h : QRefI w0 wr L j q F1 F2) (hr : runC (.live []) L = .done) (hj : L.length ≤ j) : q = ⟨[], true⟩ := by
  have hq := h.st
  rw [List.take_of_length_le hj, hr] at hq
  exact hq
end Go.Proofs.Ytockeedbceopiaa
/-
  A Writer and the document's own beside each other, part by part; the document's own over all parts.
-/
namespace Go.Proofs.Ytockeedbceopiaa
open Go.RowKit
open Go.Lib
theorem WkAt.off {M b : Nat} {w w' : World} {s : List Bx} {dn : Bool} {ts : List Nat} (h : WkAt M 0 w b s dn) (k : Off ts w w') (h1 : 32 ∉ ts) (h2 : 69 ∉ ts) : WkAt M 0 w' b s dn := by
  obtain ⟨a, cp, hA, hS⟩ := h.cells
  obtain ⟨cs, hc⟩ := h.blk
  have hb := k _ _ _ _ hc h1
  refine ⟨⟨a, cp, hA.keep (hb.trans hc.symm), ⟨hS.win.keep fun i hi => ?_, hS.vB, hS.ok, hS.deep, hS.most⟩⟩, ⟨cs, hb⟩, Nat.zero_le _⟩
  obtain ⟨cur, hr⟩ := hS.win.typed i hi
  rw [hr, k _ _ _ _ hr h2]
theorem QW.beside {w0 w w' : World} {b br : Nat} {F : List Nat} {q : Kq} {cs : Array Value} (h : QW w0 w b F q) (k : Bew w.heap.size br w w') (hr : w.heap[br]? = some (.cells cs 32 (0, 0))) (hlo : w0.heap.size ≤ br) : QW w0 w' b F q := by
  obtain ⟨c1, fr, hc⟩ := h.typ
  have keep : ∀ i, i = b ∨ i ∈ F → w'.heap[i]? = w.heap[i]? := by
    intro i hi
    have hlt : i < w.heap.size := by
      rcases hi with rfl | hi
      · exact h.at_.lt
      · exact (h.at_.row i hi).1
    refine k.block i hlt ?_
    intro e
    subst e
    rcases hi with e | hi
    · subst e
      rw [hr] at hc
      have : (32 : Nat) = 28 := by injection hc with hc; injection hc
      exact absurd this (by decide)
    · obtain ⟨_, _, cur, hx⟩ := h.at_.row i hi
      rw [hr] at hx
      have : (32 : Nat) = 99 := by injection hx with hx; injection hx
      exact absurd this (by decide)
  exact ⟨h.at_.keep keep, h.lo, h.row, h.bel.trans (k.below h.bel.size hlo), c1, fr, (keep b (.inl rfl)).trans hc⟩
/-- In the midst of the first loop. -/
structure QTelI (w0 wr : World) (j : Nat) (q : Kq) (F : List Nat) : Prop where
  jw : QW w0 wr w0.heap.size F q
  rf : WkAt j 0 wr (w0.heap.size + 1) q.s q.dn
  dep : dpQ q.s ≤ j
theorem QTelI.go {w0 wr w' : World} {j : Nat} {q : Kq} {F : List Nat} (h : QTelI w0 wr j q F) (k : Below wr.heap.size wr w') : QTelI w0 w' j q F := ⟨h.jw.go k, h.rf.go k, h.dep⟩
theorem qtel_new (w : World) : QTelI w ((w.alloc (.cells #[.slice none 0 0, .bool false] 28)).alloc (.cells #[.int .i64 2, .slice none 0 0, .bool false] 32)) 0 ⟨[], false⟩ [] := by
  refine ⟨(qw_new w w (Below.refl _ _)).go (up_alloc (Below.refl _ _) _), ?_, by simp [dpQ]⟩
  have h := (qpr_new (w.alloc (.cells #[.slice none 0 0, .bool false] 28)) []).wr
  have e : (w.alloc (.cells #[.slice none 0 0, .bool false] 28)).heap.size = w.heap.size + 1 := by simp
  rw [e] at h
  exact h
/-- The Writer has stepped; the document's own has not yet. -/
structure QTelH (w0 wr : World) (j : Nat) (q q' : Kq) (F : List Nat) : Prop where
  jw : QW w0 wr w0.heap.size F q'
  rf : WkAt j 0 wr (w0.heap.size + 1) q.s q.dn
  dep : dpQ q.s ≤ j ∧ dpQ q'.s ≤ j + 1
theorem QTelH.go {w0 wr w' : World} {j : Nat} {q q' : Kq} {F : List Nat} (h : QTelH w0 wr j q q' F) (k : Below wr.heap.size wr w') : QTelH w0 w' j q q' F := ⟨h.jw.go k, h.rf.go k, h.dep⟩
theorem QTelI.half {w0 wr w' : World} {j : Nat} {q q' : Kq} {F F' : List Nat} (h : QTelI w0 wr j q F) (hj : QW w0 w' w0.heap.size F' q') (k : Jf w0.heap.size 0 F F' wr w') (hd : dpQ q'.s ≤ dpQ q.s + 1) : QTelH w0 w' j q q' F' :=
  ⟨hj, h.rf.off (h.jw.off k) (by decide) (by decide), h.dep, Nat.le_trans hd (Nat.succ_le_succ h.dep)⟩
theorem QTelI.step {w0 wr : World} {j : Nat} {q : Kq} {F : List Nat} (h : QTelI w0 wr j q F) (hT : NoTab w0) (hj : j ≤ 700) (e : Ev) (hm : mayE e) (hok : EvOk e) (ht : e.t.size ≤ 1000) :
    Calls Try.prog 12 #[.pointer (some ⟨w0.heap.size, 0, none⟩), valE e] wr fun r w' => r = .returned (.tuple #[.string ⟨(stepQ q e).1.1.toArray⟩, .int .i64 ((stepQ q e).1.2 : Nat)]) ∧ ∃ F', QTelH w0 w' j q (stepQ q e).2 F' := by
  refine (qv_step h.jw hT (by have := h.dep; omega) e hm hok ht).mono ?_
  rintro r w' ⟨h1, F', h2, h3⟩
  exact ⟨h1, F', h.half h2 h3 (qstep_dp q e)⟩
theorem QTelI.noPart {w0 wr : World} {j : Nat} {q : Kq} {F : List Nat} (h : QTelI w0 wr j q F) (e : Ev) (hm : ¬ mayE e) (v : Value) (hP : ∀ W, Calls Try.prog 36 #[v] W fun r w' => r = .returned (.tuple #[evV evZ, .bool false]) ∧ Below W.heap.size W w') :
    Calls Try.prog 12 #[.pointer (some ⟨w0.heap.size, 0, none⟩), v] wr fun r w' => r = .returned (.tuple #[.string ⟨(stepQ q e).1.1.toArray⟩, .int .i64 ((stepQ q e).1.2 : Nat)]) ∧ ∃ F', QTelH w0 w' j q (stepQ q e).2 F' := by
  rw [stepQ_bad q e (.inl hm)]
  refine (qo_other h.jw.at_ v evZ hP).mono ?_
  rintro r w' ⟨h1, h2, h3⟩
  exact ⟨h1, F, h.half (h.jw.next h2 h3) h3 (Nat.le_succ _)⟩
theorem QTelH.step {w0 wr : World} {j : Nat} {q : Kq} {F : List Nat} (e : Ev) (h : QTelH w0 wr j q (stepQ q e).2 F) (hj : j ≤ 700) (hok : EvOk e) (ht : e.t.size ≤ 1000) :
    Calls Try.prog 13 #[.pointer (some ⟨w0.heap.size + 1, 0, none⟩), evV (tidyE e)] wr fun r w' => r = .returned (.tuple #[.string ⟨(stepQ q e).1.1.toArray⟩, .int .i64 ((stepQ q e).1.2 : Nat)]) ∧ QTelI w0 w' (j + 1) (stepQ q e).2 F := by
  obtain ⟨h1, h2⟩ := tidy_ok hok ht
  have := wk_part h.rf (by omega) (by have := h.dep; omega) (tidyE e) h1 h2
  rw [stepQ_tidy] at this
  refine this.mono ?_
  rintro r w' ⟨e1, e2, e3⟩
  obtain ⟨cs, hcs⟩ := h.rf.blk
  exact ⟨e1, h.jw.beside e3 hcs (by omega), e2, h.dep.2⟩
/-- The document's own Writer over all parts, in the midst. -/
structure QTelJ (w5 wr : World) (L : List Ev) (j : Nat) (q : Kq) (acc : List UInt8) : Prop where
  rf : WkAt j 0 wr w5.heap.size q.s q.dn
  bel : Below w5.heap.size w5 wr
  eq : allQ ⟨[], false⟩ L = (acc ++ (allQ q (L.drop j)).1, (allQ q (L.drop j)).2)
  len : acc.length ≤ 2000 * j
  dep : dpQ q.s ≤ j
theorem qtelj_new (w : World) (L : List Ev) : QTelJ w (w.alloc (.cells #[.int .i64 2, .slice none 0 0, .bool false] 32)) L 0 ⟨[], false⟩ [] :=
  ⟨(qpr_new w []).wr, up_alloc (Below.refl _ _) _, by simp, by simp, by simp [dpQ]⟩
theorem QTelJ.go {w5 wr w' : World} {L : List Ev} {j : Nat} {q : Kq} {acc : List UInt8} (h : QTelJ w5 wr L j q acc) (k : Below wr.heap.size wr w') : QTelJ w5 w' L j q acc := ⟨h.rf.go k, h.bel.trans (k.mono h.bel.size), h.eq, h.len, h.dep⟩
theorem QTelJ.over {w5 wr : World} {L : List Ev} {j : Nat} {q : Kq} {acc : List UInt8} (h : QTelJ w5 wr L j q acc) (hj : L.length ≤ j) : allQ ⟨[], false⟩ L = (acc, if q.dn = true then 0 else 3) := by
  have := h.eq
  rw [List.drop_of_length_le hj] at this
  rw [this]
  simp [allQ]
theorem QTelJ.noPart {w5 wr : World} {L : List Ev} {j : Nat} {q : Kq} {acc : List UInt8} (h : QTelJ w5 wr L j q acc) (hj : j < L.length) (hm : ¬ mayE L[j]) : allQ ⟨[], false⟩ L = (acc, 1) := by
  have := h.eq
  rw [qdrop_at hj, allQ_cons_bad hm] at this
  simpa using this
theorem QTelJ.fail {w5 wr : World} {L : List Ev} {j : Nat} {q : Kq} {acc : List UInt8} (h : QTelJ w5 wr L j q acc) (hj : j < L.length) (hm : mayE L[j]) (h0 : (stepQ q L[j]).1.2 ≠ 0) : allQ ⟨[], false⟩ L = (acc, (stepQ q L[j]).1.2) := by
  have := h.eq
  rw [qdrop_at hj, allQ_cons_err hm h0] at this
  simpa using this
/-- What stands behind a step: goes on, or the first error. -/
def QTelR (w5 wr : World) (L : List Ev) (j bad : Nat) (acc : List UInt8) : Prop :=
  (bad = 0 ∧ ∃ q, QTelJ w5 wr L j q acc) ∨ (bad ≠ 0 ∧ allQ ⟨[], false⟩ L = (acc, bad) ∧ Below w5.heap.size w5 wr ∧ acc.length ≤ 2000 * j)
theorem QTelJ.step {w5 wr : World} {L : List Ev} {j : Nat} {q : Kq} {acc : List UInt8} (h : QTelJ w5 wr L j q acc) (hj : j < L.length) (hj9 : j ≤ 700) (hm : mayE L[j]) (hok : EvOk L[j]) (ht : L[j].t.size ≤ 1000) :
    Calls Try.prog 13 #[.pointer (some ⟨w5.heap.size, 0, none⟩), evV L[j]] wr fun r w' => r = .returned (.tuple #[.string ⟨(stepQ q L[j]).1.1.toArray⟩, .int .i64 ((stepQ q L[j]).1.2 : Nat)]) ∧ QTelR w5 w' L (j + 1) (stepQ q L[j]).1.2 (acc ++ (stepQ q L[j]).1.1) := by
  refine (wk_part h.rf (by omega) (by have := h.dep; omega) L[j] hok ht).mono ?_
  rintro r w' ⟨e1, e2, e3⟩
  have hb : Below w5.heap.size w5 w' := h.bel.trans (e3.below h.bel.size (Nat.le_refl _))
  refine ⟨e1, ?_⟩
  by_cases h0 : (stepQ q L[j]).1.2 = 0
  · refine .inl ⟨h0, (stepQ q L[j]).2, e2, hb, ?_, ?_, ?_⟩
    · have := h.eq
      rw [qdrop_at hj, allQ_cons_ok hm h0] at this
      rw [this]
      simp
    · have h1 := qstep_size q L[j] ht
      have := h.len
      rw [List.length_append]
      omega
    · have := qstep_dp q L[j]
      have := h.dep
      omega
  · have hf := h.fail hj hm h0
    have hn := qstep_err_nil h0
    refine .inr ⟨h0, ?_, hb, ?_⟩
    · rw [hf, hn]
      simp
    · rw [hn]
      have := h.len
      simp
      omega
end Go.Proofs.Ytockeedbceopiaa
/-
  LAWS of chapter 14: CboroutCounts.
-/
namespace Go.Proofs.Ytockeedbceopiaa
open Go.RowKit
open Go.Lib
/-- In the midst: so many texts have come. -/
structure CntI (w0 wr : World) (m : Bool) (N W j : Nat) (F : List Nat) : Prop where
  jw : QW w0 wr w0.heap.size F ⟨[⟨m, N, min j W⟩], false⟩
theorem cnt_dp (m : Bool) (N i : Nat) : dpQ [⟨m, (N : Int), i⟩] = max 1 i := by
  unfold dpQ
  simp
theorem cnt_a (m : Bool) (N i : Nat) : writeK [⟨m, (N : Int), i⟩] ⟨3, false, 0, ⟨#[97]⟩, 0⟩ = [97, 97] := by
  rw [writeK_any (by simp)]
  decide +kernel
/-- A text more. -/
theorem CntI.text {w0 wr : World} {m : Bool} {N W j : Nat} {F : List Nat} (h : CntI w0 wr m N W j F) (hW : W = if m = true then 2 * N else N) (hN : N ≤ 30) :
    Calls Try.prog 12 #[.pointer (some ⟨w0.heap.size, 0, none⟩), .iface 59 (.string ⟨#[97]⟩)] wr fun r w' => r = .returned (.tuple #[.string ⟨(if j < W then [(97 : UInt8), 97] else []).toArray⟩, .int .i64 ((if j < W then 0 else 14 : Nat) : Int)]) ∧ ∃ F', CntI w0 w' m N W (j + 1) F' := by
  have hm : mayE ⟨3, false, 0, ⟨#[97]⟩, 0⟩ := ⟨by simp, by simp, fun h => by simp at h⟩
  have hok : EvOk ⟨3, false, 0, ⟨#[97]⟩, 0⟩ := ⟨by constructor <;> simp, by simp, by constructor <;> simp, by decide⟩
  have hq := counts_text (m := m) (N := N) (i := min j W) hm rfl
  rw [cnt_a, ← hW] at hq
  have hW60 : W ≤ 60 := by rw [hW]; split <;> omega
  have hd : dpQ [⟨m, (N : Int), min j W⟩] ≤ 900 := by rw [cnt_dp]; omega
  by_cases hj : j < W
  · rw [if_pos (by omega)] at hq
    rw [if_pos hj, if_pos hj]
    refine (qw_to h.jw trivial hd _ hm hok (by decide) hq (v := .iface 59 (.string ⟨#[97]⟩)) rfl).mono ?_
    rintro r w' ⟨h1, F', h2, _⟩
    refine ⟨h1, F', ⟨?_⟩⟩
    rwa [show min (j + 1) W = min j W + 1 by omega]
  · rw [if_neg (by omega)] at hq
    rw [if_neg hj, if_neg hj]
    refine (qw_to h.jw trivial hd _ hm hok (by decide) hq (v := .iface 59 (.string ⟨#[97]⟩)) rfl).mono ?_
    rintro r w' ⟨h1, F', h2, _⟩
    refine ⟨h1, F', ⟨?_⟩⟩
    rwa [show min (j + 1) W = min j W by omega]
/-- Its end. -/
theorem CntI.fin {w0 wr : World} {m : Bool} {N W j : Nat} {F : List Nat} (h : CntI w0 wr m N W j F) (hW : W = if m = true then 2 * N else N) (hN : N ≤ 30) :
    Calls Try.prog 12 #[.pointer (some ⟨w0.heap.size, 0, none⟩), .iface 61 (.agg #[])] wr fun r w' => r = .returned (.tuple #[.string ⟨#[]⟩, .int .i64 ((if W ≤ j then 0 else 14 : Nat) : Int)]) ∧ ∃ F' q, QW w0 w' w0.heap.size F' q ∧ q.dn = decide (W ≤ j) := by
  have hm : mayE evEnd := by decide
  have hok : EvOk evEnd := ⟨by constructor <;> simp [evEnd], by simp [evEnd], by constructor <;> simp [evEnd], by decide⟩
  have hq := counts_end (m := m) (N := N) (i := min j W) (by rw [← hW]; omega)
  rw [← hW] at hq
  have hW60 : W ≤ 60 := by rw [hW]; split <;> omega
  have hd : dpQ [⟨m, (N : Int), min j W⟩] ≤ 900 := by rw [cnt_dp]; omega
  by_cases hj : W ≤ j
  · rw [if_pos (by omega)] at hq
    rw [if_pos hj]
    refine (qw_to h.jw trivial hd _ hm hok (by decide) hq (v := .iface 61 (.agg #[])) rfl).mono ?_
    rintro r w' ⟨h1, F', h2, _⟩
    exact ⟨h1, F', _, h2, by simp [hj]⟩
  · rw [if_neg (by omega)] at hq
    rw [if_neg hj]
    refine (qw_to h.jw trivial hd _ hm hok (by decide) hq (v := .iface 61 (.agg #[])) rfl).mono ?_
    rintro r w' ⟨h1, F', h2, _⟩
    exact ⟨h1, F', _, h2, by simp [hj]⟩
/-- Its begin. -/
theorem cnt_new {w : World} (m : Bool) (N W : Nat) (hN : N ≤ 30) :
    ∃ Z, Calls Try.prog 12 #[.pointer (some ⟨w.heap.size, 0, none⟩), .iface 58 (.agg #[.bool m, .int .i64 (N : Int)])] (w.alloc (.cells #[.slice none 0 0, .bool false] 28)) fun r w' => r = .returned (.tuple #[.string Z, .int .i64 0]) ∧ ∃ F', CntI w w' m N W 0 F' := by
  have hm : mayE ⟨if m = true then 6 else 5, false, 0, ⟨#[]⟩, N⟩ := by cases m <;> exact ⟨by simp, by simp, fun _ => by simp only; omega⟩
  have hok : EvOk ⟨if m = true then 6 else 5, false, 0, ⟨#[]⟩, N⟩ := by cases m <;> exact ⟨by constructor <;> simp, by simp, by constructor <;> (simp only; omega), by show (0 : Nat) ≤ _; omega⟩
  have hq := stepQ_open (s := []) (e := ⟨if m = true then 6 else 5, false, 0, ⟨#[]⟩, N⟩) hm (by cases m <;> simp) rfl rfl
  refine ⟨⟨(writeK [] ⟨if m = true then 6 else 5, false, 0, ⟨#[]⟩, N⟩).toArray⟩, (qw_to (qw_new w w (Below.refl _ _)) trivial (by simp [dpQ]) _ hm hok (by show 0 ≤ _; omega) hq (v := .iface 58 (.agg #[.bool m, .int .i64 (N : Int)])) (by cases m <;> rfl)).mono ?_⟩
  rintro r w' ⟨h1, F', h2, _⟩
  refine ⟨h1, F', ⟨?_⟩⟩
  have e1 : min 0 W = 0 := by omega
  have e2 : (decide ((if m = true then (6 : Int) else 5) = 6)) = m := by cases m <;> rfl
  rw [e1]
  simpa [e2, incB] using h2
set_option maxRecDepth 100000 in
set_option maxHeartbeats 8000000 in
theorem qcounts_in (N K : Nat) (m : Bool) (w : World) (hN : N ≤ 30) (hK : K ≤ 70) :
    Calls Try.prog 8 #[.int .i64 (N : Int), .int .i64 (K : Int), .bool m] w fun r w' => r = .returned (.bool true) ∧ Below w.heap.size w w' := by
  have HAL := Lib.hid (qalive_any w)
  have c1 : ((N : Int) < 0) = False := by simp
  have c2 : ((30 : Int) < (N : Int)) = False := by simp; omega
  have c3 : ((K : Int) < 0) = False := by simp
  have c4 : ((70 : Int) < (K : Int)) = False := by simp; omega
  obtain ⟨W, hW⟩ : ∃ W : Nat, W = if m = true then 2 * N else N := ⟨_, rfl⟩
  have hW60 : W ≤ 60 := by rw [hW]; split <;> omega
  have HNEW := Lib.hid (fun w => cnt_new (w := w) m N W hN)
  have HTX := Lib.hid (fun w0 wr j F (h : CntI w0 wr m N W j F) => h.text hW hN)
  have HFI := Lib.hid (fun w0 wr j F (h : CntI w0 wr m N W j F) => h.fin hW hN)
  have HW : Hid (((W : Nat) : Int) = if m = true then 2 * (N : Int) else (N : Int)) := Lib.hid (by rw [hW]; split <;> omega)
  clear hW
  go_enter Try.func8, Try.ntmps8
  go_wp2_with fail
  refine HAL.out.mono ?_
  rintro e w1 ⟨rfl, b1⟩
  have B1 := Lib.hid b1
  clear b1
  obtain ⟨Z0, hN0⟩ := HNEW.out w1
  have HN0 := Lib.hid hN0
  clear hN0
  have hwm : IntKind.i64.wrap (2 * (N : Int)) = 2 * (N : Int) := by simp only [IntKind.wrap_i64]; omega
  cases m with
  | false =>
    have hWe := HW.out
    simp only [Bool.false_eq_true, if_false] at hWe
    clear HW
    go_wp2_with fail
    refine HN0.out.mono ?_
    rintro r w2 ⟨rfl, F2, h2⟩
    have H2 := Lib.hid h2
    clear h2
    go_wp2
    go_loopw [11, 12, 13] (fun i _ _ wr => ∃ (j : Nat) (F : List Nat), i = .int .i64 j ∧ j ≤ K ∧ Hid (CntI w1 wr false N W j F)) (fun i _ _ _ => K - (RowKit.intOf i).toNat)
    case atStart => exact ⟨0, _, rfl, Nat.zero_le _, H2⟩
    case round =>
      obtain ⟨j, F, rfl, hj, HI⟩ := hrel
      clear H2
      by_cases hlt : j < K
      · have hs := HTX.out _ _ _ _ HI.out
        by_cases hjW : j < W
        · rw [if_pos hjW, if_pos hjW] at hs
          have HS := Lib.hid hs
          have c5 : ((j : Int) < (N : Int)) = True := by simp; omega
          clear hs hWe
          generalize (⟨[(97 : UInt8), 97].toArray⟩ : ByteArray) = Z1 at *
          go_wp2_with fail
          refine HS.out.mono ?_
          rintro r w3 ⟨rfl, F3, h3⟩
          have H3 := Lib.hid h3
          clear h3
          go_wp2
          go_roundw
          case rel => exact ⟨j + 1, _, rfl, hlt, H3⟩
          case measure => simp [RowKit.intOf]; omega
        · rw [if_neg hjW, if_neg hjW] at hs
          have HS := Lib.hid hs
          have c5 : ((j : Int) < (N : Int)) = False := by simp; omega
          clear hs hWe
          generalize (⟨([] : List UInt8).toArray⟩ : ByteArray) = Z1 at *
          go_wp2_with fail
          refine HS.out.mono ?_
          rintro r w3 ⟨rfl, F3, h3⟩
          have H3 := Lib.hid h3
          clear h3
          go_wp2
          go_roundw
          case rel => exact ⟨j + 1, _, rfl, hlt, H3⟩
          case measure => simp [RowKit.intOf]; omega
      · obtain rfl : j = K := by omega
        have hs := HFI.out _ _ _ _ HI.out
        by_cases hjW : W ≤ j
        · rw [if_pos hjW, decide_eq_true hjW] at hs
          have HS := Lib.hid hs
          have c5 : ((N : Int) ≤ (j : Int)) = True := by simp; omega
          clear hs hWe
          go_wp2_with fail
          refine HS.out.mono ?_
          rintro r w3 ⟨rfl, F3, q3, h3, hd3⟩
          have HD := doneQ h3.at_
          rw [hd3] at HD
          have HD := Lib.hid HD
          have B3 := Lib.hid (up_trans B1.out h3.bel)
          clear h3 hd3
          go_wp2_with fail
          refine HD.out.mono ?_
          rintro r w4 ⟨rfl, rfl⟩
          go_wp2
          go_ret
          exact ⟨rfl, B3.out⟩
        · rw [if_neg hjW, decide_eq_false hjW] at hs
          have HS := Lib.hid hs
          have c5 : ((N : Int) ≤ (j : Int)) = False := by simp; omega
          clear hs hWe
          go_wp2_with fail
          refine HS.out.mono ?_
          rintro r w3 ⟨rfl, F3, q3, h3, hd3⟩
          have HD := doneQ h3.at_
          rw [hd3] at HD
          have HD := Lib.hid HD
          have B3 := Lib.hid (up_trans B1.out h3.bel)
          clear h3 hd3
          go_wp2_with fail
          refine HD.out.mono ?_
          rintro r w4 ⟨rfl, rfl⟩
          go_wp2
          go_ret
          exact ⟨rfl, B3.out⟩
  | true =>
    have hWe := HW.out
    simp only [if_true] at hWe
    clear HW
    go_wp2_with fail
    refine HN0.out.mono ?_
    rintro r w2 ⟨rfl, F2, h2⟩
    have H2 := Lib.hid h2
    clear h2
    go_wp2
    go_loopw [11, 12, 13] (fun i _ _ wr => ∃ (j : Nat) (F : List Nat), i = .int .i64 j ∧ j ≤ K ∧ Hid (CntI w1 wr true N W j F)) (fun i _ _ _ => K - (RowKit.intOf i).toNat)
    case atStart => exact ⟨0, _, rfl, Nat.zero_le _, H2⟩
    case round =>
      obtain ⟨j, F, rfl, hj, HI⟩ := hrel
      clear H2
      by_cases hlt : j < K
      · have hs := HTX.out _ _ _ _ HI.out
        by_cases hjW : j < W
        · rw [if_pos hjW, if_pos hjW] at hs
          have HS := Lib.hid hs
          have c5 : ((j : Int) < 2 * (N : Int)) = True := by simp; omega
          clear hs hWe
          generalize (⟨[(97 : UInt8), 97].toArray⟩ : ByteArray) = Z1 at *
          go_wp2_with fail
          refine HS.out.mono ?_
          rintro r w3 ⟨rfl, F3, h3⟩
          have H3 := Lib.hid h3
          clear h3
          go_wp2
          go_roundw
          case rel => exact ⟨j + 1, _, rfl, hlt, H3⟩
          case measure => simp [RowKit.intOf]; omega
        · rw [if_neg hjW, if_neg hjW] at hs
          have HS := Lib.hid hs
          have c5 : ((j : Int) < 2 * (N : Int)) = False := by simp; omega
          clear hs hWe
          generalize (⟨([] : List UInt8).toArray⟩ : ByteArray) = Z1 at *
          go_wp2_with fail
          refine HS.out.mono ?_
          rintro r w3 ⟨rfl, F3, h3⟩
          have H3 := Lib.hid h3
          clear h3
          go_wp2
          go_roundw
          case rel => exact ⟨j + 1, _, rfl, hlt, H3⟩
          case measure => simp [RowKit.intOf]; omega
      · obtain rfl : j = K := by omega
        have hs := HFI.out _ _ _ _ HI.out
        by_cases hjW : W ≤ j
        · rw [if_pos hjW, decide_eq_true hjW] at hs
          have HS := Lib.hid hs
          have c5 : (2 * (N : Int) ≤ (j : Int)) = True := by simp; omega
          clear hs hWe
          go_wp2_with fail
          refine HS.out.mono ?_
          rintro r w3 ⟨rfl, F3, q3, h3, hd3⟩
          have HD := doneQ h3.at_
          rw [hd3] at HD
          have HD := Lib.hid HD
          have B3 := Lib.hid (up_trans B1.out h3.bel)
          clear h3 hd3
          go_wp2_with fail
          refine HD.out.mono ?_
          rintro r w4 ⟨rfl, rfl⟩
          go_wp2
          go_ret
          exact ⟨rfl, B3.out⟩
        · rw [if_neg hjW, decide_eq_false hjW] at hs
          have HS := Lib.hid hs
          have c5 : (2 * (N : Int) ≤ (j : Int)) = False := by simp; omega
          clear hs hWe
          go_wp2_with fail
          refine HS.out.mono ?_
          rintro r w3 ⟨rfl, F3, q3, h3, hd3⟩
          have HD := doneQ h3.at_
          rw [hd3] at HD
          have HD := Lib.hid HD
          have B3 := Lib.hid (up_trans B1.out h3.bel)
          clear h3 hd3
          go_wp2_with fail
          refine HD.out.mono ?_
          rintro r w4 ⟨rfl, rfl⟩
          go_wp2
          go_ret
          exact ⟨rfl, B3.out⟩
set_option maxRecDepth 100000 in
set_option maxHeartbeats 2000000 in
theorem qcounts_row (n k : Int) (m : Bool) (w : World) :
    Calls Try.prog 8 #[.int .i64 n, .int .i64 k, .bool m] w fun r w' => r = .returned (.bool true) ∧ Below w.heap.size w w' := by
  by_cases h1 : n < 0 ∨ 30 < n ∨ k < 0 ∨ 70 < k
  · have HAL := Lib.hid (qalive_any w)
    by_cases a1 : n < 0
    · have c1 : (n < 0) = True := by simp [a1]
      clear h1 a1
      go_enter Try.func8, Try.ntmps8
      go_wp2_with fail
      refine HAL.out.mono ?_
      rintro e w1 ⟨rfl, b1⟩
      have B1 := Lib.hid b1
      clear b1
      go_wp2
      go_ret
      exact ⟨rfl, B1.out⟩
    have c1 : (n < 0) = False := by simp; omega
    by_cases a2 : 30 < n
    · have c2 : (30 < n) = True := by simp [a2]
      clear h1 a1 a2
      go_enter Try.func8, Try.ntmps8
      go_wp2_with fail
      refine HAL.out.mono ?_
      rintro e w1 ⟨rfl, b1⟩
      have B1 := Lib.hid b1
      clear b1
      go_wp2
      go_ret
      exact ⟨rfl, B1.out⟩
    have c2 : (30 < n) = False := by simp; omega
    by_cases a3 : k < 0
    · have c3 : (k < 0) = True := by simp [a3]
      clear h1 a1 a2 a3
      go_enter Try.func8, Try.ntmps8
      go_wp2_with fail
      refine HAL.out.mono ?_
      rintro e w1 ⟨rfl, b1⟩
      have B1 := Lib.hid b1
      clear b1
      go_wp2
      go_ret
      exact ⟨rfl, B1.out⟩
    have c3 : (k < 0) = False := by simp; omega
    have c4 : (70 < k) = True := by simp; omega
    clear h1 a1 a2 a3
    go_enter Try.func8, Try.ntmps8
    go_wp2_with fail
    refine HAL.out.mono ?_
    rintro e w1 ⟨rfl, b1⟩
    have B1 := Lib.hid b1
    clear b1
    go_wp2
    go_ret
    exact ⟨rfl, B1.out⟩
  · obtain ⟨N, rfl⟩ : ∃ N : Nat, n = N := ⟨n.toNat, by omega⟩
    obtain ⟨K, rfl⟩ : ∃ K : Nat, k = K := ⟨k.toNat, by omega⟩
    exact qcounts_in N K m w (by omega) (by omega)
end Go.Proofs.Ytockeedbceopiaa
