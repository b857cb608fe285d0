/-
  CONTRACT of decimal.Parse: all of a text by the machine of DecPure.
-/
import Derived.Test.YtkaionchipljgaaDoorDecEnd
import Derived.Laws.RangeAny
import Derived.Lib.OthersKept
namespace Go.Proofs.YtkaionchipljgaaDoor
open Go.RowKit Go.Sort
open Go.Lib
structure PMid (s : ByteArray) (w : World) (Z : (Bool × Nat) × Nat) (pos : Nat) (st : Dec) (wr : World) : Prop where
  iter : wr.heap[w.heap.size + 1 + 1]? = some (.stringIter s pos)
  num : DAt wr (w.heap.size + 1) 0 st
  res : wr.heap[w.heap.size]? = some (.cells #[.bool false, .int .u64 0] 24 (0, 0))
  below : Below w.heap.size w wr
  good : errD st = 0
  par : Z = parseD st (s.data.toList.drop pos)
theorem list_size (x : ByteArray) : x.data.toList.length = x.size := by simp
theorem drop_at (s : ByteArray) (pos : Nat) (h : pos < s.size) : s.data.toList.drop pos = s[pos] :: s.data.toList.drop (pos + 1) := by
  rw [List.drop_eq_getElem_cons (by rw [list_size]; exact h)]
  rfl
theorem res_cells {w : World} {k : Nat} {c : Array Value} {t : TypeId} (h : w.heap[k]? = some (.cells c t (0, 0))) (i : Nat) (v : Value) (hv : c[i]? = some v) : w.cell? ⟨k, i, none⟩ = some v ∧ w.frozen? ⟨k, i, none⟩ = false := by
  unfold World.cell? World.frozen?
  simp only [h]
  refine ⟨by simp [hv], by simp⟩
theorem heap_new (w : World) (o : Obj) : (w.alloc o).heap[w.heap.size]? = some o := by
  rw [alloc_eq_grow]
  show (w.heap ++ #[o])[w.heap.size]? = some o
  rw [Array.getElem?_append_right (Nat.le_refl _), Nat.sub_self]
  rfl
theorem taken_low {s s' : Dec} {x : Nat} (h : stepD s x = (s', true)) : x < 128 := by
  cases s with
  | bad f => simp [stepD] at h
  | num p m v =>
    simp only [stepD] at h
    split at h
    · omega
    · split at h
      · omega
      · split at h
        · simp at h
        · split at h <;> simp at h
/-- One byte on. -/
theorem pm_step {s : ByteArray} {w wr w2 : World} {Z : (Bool × Nat) × Nat} {pos : Nat} {st : Dec} (h : PMid s w Z pos st wr) (hp : pos < s.size) (ht : (stepD st (s[pos]'hp).toNat).2 = true) (he : errD (stepD st (s[pos]'hp).toNat).1 = 0)
    (hP : DPost (wr.iterAt (w.heap.size + 1 + 1) s (pos + 1)) (w.heap.size + 1) 0 (stepD st (s[pos]'hp).toNat).1 w2) : PMid s w Z (pos + 1) (stepD st (s[pos]'hp).toNat).1 w2 := by
  obtain ⟨h1, h2, h3, h4, h5, h6⟩ := h
  have hk : w.heap.size + 1 + 1 < wr.heap.size := (Array.getElem?_eq_some_iff.1 h1).1
  have hb := hP.2.step.block
  have hsz := Lib.iterAt_size wr (w.heap.size + 1 + 1) s (pos + 1)
  refine ⟨?_, hP.1, ?_, ?_, he, ?_⟩
  · rw [hb _ (by rw [hsz]; exact hk) (by simp)]
    exact Lib.iterAt_heap wr _ s pos (pos + 1) h1
  · rw [hb _ (by rw [hsz]; omega) (by simp)]
    rw [Lib.iterAt_other wr _ _ s (pos + 1) (by omega)]
    exact h3
  · exact (Lib.below_iterAt h4 (by omega) s (pos + 1)).trans (hP.2.below (by omega) (by rw [hsz]; omega))
  · rw [h6, drop_at s pos hp, parse_taken (s' := (stepD st (s[pos]'hp).toNat).1) (by rw [← ht]) he]
set_option maxHeartbeats 2000000 in
theorem parse_any (s : ByteArray) (w : World) :
    Calls Tryd.prog 10 #[.string s] w fun r w' => r = .returned (.tuple #[.agg #[.bool (parseD d0 s.data.toList).1.1, .int .u64 (parseD d0 s.data.toList).1.2], .int .i64 (parseD d0 s.data.toList).2]) ∧ Below w.heap.size w w' := by
  obtain ⟨Z, hZ⟩ : ∃ Z, parseD d0 s.data.toList = Z := ⟨_, rfl⟩
  rw [hZ]
  have h0 : PMid s w Z 0 d0 (((w.alloc (.cells #[.bool false, .int .u64 0] 24)).alloc (.cells #[.int .i64 0, .int .i64 0, .bool false, .int .u64 0, .int .u64 0] 34)).iter s 0) := by
    have hb : Below w.heap.size w (((w.alloc (.cells #[.bool false, .int .u64 0] 24)).alloc (.cells #[.int .i64 0, .int .i64 0, .bool false, .int .u64 0, .int .u64 0] 34)).alloc (.stringIter s 0)) :=
      (((Below.refl w.heap.size w).alloc (Nat.le_refl _) _).alloc (by simp) _).alloc (by simp; omega) _
    have h1 : (((w.alloc (.cells #[.bool false, .int .u64 0] 24)).alloc (.cells #[.int .i64 0, .int .i64 0, .bool false, .int .u64 0, .int .u64 0] 34)).alloc (.stringIter s 0)).heap[w.heap.size + 1]? = some (.cells #[.int .i64 0, .int .i64 0, .bool false, .int .u64 0, .int .u64 0] 34 (0, 0)) := by
      rw [Below.heap_alloc _ _ _ (by simp)]
      simpa using heap_new (w.alloc (.cells #[.bool false, .int .u64 0] 24)) _
    refine ⟨?_, dat_zero fun j u hj => ?_, ?_, hb, rfl, hZ.symm⟩
    · have := World.iter_heap ((w.alloc (.cells #[.bool false, .int .u64 0] 24)).alloc (.cells #[.int .i64 0, .int .i64 0, .bool false, .int .u64 0, .int .u64 0] 34)) s 0
      simpa using this
    · rw [Nat.zero_add]
      exact res_cells h1 j u (by simpa [nmCells] using hj)
    · rw [show (((w.alloc (.cells #[.bool false, .int .u64 0] 24)).alloc (.cells #[.int .i64 0, .int .i64 0, .bool false, .int .u64 0, .int .u64 0] 34)).iter s 0) = (((w.alloc (.cells #[.bool false, .int .u64 0] 24)).alloc (.cells #[.int .i64 0, .int .i64 0, .bool false, .int .u64 0, .int .u64 0] 34)).alloc (.stringIter s 0)) from rfl, Below.heap_alloc _ _ _ (by simp; omega), Below.heap_alloc _ _ _ (by simp)]
      exact heap_new w _
  clear hZ
  obtain ⟨⟨zq, zn⟩, zE⟩ := Z
  simp only []
  have H0 := Lib.hid h0
  clear h0
  go_enter Tryd.func10, Tryd.ntmps10
  go_wp2
  go_loopw [5, 6, 7] (fun _ _ _ wr => ∃ (pos : Nat) (st : Dec), Hid (PMid s w ((zq, zn), zE) pos st wr)) (fun _ _ _ wr => s.size - wr.iterPos (w.heap.size + 1 + 1))
  case atStart => exact ⟨0, d0, H0⟩
  case round =>
    obtain ⟨pos, st, HM⟩ := hrel
    have hit := HM.out.iter
    have hmu : wr.iterPos (w.heap.size + 1 + 1) = pos := by simp [World.iterPos, hit]
    by_cases hp : pos < s.size
    · have hnext : ∀ ty, (Instr.next (.pointer (some ⟨w.heap.size + 1 + 1, 0, none⟩)) true ty).run Tryd.prog wr = _ := fun ty => Lib.run_next_any_at wr (w.heap.size + 1 + 1) s pos ty hit hp
      have hr := decode_le s pos
      obtain ⟨r, hre⟩ : ∃ r, (Utf8.decode s pos).1 = r := ⟨_, rfl⟩
      obtain ⟨d, hde⟩ : ∃ d, pos + (Utf8.decode s pos).2 = d := ⟨_, rfl⟩
      have hdec := decode_ascii s pos hp
      rw [hre] at hnext hr
      rw [hde] at hnext
      have hst := HM.out.good
      have hk2 : w.heap.size + 1 + 1 < wr.heap.size := (Array.getElem?_eq_some_iff.1 hit).1
      have hpar := HM.out.par
      rw [drop_at s pos hp] at hpar
      have hD : DAt (wr.iterAt (w.heap.size + 1 + 1) s d) (w.heap.size + 1) 0 st := HM.out.num.keep (Lib.iterAt_other wr _ _ s d (by omega))
      have hS := dstep_at hD (s[pos]'hp).toNat
      have hres : ∀ w2, Sub (w.heap.size + 1) 0 5 (wr.iterAt (w.heap.size + 1 + 1) s d) w2 → w2.heap[w.heap.size]? = some (.cells #[.bool false, .int .u64 0] 24 (0, 0)) ∧ Below w.heap.size w w2 := by
        intro w2 h2
        refine ⟨?_, (Lib.below_iterAt HM.out.below (by omega) s d).trans (h2.below (by omega) (by rw [Lib.iterAt_size]; omega))⟩
        rw [h2.step.block _ (by rw [Lib.iterAt_size]; omega) (by simp), Lib.iterAt_other wr _ _ s d (by omega)]
        exact HM.out.res
      by_cases he : errD (stepD st (s[pos]'hp).toNat).1 = 0
      · cases ht : (stepD st (s[pos]'hp).toNat).2 with
        | true =>
          have hx : (s[pos]'hp).toNat < 128 := taken_low (s := st) (s' := (stepD st (s[pos]'hp).toNat).1) (by rw [← ht])
          have hd1 : d = pos + 1 := by rw [← hde, hdec hx]
          subst hd1
          have hnew := fun w2 => pm_step (w2 := w2) HM.out hp ht he
          rw [ht, he] at hS
          generalize (stepD st (s[pos]'hp).toNat).1 = st2 at hS hnew
          have HN := Lib.hid hnew
          have HS := Lib.hid hS
          clear hS hnew hres hD hpar hst hdec hde hre HM H0 hit
          go_wp2_with fail
          refine HS.out.mono ?_
          rintro e w2 ⟨rfl, hP⟩
          have hm := HN.out w2 hP
          have hmu2 : w2.iterPos (w.heap.size + 1 + 1) = pos + 1 := by simp [World.iterPos, hm.iter]
          have HM2 := Lib.hid hm
          clear hm hP HN
          go_wp2
          go_roundw
          case rel => exact ⟨pos + 1, st2, HM2⟩
          case measure => rw [hmu, hmu2]; omega
        | false =>
          have hfin : ((zq, zn), zE) = ((false, 0), 2) := by
            rw [hpar, parseD, if_pos he, ht]
            rfl
          rw [ht, he] at hS
          simp only [Prod.mk.injEq] at hfin
          obtain ⟨⟨rfl, rfl⟩, rfl⟩ := hfin
          have HS := Lib.hid hS
          have HR := Lib.hid hres
          clear hS hres hD hpar hst hdec hde hre HM H0 hit
          go_wp2_with fail
          refine HS.out.mono ?_
          rintro e w2 ⟨rfl, hP⟩
          obtain ⟨r2, b2⟩ := HR.out w2 hP.2
          obtain ⟨k0, f0⟩ := res_cells r2 0 _ rfl
          obtain ⟨k1, f1⟩ := res_cells r2 1 _ rfl
          have B2 := Lib.hid b2
          clear hP HR r2 b2
          go_wp2
          simp [bodyPost, results, Tryd.results10, go_sem, k0, k1]
          exact (B2.out.setCell (Nat.le_refl _) _).setCell (Nat.le_refl _) _
      · have hfin : ((zq, zn), zE) = ((false, 0), errD (stepD st (s[pos]'hp).toNat).1) := by
          rw [hpar, parseD, if_neg he]
        simp only [Prod.mk.injEq] at hfin
        obtain ⟨⟨rfl, rfl⟩, hEE⟩ := hfin
        rw [← hEE] at he hS
        generalize (stepD st (s[pos]'hp).toNat).2 = q at hS
        have hz : ((zE : Int) != 0) = true := by simp; omega
        have HS := Lib.hid hS
        have HR := Lib.hid hres
        clear hS hres hD hpar hst hdec hde hre HM H0 hit hEE he
        go_wp2_with fail
        refine HS.out.mono ?_
        rintro e w2 ⟨rfl, hP⟩
        obtain ⟨r2, b2⟩ := HR.out w2 hP.2
        obtain ⟨k0, f0⟩ := res_cells r2 0 _ rfl
        obtain ⟨k1, f1⟩ := res_cells r2 1 _ rfl
        have B2 := Lib.hid b2
        clear hP HR r2 b2
        go_wp2
        simp [bodyPost, results, Tryd.results10, go_sem, k0, k1]
        exact (B2.out.setCell (Nat.le_refl _) _).setCell (Nat.le_refl _) _
    · have hnext : ∀ ty, (Instr.next (.pointer (some ⟨w.heap.size + 1 + 1, 0, none⟩)) true ty).run Tryd.prog wr = _ := fun ty => Lib.run_next_end_at wr (w.heap.size + 1 + 1) s pos ty hit hp
      have hk2 : w.heap.size + 1 + 1 < wr.heap.size := (Array.getElem?_eq_some_iff.1 hit).1
      have hpar := HM.out.par
      rw [List.drop_of_length_le (by rw [list_size]; omega)] at hpar
      have hpar' : ((zq, zn), zE) = endD st := hpar
      have hE := dend_at HM.out.num
      have hres : ∀ w2, Below wr.heap.size wr w2 → w2.heap[w.heap.size]? = some (.cells #[.bool false, .int .u64 0] 24 (0, 0)) ∧ Below w.heap.size w w2 := by
        intro w2 h2
        exact ⟨(h2.block _ (by omega)).trans HM.out.res, HM.out.below.trans (h2.mono (by omega))⟩
      rw [← hpar'] at hE
      simp only [] at hE
      have HE := Lib.hid hE
      have HR := Lib.hid hres
      clear hE hres hpar hpar' HM H0 hit
      go_wp2_with fail
      refine HE.out.mono ?_
      rintro e w2 ⟨rfl, hP⟩
      obtain ⟨r2, b2⟩ := HR.out w2 hP
      obtain ⟨k0, f0⟩ := res_cells r2 0 _ rfl
      obtain ⟨k1, f1⟩ := res_cells r2 1 _ rfl
      have B2 := Lib.hid b2
      clear hP HR r2 b2
      go_wp2
      simp [bodyPost, results, Tryd.results10, go_sem, k0, k1]
      exact (B2.out.setCell (Nat.le_refl _) _).setCell (Nat.le_refl _) _
end Go.Proofs.YtkaionchipljgaaDoor
