/-
  LAW of chapter 13: CborinChunks.
-/
import Derived.Test.YtgknpheefbfnlaaGj
import Derived.Test.YtgknpheefbfnlaaGk
import Derived.Test.YtgknpheefbfnlaaGa
/-
  LAWS of chapter 13, over CinAll: CborinChunks.
-/
namespace Go.Proofs.Ytgknpheefbfnlaa
open Go.RowKit
open Go.Lib
/-- truchmanref1.Valid, as the law wants it. -/
def RVal : Prop := ∀ (x : List UInt8) (W : World), x.length ≤ 100 → Calls Try.prog 25 #[.string ⟨x.toArray⟩] W fun r w' => r = .returned (.bool (validD x)) ∧ Below W.heap.size W w'
/-- A list of strings that came in. -/
def SLAt (w : World) (B : Nat) (A : Option Addr) (n : Nat) (T : Nat → List UInt8) : Prop := ∀ i, i < n → ∃ b off, A = some ⟨b, off, none⟩ ∧ b < B ∧ w.cell? ⟨b, off + i, none⟩ = some (.string ⟨(T i).toArray⟩)
theorem SLAt.below {w w' : World} {B : Nat} {A : Option Addr} {n : Nat} {T : Nat → List UInt8} (h : SLAt w B A n T) (k : Below B w w') : SLAt w' B A n T := fun i hi => by
  obtain ⟨b, off, h1, h2, h3⟩ := h i hi
  exact ⟨b, off, h1, h2, by rw [← h3]; unfold World.cell?; rw [k.block b h2]⟩
def preT (T : Nat → List UInt8) (j : Nat) : List (List UInt8) := (List.range j).map T
theorem preT_succ (T : Nat → List UInt8) (j : Nat) : preT T (j + 1) = preT T j ++ [T j] := by simp [preT, List.range_succ]
/-- A text in a list's first place. -/
structure TxtAt (w : World) (g off : Nat) (k : Int) (t : ByteArray) : Prop where
  l0 : w.cell? ⟨g, off, none⟩ = some (.int .i64 k)
  l1 : w.cell? ⟨g, off + 1, none⟩ = some (.bool false)
  l2 : w.cell? ⟨g, off + 2, none⟩ = some (.int .u64 0)
  l3 : w.cell? ⟨g, off + 3, none⟩ = some (.string t)
  l4 : w.cell? ⟨g, off + 4, none⟩ = some (.int .i64 0)
theorem TxtAt.keep {w w' : World} {g off : Nat} {k : Int} {t : ByteArray} (h : TxtAt w g off k t) (hk : w'.heap[g]? = w.heap[g]?) : TxtAt w' g off k t := by
  have hc : ∀ i, w'.cell? ⟨g, i, none⟩ = w.cell? ⟨g, i, none⟩ := fun i => by unfold World.cell?; rw [hk]
  exact ⟨by rw [hc]; exact h.l0, by rw [hc]; exact h.l1, by rw [hc]; exact h.l2, by rw [hc]; exact h.l3, by rw [hc]; exact h.l4⟩
/-- In the midst of the law's loop. -/
structure ChI (m : Bool) (c : Nat) (T : Nat → List UInt8) (w wr : World) (j : Nat) (B Aa : ByteArray) (E : Nat) : Prop where
  bb : B = ⟨(UInt8.ofNat c :: (preT T j).flatMap (chunkB m)).toArray⟩
  aa : Aa = ⟨(preT T j).flatten.toArray⟩
  ee : E = wantC m [] (preT T j)
  sm : ∀ i, i < j → (T i).length ≤ 100
  b : Below w.heap.size w wr
theorem pre_len {m : Bool} {c : Nat} {T : Nat → List UInt8} {j : Nat} (h : ∀ i, i < j → (T i).length ≤ 100) : (UInt8.ofNat c :: (preT T j).flatMap (chunkB m)).length ≤ 1 + 109 * j := by
  induction j with
  | zero => simp [preT]
  | succ j ih =>
    have h1 := ih (fun i hi => h i (by omega))
    have h2 := h j (by omega)
    have h3 := headB_len (majT m) (T j).length
    rw [preT_succ, List.flatMap_append]
    simp only [List.length_cons, List.length_append, List.flatMap_cons, List.flatMap_nil, List.append_nil, chunkB] at h1 ⊢
    omega
theorem flat_len {T : Nat → List UInt8} {j : Nat} (h : ∀ i, i < j → (T i).length ≤ 100) : (preT T j).flatten.length ≤ 100 * j := by
  induction j with
  | zero => simp [preT]
  | succ j ih =>
    have h1 := ih (fun i hi => h i (by omega))
    have h2 := h j (by omega)
    rw [preT_succ, List.flatten_append, List.length_append]
    simp only [List.flatten_cons, List.flatten_nil, List.append_nil]
    omega
theorem chi_want {m : Bool} {c : Nat} {T : Nat → List UInt8} {w wr : World} {j : Nat} {B Aa : ByteArray} {E : Nat} (h : ChI m c T w wr j B Aa E) :
    wantC m [] (preT T (j + 1)) = if E ≠ 0 then E else if 200 < Aa.size + (T j).length then 5 else if m = true ∧ validD (T j) = false then 9 else 0 := by
  have ha : Aa.size = (preT T j).flatten.length := by rw [h.aa]; exact size_of _
  rw [preT_succ, wantC_snoc, ← h.ee, ha, List.nil_append, List.length_append]
theorem chi_next {m : Bool} {c : Nat} {T : Nat → List UInt8} {w wr w4 : World} {j : Nat} {B Aa : ByteArray} {E E' : Nat} (h : ChI m c T w wr j B Aa E) (hs : (T j).length ≤ 100) (hE : E' = wantC m [] (preT T (j + 1))) (hb : Below w.heap.size w w4) :
    ChI m c T w w4 (j + 1) (B ++ (⟨(headB (majT m) (T j).length).toArray⟩ ++ ⟨(T j).toArray⟩)) (Aa ++ ⟨(T j).toArray⟩) E' := by
  refine ⟨?_, ?_, hE, fun i hi => ?_, hb⟩
  · rw [h.bb, cat_of, cat_of, preT_succ, List.flatMap_append]
    simp [chunkB]
  · rw [h.aa, cat_of, preT_succ, List.flatten_append]
    simp
  · by_cases hij : i = j
    · rw [hij]; exact hs
    · exact h.sm i (by omega)
set_option maxRecDepth 100000 in
set_option maxHeartbeats 16000000 in
theorem cchunks_f (H : CinAll) (hV : RVal) (A : Option Addr) (n cp : Nat) (T : Nat → List UInt8) (w : World) (hL : SLAt w w.heap.size A n T) (hn : n ≤ 12) :
    Calls Try.prog 8 #[.slice A n cp, .bool false] w fun r w' => r = .returned (.bool true) ∧ Below w.heap.size w w' := by
  have t1 : ((12 : Int) < (n : Int)) = False := by simp; omega
  have HA := Lib.hid (calive_any H w)
  have HLI := Lib.hid hL
  have HV := Lib.hid hV
  obtain ⟨X0, hX0⟩ : ∃ X0 : ByteArray, (⟨#[UInt8.ofNat 127]⟩ : ByteArray) = X0 := ⟨_, rfl⟩
  have hcv : ∀ W : World, (convert 43 9 (.slice (some ⟨W.heap.size, 0, none⟩) 1 1)).run Try.prog (W.alloc (.cells #[.int .u8 127] 5)) = .ok (.string X0) (W.alloc (.cells #[.int .u8 127] 5)) := fun W => conv_new W [UInt8.ofNat 127] #[.int .u8 127] 1 rfl rfl X0 hX0.symm
  have hw8 : IntKind.u8.wrap 127 = 127 := by decide
  have HX0 := Lib.hid hX0
  clear hX0 hL
  go_enter Try.func8, Try.ntmps8
  go_wp2_with fail
  refine HA.out.mono ?_
  rintro r w1 ⟨rfl, b1⟩
  have B1 := Lib.hid (up_alloc b1 (.cells #[.int .u8 127] 5))
  clear b1
  go_wp2
  go_loopw [7, 8, 9, 11, 33] (fun b a e _ i wr => ∃ (j : Nat) (B Aa : ByteArray) (E : Nat), b = .string B ∧ a = .string Aa ∧ e = .int .i64 E ∧ i = .int .i64 j ∧ j ≤ n ∧ Hid (ChI true 127 T w wr j B Aa E)) (fun _ _ _ _ i _ => n - (RowKit.intOf i).toNat)
  case atStart => exact ⟨0, X0, ⟨#[]⟩, 0, rfl, rfl, rfl, rfl, by omega, Lib.hid ⟨HX0.out.symm, rfl, rfl, fun i hi => by omega, B1.out⟩⟩
  case round =>
    obtain ⟨j, B, Aa, E, rfl, rfl, rfl, rfl, hj, HI⟩ := hrel
    by_cases hlt : j < n
    · have hcell := (HLI.out.below HI.out.b) j hlt
      obtain ⟨g, off, rfl, hgb, x0⟩ := hcell
      have hBz : B.size ≤ 1 + 109 * j := by
        rw [HI.out.bb, size_of]
        exact pre_len HI.out.sm
      have hAz : Aa.size ≤ 100 * j := by
        rw [HI.out.aa, size_of]
        exact flat_len HI.out.sm
      have hsz : (⟨(T j).toArray⟩ : ByteArray).size = (T j).length := size_of _
      by_cases hbig : 100 < (T j).length
      · have q1 : ((100 : Int) < (((⟨(T j).toArray⟩ : ByteArray).size : Nat) : Int)) = True := by rw [hsz]; simp; omega
        have HBr := Lib.hid HI.out.b
        generalize (⟨(T j).toArray⟩ : ByteArray) = Sx at *
        clear hBz hAz hsz hbig
        go_wp2
        go_ret
        exact ⟨rfl, HBr.out⟩
      · have q1 : ((100 : Int) < (((⟨(T j).toArray⟩ : ByteArray).size : Nat) : Int)) = False := by rw [hsz]; simp; omega
        have hsmall : (T j).length ≤ 100 := by omega
        have HHd : Hid (∀ W, Calls Try.prog 24 #[.int .i64 3, .int .u64 ((T j).length : Nat)] W fun r w' => r = .returned (.string ⟨(headB 3 (T j).length).toArray⟩) ∧ Below W.heap.size W w') := Lib.hid (fun W => rhead_any 3 (T j).length (by omega) W)
        have HVd := Lib.hid (fun W => HV.out (T j) W hsmall)
        have HW := Lib.hid (chi_want HI.out)
        have HNX := Lib.hid (fun (w4 : World) (E' : Nat) (hE : E' = wantC true [] (preT T (j + 1))) (hb : Below w.heap.size w w4) => chi_next HI.out hsmall hE hb)
        have HBr := Lib.hid HI.out.b
        have hyl := headB_len 3 (T j).length
        rw [← size_of] at hyl
        have hmt : majT true = 3 := rfl
        rw [hmt] at HNX
        generalize validD (T j) = vd at *
        obtain ⟨z, hz⟩ : ∃ z, (T j).length = z := ⟨_, rfl⟩
        rw [hz] at HHd HW HNX hyl hsz hsmall
        clear hbig hz q1
        generalize (⟨(T j).toArray⟩ : ByteArray) = Sx at *
        generalize (⟨(headB 3 z).toArray⟩ : ByteArray) = Y at *
        have hzi : (Sx.size : Int) = (z : Int) := by omega
        have q1 : ((100 : Int) < (z : Int)) = False := by simp; omega
        have hun : IntKind.u64.wrap (z : Int) = (z : Int) := wrapI_u64 _ (by omega) (by omega)
        have s1 : ¬ 9223372036854775807 < Y.size + Sx.size := by omega
        have s2 : ¬ 9223372036854775807 < B.size + (Y.size + Sx.size) := by omega
        have s3 : ¬ 9223372036854775807 < Aa.size + Sx.size := by omega
        have s4 : (Y ++ Sx).size = Y.size + Sx.size := ByteArray.size_append
        have hcase : (((E : Int) == 0) = false ∧ wantC true [] (preT T (j + 1)) = E) ∨ (E = 0 ∧ ((200 : Int) < (Aa.size : Int) + (z : Int)) = True ∧ wantC true [] (preT T (j + 1)) = 5) ∨ (E = 0 ∧ ((200 : Int) < (Aa.size : Int) + (z : Int)) = False ∧ (vd = false ∧ wantC true [] (preT T (j + 1)) = 9 ∨ vd = true ∧ wantC true [] (preT T (j + 1)) = 0)) := by
          rw [HW.out]
          by_cases h0 : E = 0
          · by_cases h2 : 200 < Aa.size + z
            · exact .inr (.inl ⟨h0, by simp; omega, by rw [if_neg (by omega), if_pos h2]⟩)
            · refine .inr (.inr ⟨h0, by simp; omega, ?_⟩)
              rw [if_neg (by omega), if_neg h2]
              cases vd
              · exact .inl ⟨rfl, rfl⟩
              · exact .inr ⟨rfl, rfl⟩
          · exact .inl ⟨by simp; omega, by rw [if_pos h0]⟩
        clear hBz hAz hsz hyl hmt HW HI hsmall
        go_wp2_with fail
        refine (HHd.out _).mono ?_
        rintro r w4 ⟨rfl, b4⟩
        have B4 := Lib.hid (up_trans HBr.out b4)
        clear b4
        rcases hcase with ⟨e0, hw⟩ | ⟨rfl, e1, hw⟩ | ⟨rfl, e1, hw⟩
        · go_wp2
          go_roundw
          case rel => exact ⟨j + 1, _, _, E, rfl, rfl, rfl, rfl, hlt, Lib.hid (HNX.out _ _ hw.symm B4.out)⟩
          case measure => simp [RowKit.intOf]; omega
        · go_wp2
          go_roundw
          case rel => exact ⟨j + 1, _, _, 5, rfl, rfl, rfl, rfl, hlt, Lib.hid (HNX.out _ _ hw.symm B4.out)⟩
          case measure => simp [RowKit.intOf]; omega
        · rcases hw with ⟨rfl, hw⟩ | ⟨rfl, hw⟩
          all_goals
            go_wp2_with fail
            refine (HVd.out _).mono ?_
            rintro r w5 ⟨rfl, b5⟩
            have B5 := Lib.hid (up_trans B4.out b5)
            clear b5
            go_wp2
            go_roundw
            case rel => exact ⟨j + 1, _, _, _, rfl, rfl, rfl, rfl, hlt, Lib.hid (HNX.out _ _ hw.symm B5.out)⟩
            case measure => simp [RowKit.intOf]; omega
    · obtain rfl : j = n := by omega
      have hall := chunks_all true (preT T j) (by
        intro x hx
        obtain ⟨i, hi, rfl⟩ := List.mem_map.1 hx
        have := HI.out.sm i (List.mem_range.1 hi)
        omega)
      rw [← HI.out.ee] at hall
      have hbl : (UInt8.ofNat 127 :: (preT T j).flatMap (chunkB true)).length ≤ 1 + 109 * j := pre_len HI.out.sm
      have hbb := HI.out.bb
      have haa := HI.out.aa
      have hall : allCi 2 (UInt8.ofNat 127 :: (preT T j).flatMap (chunkB true)) = ([], if E = 0 then 3 else E) ∧ allCi 2 ((UInt8.ofNat 127 :: (preT T j).flatMap (chunkB true)) ++ [255]) = (if E = 0 then ([evTxC true (preT T j).flatten], 0) else ([], E)) := hall
      generalize (UInt8.ofNat 127 :: (preT T j).flatMap (chunkB true)) = Bl at *
      generalize (preT T j).flatten = Fl at *
      have hJ1 := fun W => H (Bl ++ [255]) 2 (by omega) (by rw [List.length_append]; simp only [List.length_cons, List.length_nil]; omega) W
      have hJ2 := fun W => H Bl 2 (by omega) (by omega) W
      rw [hall.2, ← cat_of, ← hbb] at hJ1
      rw [hall.1, ← hbb] at hJ2
      have hBs : B.size ≤ 1 + 109 * j := by rw [hbb, size_of]; exact hbl
      have hs1 : ¬ 9223372036854775807 < B.size + 1 := by omega
      have HBr := Lib.hid HI.out.b
      have HAA := Lib.hid haa
      clear hall hbl hbb haa hBs HI
      by_cases h0 : E = 0
      · subst h0
        simp only [if_true] at hJ1 hJ2
        have HJ1 := Lib.hid (show ∀ W, Calls Try.prog 14 #[.string (B ++ ⟨#[255]⟩), .int .i64 2] W fun r w' => ∃ u, r = .returned (.tuple #[u, .int .i64 0]) ∧ Made W w' u 1 [evTxC true Fl] from hJ1)
        have HJ2 := Lib.hid (show ∀ W, Calls Try.prog 14 #[.string B, .int .i64 2] W fun r w' => ∃ u, r = .returned (.tuple #[u, .int .i64 3]) ∧ Made W w' u 0 [] from hJ2)
        clear hJ1 hJ2
        go_wp2_with fail
        refine (HJ1.out _).mono ?_
        rintro r w5 ⟨u5, rfl, hM5⟩
        obtain ⟨g, off, cap, rfl, _, _, _, _, hcl⟩ := hM5.2.1.form Nat.one_pos
        have HT : Hid (TxtAt w5 g off 3 Aa ∧ g < w5.heap.size) := Lib.hid ⟨⟨(hcl 0 (.int .i64 3) rfl).1, (hcl 1 (.bool false) rfl).1, (hcl 2 (.int .u64 0) rfl).1, by have := (hcl 3 (.string ⟨Fl.toArray⟩) rfl).1; rwa [← HAA.out] at this, (hcl 4 (.int .i64 0) rfl).1⟩, hM5.2.1.lt g (by simp [Value.owner])⟩
        have B5 := Lib.hid (up_trans HBr.out hM5.1)
        clear hM5 hcl
        go_wp2_with fail
        refine (HJ2.out _).mono ?_
        rintro r w6 ⟨u6, rfl, hM6⟩
        have B6 := Lib.hid (up_trans B5.out hM6.1)
        have HT6 := Lib.hid (HT.out.1.keep (hM6.1.block g HT.out.2))
        clear hM6
        have l0 := HT6.out.l0
        have l1 := HT6.out.l1
        have l2 := HT6.out.l2
        have l3 := HT6.out.l3
        have l4 := HT6.out.l4
        have q := fun W => ev_eql ⟨3, false, 0, Aa, 0⟩ ⟨3, false, 0, Aa, 0⟩ W
        rw [sameE_refl] at q
        simp only [evV] at q
        go_wp2
        go_ret
        exact ⟨rfl, B6.out⟩
      · rw [if_neg h0] at hJ1 hJ2
        have HJ1 := Lib.hid (show ∀ W, Calls Try.prog 14 #[.string (B ++ ⟨#[255]⟩), .int .i64 2] W fun r w' => ∃ u, r = .returned (.tuple #[u, .int .i64 E]) ∧ Made W w' u 0 [] from hJ1)
        have HJ2 := Lib.hid (show ∀ W, Calls Try.prog 14 #[.string B, .int .i64 2] W fun r w' => ∃ u, r = .returned (.tuple #[u, .int .i64 E]) ∧ Made W w' u 0 [] from hJ2)
        have e0 : ((E : Int) == 0) = false := by simp; omega
        clear hJ1 hJ2 h0
        go_wp2_with fail
        refine (HJ1.out _).mono ?_
        rintro r w5 ⟨u5, rfl, hM5⟩
        obtain ⟨a5, c5, rfl, _, _⟩ := hM5.2.1.slice_form
        have B5 := Lib.hid (up_trans HBr.out hM5.1)
        clear hM5
        go_wp2_with fail
        refine (HJ2.out _).mono ?_
        rintro r w6 ⟨u6, rfl, hM6⟩
        have B6 := Lib.hid (up_trans B5.out hM6.1)
        clear hM6
        go_wp2
        go_ret
        exact ⟨rfl, B6.out⟩
set_option maxRecDepth 100000 in
set_option maxHeartbeats 16000000 in
theorem cchunks_t (H : CinAll) (hV : RVal) (A : Option Addr) (n cp : Nat) (T : Nat → List UInt8) (w : World) (hL : SLAt w w.heap.size A n T) (hn : n ≤ 12) :
    Calls Try.prog 8 #[.slice A n cp, .bool true] w fun r w' => r = .returned (.bool true) ∧ Below w.heap.size w w' := by
  have t1 : ((12 : Int) < (n : Int)) = False := by simp; omega
  have HA := Lib.hid (calive_any H w)
  have HLI := Lib.hid hL
  have HV := Lib.hid hV
  obtain ⟨X0, hX0⟩ : ∃ X0 : ByteArray, (⟨#[UInt8.ofNat 95]⟩ : ByteArray) = X0 := ⟨_, rfl⟩
  have hcv : ∀ W : World, (convert 43 9 (.slice (some ⟨W.heap.size, 0, none⟩) 1 1)).run Try.prog (W.alloc (.cells #[.int .u8 95] 5)) = .ok (.string X0) (W.alloc (.cells #[.int .u8 95] 5)) := fun W => conv_new W [UInt8.ofNat 95] #[.int .u8 95] 1 rfl rfl X0 hX0.symm
  have hw8 : IntKind.u8.wrap 95 = 95 := by decide
  have HX0 := Lib.hid hX0
  clear hX0 hL
  go_enter Try.func8, Try.ntmps8
  go_wp2_with fail
  refine HA.out.mono ?_
  rintro r w1 ⟨rfl, b1⟩
  have B1 := Lib.hid (up_alloc b1 (.cells #[.int .u8 95] 5))
  clear b1
  go_wp2
  go_loopw [7, 8, 9, 11, 33] (fun b a e _ i wr => ∃ (j : Nat) (B Aa : ByteArray) (E : Nat), b = .string B ∧ a = .string Aa ∧ e = .int .i64 E ∧ i = .int .i64 j ∧ j ≤ n ∧ Hid (ChI false 95 T w wr j B Aa E)) (fun _ _ _ _ i _ => n - (RowKit.intOf i).toNat)
  case atStart => exact ⟨0, X0, ⟨#[]⟩, 0, rfl, rfl, rfl, rfl, by omega, Lib.hid ⟨HX0.out.symm, rfl, rfl, fun i hi => by omega, B1.out⟩⟩
  case round =>
    obtain ⟨j, B, Aa, E, rfl, rfl, rfl, rfl, hj, HI⟩ := hrel
    by_cases hlt : j < n
    · have hcell := (HLI.out.below HI.out.b) j hlt
      obtain ⟨g, off, rfl, hgb, x0⟩ := hcell
      have hBz : B.size ≤ 1 + 109 * j := by
        rw [HI.out.bb, size_of]
        exact pre_len HI.out.sm
      have hAz : Aa.size ≤ 100 * j := by
        rw [HI.out.aa, size_of]
        exact flat_len HI.out.sm
      have hsz : (⟨(T j).toArray⟩ : ByteArray).size = (T j).length := size_of _
      by_cases hbig : 100 < (T j).length
      · have q1 : ((100 : Int) < (((⟨(T j).toArray⟩ : ByteArray).size : Nat) : Int)) = True := by rw [hsz]; simp; omega
        have HBr := Lib.hid HI.out.b
        generalize (⟨(T j).toArray⟩ : ByteArray) = Sx at *
        clear hBz hAz hsz hbig
        go_wp2
        go_ret
        exact ⟨rfl, HBr.out⟩
      · have q1 : ((100 : Int) < (((⟨(T j).toArray⟩ : ByteArray).size : Nat) : Int)) = False := by rw [hsz]; simp; omega
        have hsmall : (T j).length ≤ 100 := by omega
        have HHd : Hid (∀ W, Calls Try.prog 24 #[.int .i64 2, .int .u64 ((T j).length : Nat)] W fun r w' => r = .returned (.string ⟨(headB 2 (T j).length).toArray⟩) ∧ Below W.heap.size W w') := Lib.hid (fun W => rhead_any 2 (T j).length (by omega) W)
        have HVd := Lib.hid (fun W => HV.out (T j) W hsmall)
        have HW := Lib.hid (chi_want HI.out)
        have HNX := Lib.hid (fun (w4 : World) (E' : Nat) (hE : E' = wantC false [] (preT T (j + 1))) (hb : Below w.heap.size w w4) => chi_next HI.out hsmall hE hb)
        have HBr := Lib.hid HI.out.b
        have hyl := headB_len 2 (T j).length
        rw [← size_of] at hyl
        have hmt : majT false = 2 := rfl
        rw [hmt] at HNX
        generalize validD (T j) = vd at *
        obtain ⟨z, hz⟩ : ∃ z, (T j).length = z := ⟨_, rfl⟩
        rw [hz] at HHd HW HNX hyl hsz hsmall
        clear hbig hz q1
        generalize (⟨(T j).toArray⟩ : ByteArray) = Sx at *
        generalize (⟨(headB 2 z).toArray⟩ : ByteArray) = Y at *
        have hzi : (Sx.size : Int) = (z : Int) := by omega
        have q1 : ((100 : Int) < (z : Int)) = False := by simp; omega
        have hun : IntKind.u64.wrap (z : Int) = (z : Int) := wrapI_u64 _ (by omega) (by omega)
        have s1 : ¬ 9223372036854775807 < Y.size + Sx.size := by omega
        have s2 : ¬ 9223372036854775807 < B.size + (Y.size + Sx.size) := by omega
        have s3 : ¬ 9223372036854775807 < Aa.size + Sx.size := by omega
        have s4 : (Y ++ Sx).size = Y.size + Sx.size := ByteArray.size_append
        have hcase : (((E : Int) == 0) = false ∧ wantC false [] (preT T (j + 1)) = E) ∨ (E = 0 ∧ ((200 : Int) < (Aa.size : Int) + (z : Int)) = True ∧ wantC false [] (preT T (j + 1)) = 5) ∨ (E = 0 ∧ ((200 : Int) < (Aa.size : Int) + (z : Int)) = False ∧ wantC false [] (preT T (j + 1)) = 0) := by
          rw [HW.out]
          by_cases h0 : E = 0
          · by_cases h2 : 200 < Aa.size + z
            · exact .inr (.inl ⟨h0, by simp; omega, by rw [if_neg (by omega), if_pos h2]⟩)
            · refine .inr (.inr ⟨h0, by simp; omega, ?_⟩)
              rw [if_neg (by omega), if_neg h2]
              rw [if_neg (by simp)]
          · exact .inl ⟨by simp; omega, by rw [if_pos h0]⟩
        clear hBz hAz hsz hyl hmt HW HI hsmall
        go_wp2_with fail
        refine (HHd.out _).mono ?_
        rintro r w4 ⟨rfl, b4⟩
        have B4 := Lib.hid (up_trans HBr.out b4)
        clear b4
        rcases hcase with ⟨e0, hw⟩ | ⟨rfl, e1, hw⟩ | ⟨rfl, e1, hw⟩
        · go_wp2
          go_roundw
          case rel => exact ⟨j + 1, _, _, E, rfl, rfl, rfl, rfl, hlt, Lib.hid (HNX.out _ _ hw.symm B4.out)⟩
          case measure => simp [RowKit.intOf]; omega
        · go_wp2
          go_roundw
          case rel => exact ⟨j + 1, _, _, 5, rfl, rfl, rfl, rfl, hlt, Lib.hid (HNX.out _ _ hw.symm B4.out)⟩
          case measure => simp [RowKit.intOf]; omega
        · go_wp2
          go_roundw
          case rel => exact ⟨j + 1, _, _, 0, rfl, rfl, rfl, rfl, hlt, Lib.hid (HNX.out _ _ hw.symm B4.out)⟩
          case measure => simp [RowKit.intOf]; omega
    · obtain rfl : j = n := by omega
      have hall := chunks_all false (preT T j) (by
        intro x hx
        obtain ⟨i, hi, rfl⟩ := List.mem_map.1 hx
        have := HI.out.sm i (List.mem_range.1 hi)
        omega)
      rw [← HI.out.ee] at hall
      have hbl : (UInt8.ofNat 95 :: (preT T j).flatMap (chunkB false)).length ≤ 1 + 109 * j := pre_len HI.out.sm
      have hbb := HI.out.bb
      have haa := HI.out.aa
      have hall : allCi 2 (UInt8.ofNat 95 :: (preT T j).flatMap (chunkB false)) = ([], if E = 0 then 3 else E) ∧ allCi 2 ((UInt8.ofNat 95 :: (preT T j).flatMap (chunkB false)) ++ [255]) = (if E = 0 then ([evTxC false (preT T j).flatten], 0) else ([], E)) := hall
      generalize (UInt8.ofNat 95 :: (preT T j).flatMap (chunkB false)) = Bl at *
      generalize (preT T j).flatten = Fl at *
      have hJ1 := fun W => H (Bl ++ [255]) 2 (by omega) (by rw [List.length_append]; simp only [List.length_cons, List.length_nil]; omega) W
      have hJ2 := fun W => H Bl 2 (by omega) (by omega) W
      rw [hall.2, ← cat_of, ← hbb] at hJ1
      rw [hall.1, ← hbb] at hJ2
      have hBs : B.size ≤ 1 + 109 * j := by rw [hbb, size_of]; exact hbl
      have hs1 : ¬ 9223372036854775807 < B.size + 1 := by omega
      have HBr := Lib.hid HI.out.b
      have HAA := Lib.hid haa
      clear hall hbl hbb haa hBs HI
      by_cases h0 : E = 0
      · subst h0
        simp only [if_true] at hJ1 hJ2
        have HJ1 := Lib.hid (show ∀ W, Calls Try.prog 14 #[.string (B ++ ⟨#[255]⟩), .int .i64 2] W fun r w' => ∃ u, r = .returned (.tuple #[u, .int .i64 0]) ∧ Made W w' u 1 [evTxC false Fl] from hJ1)
        have HJ2 := Lib.hid (show ∀ W, Calls Try.prog 14 #[.string B, .int .i64 2] W fun r w' => ∃ u, r = .returned (.tuple #[u, .int .i64 3]) ∧ Made W w' u 0 [] from hJ2)
        clear hJ1 hJ2
        go_wp2_with fail
        refine (HJ1.out _).mono ?_
        rintro r w5 ⟨u5, rfl, hM5⟩
        obtain ⟨g, off, cap, rfl, _, _, _, _, hcl⟩ := hM5.2.1.form Nat.one_pos
        have HT : Hid (TxtAt w5 g off 4 Aa ∧ g < w5.heap.size) := Lib.hid ⟨⟨(hcl 0 (.int .i64 4) rfl).1, (hcl 1 (.bool false) rfl).1, (hcl 2 (.int .u64 0) rfl).1, by have := (hcl 3 (.string ⟨Fl.toArray⟩) rfl).1; rwa [← HAA.out] at this, (hcl 4 (.int .i64 0) rfl).1⟩, hM5.2.1.lt g (by simp [Value.owner])⟩
        have B5 := Lib.hid (up_trans HBr.out hM5.1)
        clear hM5 hcl
        go_wp2_with fail
        refine (HJ2.out _).mono ?_
        rintro r w6 ⟨u6, rfl, hM6⟩
        have B6 := Lib.hid (up_trans B5.out hM6.1)
        have HT6 := Lib.hid (HT.out.1.keep (hM6.1.block g HT.out.2))
        clear hM6
        have l0 := HT6.out.l0
        have l1 := HT6.out.l1
        have l2 := HT6.out.l2
        have l3 := HT6.out.l3
        have l4 := HT6.out.l4
        have q := fun W => ev_eql ⟨4, false, 0, Aa, 0⟩ ⟨4, false, 0, Aa, 0⟩ W
        rw [sameE_refl] at q
        simp only [evV] at q
        go_wp2
        go_ret
        exact ⟨rfl, B6.out⟩
      · rw [if_neg h0] at hJ1 hJ2
        have HJ1 := Lib.hid (show ∀ W, Calls Try.prog 14 #[.string (B ++ ⟨#[255]⟩), .int .i64 2] W fun r w' => ∃ u, r = .returned (.tuple #[u, .int .i64 E]) ∧ Made W w' u 0 [] from hJ1)
        have HJ2 := Lib.hid (show ∀ W, Calls Try.prog 14 #[.string B, .int .i64 2] W fun r w' => ∃ u, r = .returned (.tuple #[u, .int .i64 E]) ∧ Made W w' u 0 [] from hJ2)
        have e0 : ((E : Int) == 0) = false := by simp; omega
        clear hJ1 hJ2 h0
        go_wp2_with fail
        refine (HJ1.out _).mono ?_
        rintro r w5 ⟨u5, rfl, hM5⟩
        obtain ⟨a5, c5, rfl, _, _⟩ := hM5.2.1.slice_form
        have B5 := Lib.hid (up_trans HBr.out hM5.1)
        clear hM5
        go_wp2_with fail
        refine (HJ2.out _).mono ?_
        rintro r w6 ⟨u6, rfl, hM6⟩
        have B6 := Lib.hid (up_trans B5.out hM6.1)
        clear hM6
        go_wp2
        go_ret
        exact ⟨rfl, B6.out⟩
set_option maxRecDepth 100000 in
set_option maxHeartbeats 4000000 in
theorem cchunks_out (H : CinAll) (A : Option Addr) (n cp : Nat) (o : Bool) (w : World) (t1 : ((12 : Int) < (n : Int)) = True) :
    Calls Try.prog 8 #[.slice A n cp, .bool o] w fun r w' => r = .returned (.bool true) ∧ Below w.heap.size w w' := by
  have HA := Lib.hid (calive_any H w)
  go_enter Try.func8, Try.ntmps8
  go_wp2_with fail
  refine HA.out.mono ?_
  rintro r w1 ⟨rfl, b1⟩
  have B1 := Lib.hid b1
  clear b1
  go_wp2
  go_ret
  exact ⟨rfl, B1.out⟩
theorem cchunks_row (H : CinAll) (hV : RVal) (A : Option Addr) (n cp : Nat) (T : Nat → List UInt8) (o : Bool) (w : World) (hL : SLAt w w.heap.size A n T) :
    Calls Try.prog 8 #[.slice A n cp, .bool o] w fun r w' => r = .returned (.bool true) ∧ Below w.heap.size w w' := by
  by_cases h : n ≤ 12
  · cases o
    · exact cchunks_f H hV A n cp T w hL h
    · exact cchunks_t H hV A n cp T w hL h
  · exact cchunks_out H A n cp o w (by simp; omega)
end Go.Proofs.Ytgknpheefbfnlaa
