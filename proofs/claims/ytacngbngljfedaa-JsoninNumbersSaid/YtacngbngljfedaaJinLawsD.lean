/-
  LAWS of chapter 11: JsoninNumbers.
-/
import Derived.Test.YtacngbngljfedaaJinLawsA
import Derived.Test.YtacngbngljfedaaGj
import Derived.Test.YtacngbngljfedaaGa
namespace Go.Proofs.Ytacngbngljfedaa
open Go.RowKit
open Go.Lib
/-! ### Numbers in an array, with blanks between -/
def nmT (W : Nat → Bool × Nat) (B : Nat → List UInt8) : Nat → List UInt8
  | 0 => [91]
  | n + 1 => nmT W B n ++ (if n = 0 then [] else [44]) ++ B n ++ printD (W n)
theorem nums_run (W : Nat → Bool × Nat) (B : Nat → List UInt8) (hB : ∀ i, ∀ b ∈ B i, isBlank b.toNat = true) : ∀ n, (∀ i, i < n → (W i).2 < 18446744073709551616) →
    ∃ j ps pend, runJ 1 j0 (nmT W B n) = (j, ps) ∧ RelW (.live [⟨false, -1, n⟩]) j pend ∧ evOpen false :: (List.range n).map (fun i => evNum (W i)) = ps ++ pend
  | 0, _ => ⟨⟨.idle, .at_ [⟨false, 0⟩] false⟩, [evOpen false], [], by kernel_rfl, .inl ⟨rfl, rfl⟩, by simp⟩
  | n + 1, hW => by
    obtain ⟨j, ps, pend, h1, h2, h3⟩ := nums_run W B hB n (fun i hi => hW i (by omega))
    have hs := sep_step 1 [⟨false, -1, n⟩] j pend h2
    have hsw : sepW [⟨false, -1, n⟩] = if n = 0 then [] else [44] := by
      simp only [sepW]
      split
      · rfl
      · simp
    rw [hsw] at hs
    have hr : readyJ (sepF [⟨false, -1, n⟩]) false = true := by
      simp only [sepF]
      split
      · rename_i h0; subst h0; rfl
      · simp [readyJ]
    have hb := run_still 1 (sepF [⟨false, -1, n⟩]) false (B n) .idle .idle (blanks_run _ (hB n)) rfl
    obtain ⟨j', ps', pend', g1, g2, g3⟩ := run_val 1 (sepF [⟨false, -1, n⟩]) (evNum (W n)) ⟨.inr (.inr (.inl rfl)), rfl, (fun h => by rcases h with h | h <;> cases h), hW n (by omega), (fun h => by cases h)⟩ (.inr (.inr (.inl rfl))) hr
    have ho : outW (evNum (W n)) = printD (W n) := rfl
    rw [ho] at g1
    refine ⟨j', ps ++ pend ++ ps', pend', ?_, g2 _ ?_, ?_⟩
    · simp only [nmT]
      rw [runJ_append, runJ_append, runJ_append, h1]
      simp only
      rw [hs]
      simp only
      rw [hb]
      simp only
      rw [g1]
      simp
    · simp only [sepF]
      split
      · rename_i h0; subst h0; rfl
      · simp [paidJ, doneJ, pOf, frS, frB]
    · rw [List.range_succ, List.map_append, ← List.cons_append, h3]
      simp only [List.map_cons, List.map_nil, g3, List.append_assoc]
theorem nums_all (W : Nat → Bool × Nat) (B : Nat → List UInt8) (hB : ∀ i, ∀ b ∈ B i, isBlank b.toNat = true) (n : Nat) (hW : ∀ i, i < n → (W i).2 < 18446744073709551616) :
    allJ 1 (nmT W B n ++ [93]) = (evOpen false :: (List.range n).map (fun i => evNum (W i)) ++ [evEnd], 0) := by
  obtain ⟨j, ps, pend, h1, h2, h3⟩ := nums_run W B hB n hW
  have hs := rel_sign (D := 1) h2 rfl 93 rfl
  have ht : tokJ 1 (.at_ (frS [⟨false, -1, n⟩]) false) (sgnT (93 : UInt8).toNat) = (.at_ [] true, [evEnd]) := by
    have e1 : tokJ 1 (.at_ (frS [⟨false, -1, n⟩]) false) (sgnT (93 : UInt8).toNat) = shutJ false (frS [⟨false, -1, n⟩]) := rfl
    rw [e1]
    simp only [frS, List.map_cons, List.map_nil, frB, Bool.false_eq_true, if_false]
    by_cases h0 : n = 0
    · rw [if_pos h0]; rfl
    · rw [if_neg h0]; rfl
  rw [ht] at hs
  have hr : runJ 1 j0 (nmT W B n ++ [93]) = (⟨.idle, .at_ [] true⟩, ps ++ (pend ++ [evEnd])) := by
    rw [runJ_append, h1]
    simp only
    rw [runJ_one, hs]
  show ((runJ 1 j0 (nmT W B n ++ [93])).2 ++ (endJ 1 (runJ 1 j0 (nmT W B n ++ [93])).1).1, (endJ 1 (runJ 1 j0 (nmT W B n ++ [93])).1).2) = _
  rw [hr, h3]
  simp [endJ, endX, toksJ]
def blZ (z : Int) : List UInt8 := if bits .and .i64 z 3 = 0 then [] else if bits .and .i64 z 3 = 1 then [32] else if bits .and .i64 z 3 = 2 then [10, 10] else [9]
theorem blZ_blank (z : Int) : ∀ b ∈ blZ z, isBlank b.toNat = true := by
  intro b hb
  unfold blZ at hb
  repeat' split at hb
  all_goals simp only [List.mem_cons, List.not_mem_nil, or_false, or_self] at hb
  all_goals subst hb; rfl
theorem blZ_len (z : Int) : (blZ z).length ≤ 2 := by
  unfold blZ
  repeat' split
  all_goals simp
def blB (zs : List Int) (i : Nat) : List UInt8 := if h : i < zs.length then blZ zs[i] else []
theorem blB_blank (zs : List Int) (i : Nat) : ∀ b ∈ blB zs i, isBlank b.toNat = true := by
  unfold blB
  split
  · exact blZ_blank _
  · simp
theorem blB_len (zs : List Int) (i : Nat) : (blB zs i).length ≤ 2 := by
  unfold blB
  split
  · exact blZ_len _
  · simp
theorem nmT_len (W : Nat → Bool × Nat) (zs : List Int) : ∀ n, (∀ i, i < n → (W i).2 < 18446744073709551616) → (nmT W (blB zs) n).length ≤ 1 + 24 * n
  | 0, _ => by simp [nmT]
  | n + 1, h => by
    have h1 := nmT_len W zs n (fun i hi => h i (by omega))
    have h2 := blB_len zs n
    have h3 := print_len (W n) (h n (by omega))
    simp only [nmT, List.length_append]
    split <;> simp <;> omega
/-- Numbers that came in. -/
def WhAt (w : World) (B : Nat) (A : Option Addr) (n : Nat) (W : Nat → Bool × Nat) : Prop :=
  0 < n → ∃ b off, A = some ⟨b, off, none⟩ ∧ b < B ∧ ∀ i, i < n → w.cell? ⟨b, off + i * 2, none⟩ = some (.bool (W i).1) ∧ w.cell? ⟨b, off + i * 2 + 1, none⟩ = some (.int .u64 ((W i).2 : Nat))
theorem WhAt.below {w w' : World} {B n : Nat} {A : Option Addr} {W : Nat → Bool × Nat} (h : WhAt w B A n W) (hb : Below B w w') : WhAt w' B A n W := fun hn => by
  obtain ⟨b, off, e, hB, hc⟩ := h hn
  exact ⟨b, off, e, hB, fun i hi => ⟨(hb.cell hB).trans (hc i hi).1, (hb.cell hB).trans (hc i hi).2⟩⟩
set_option maxRecDepth 100000 in
set_option maxHeartbeats 8000000 in
theorem numbers_in (A : Option Addr) (n c : Nat) (W : Nat → Bool × Nat) (A' : Option Addr) (n' c' : Nat) (zs : List Int) (w : World) (hW : WhAt w w.heap.size A n W) (hok : ∀ i, i < n → (W i).2 < 18446744073709551616)
    (hl' : zs.length = n') (hR' : Reads w w.heap.size 1 A' n' (zs.map (Value.int .i64))) (hn : n ≤ 12) (hn' : n' ≤ 30) :
    Calls Try.prog 8 #[.slice A n c, .slice A' n' c'] w fun r w' => r = .returned (.bool true) ∧ Below w.heap.size w w' := by
  have t1 : ((12 : Int) < (n : Int)) = False := by simp; omega
  have t2 : ((30 : Int) < (n' : Int)) = False := by simp; omega
  have HAL := Lib.hid (jalive_any w)
  have HW := Lib.hid hW
  have HOK := Lib.hid hok
  have HR := Lib.hid hR'
  have HL := Lib.hid hl'
  have HLEN : Hid (∀ k, k ≤ n → (nmT W (blB zs) k).length ≤ 1 + 24 * k) := Lib.hid (fun k hk => nmT_len W zs k (fun i hi => hok i (by omega)))
  have HALL := Lib.hid (nums_all W (blB zs) (blB_blank zs) n hok)
  have HJ : Hid (∀ W1, Calls Try.prog 10 #[.string ⟨(nmT W (blB zs) n ++ [93]).toArray⟩, .int .i64 (1 : Nat)] W1 fun r w' => ∃ u, r = .returned (.tuple #[u, .int .i64 (0 : Nat)]) ∧ Made W1 w' u (n + 2) (evOpen false :: (List.range n).map (fun i => evNum (W i)) ++ [evEnd])) := Lib.hid (fun W1 => by
    have h1 := HLEN.out n (Nat.le_refl _)
    have := jall_any (nmT W (blB zs) n ++ [93]) 1 (by omega) (by simp only [List.length_append, List.length_cons, List.length_nil]; omega) W1
    rw [HALL.out] at this
    simpa using this)
  have HP : Hid (∀ (m : Bool) (v : Nat), v < 18446744073709551616 → ∀ W1, Calls Try.prog 18 #[.agg #[.bool m, .int .u64 v]] W1 fun e w' => e = .returned (.string ⟨(printD (m, v)).toArray⟩) ∧ Below W1.heap.size W1 w') := Lib.hid (fun m v hv W1 => rprint_any m v hv W1)
  have HN0 : Hid (nmT W (blB zs) 0 = [91]) := Lib.hid rfl
  clear hW hok hR' hl' hn'
  go_enter Try.func8, Try.ntmps8
  go_wp2_with fail
  refine HAL.out.mono ?_
  rintro e w1 ⟨rfl, b1⟩
  have B1 := Lib.hid b1
  clear b1
  go_wp2
  go_loopw [5, 6, 7, 27] (fun s _ _ i wr => ∃ (k : Nat) (X : ByteArray), s = .string X ∧ i = .int .i64 k ∧ k ≤ n ∧ Hid (X = ⟨(nmT W (blB zs) k).toArray⟩) ∧ Hid (Below w.heap.size w wr)) (fun _ _ _ i _ => n - (RowKit.intOf i).toNat)
  case atStart => exact ⟨0, _, rfl, rfl, by omega, Lib.hid (by rw [HN0.out]), B1⟩
  case round =>
    obtain ⟨k, X, rfl, rfl, hk, HX, HWR⟩ := hrel
    have hzX : X.size ≤ 1 + 24 * k := by rw [HX.out, size_of]; exact HLEN.out k hk
    have hzX2 : X.size ≤ 300 := by omega
    by_cases hlt : k < n
    · obtain ⟨b, off, rfl, hb, hc⟩ := (HW.out.below HWR.out) (by omega)
      have c0 := (hc k hlt).1
      have c1 := (hc k hlt).2
      have hv := HOK.out k hlt
      have hst : nmT W (blB zs) (k + 1) = nmT W (blB zs) k ++ (if k = 0 then [] else [44]) ++ blB zs k ++ printD (W k) := rfl
      generalize W k = p at *
      obtain ⟨m, v⟩ := p
      simp only at c0 c1 hv
      have HPR := Lib.hid (HP.out m v hv)
      have hpl := print_len (m, v) hv
      have hPs : (⟨(printD (m, v)).toArray⟩ : ByteArray).size ≤ 21 := by rw [size_of]; exact hpl
      obtain ⟨PR, hPR⟩ : ∃ PR : ByteArray, (⟨(printD (m, v)).toArray⟩ : ByteArray) = PR := ⟨_, rfl⟩
      rw [hPR] at hPs HPR
      have HPR2 := Lib.hid hPR
      have HST := Lib.hid hst
      have hbb : b < wr.heap.size := Nat.lt_of_lt_of_le hb HWR.out.size
      clear hc hv hpl hPR hst hzX
      by_cases hbl : k < n'
      · have hbk : ((k : Int) < (n' : Int)) = True := by simp only [eq_iff_iff, iff_true]; omega
        have hkz' : k < zs.length := by rw [HL.out]; exact hbl
        obtain ⟨ad', u', rfl, hb0', hu', hcell'⟩ := (HR.out.below HWR.out).at_ hbl
        rw [List.getElem?_map, List.getElem?_eq_getElem hkz', Option.map_some, Option.some.injEq] at hu'
        subst hu'
        have hbB : blB zs k = blZ zs[k] := by unfold blB; rw [dif_pos hkz']
        rw [hbB] at HST
        obtain ⟨z', hz'⟩ : ∃ z, zs[k]'hkz' = z := ⟨_, rfl⟩
        rw [hz'] at hcell' HST
        clear hz' hbB
        obtain ⟨d, hd3, hd⟩ := bits_range z' 3 3 (by decide) rfl
        have hcell2 : ∀ x y, ((wr.alloc x).alloc y).cell? (ad'.add k) = some (.int .i64 z') := fun x y => by
          have hbl : (ad'.add k).block = ad'.block := by unfold Addr.add; split <;> rfl
          have hsz := HWR.out.size
          rw [World.cell?_alloc_lt _ y _ (by rw [hbl, World.size_alloc]; omega), World.cell?_alloc_lt wr x _ (by rw [hbl]; omega)]
          exact hcell'
        have hd4 : d = 0 ∨ d = 1 ∨ d = 2 ∨ d = 3 := by omega
        clear hcell' hbl hd3 hkz'
        by_cases hk0 : k = 0
        · have hkt : (0 < k) = False := by simp; omega
          rw [if_pos hk0] at HST
          clear hk0
          rcases hd4 with rfl | rfl | rfl | rfl
          · have hd0 : bits .and .i64 z' 3 = 0 := hd
            have hbz : blZ z' = [] := by unfold blZ; rw [hd0]; rfl
            rw [hbz] at HST
            obtain ⟨X2, hX2⟩ : ∃ Z : ByteArray, X ++ ⟨#[]⟩ = Z := ⟨_, rfl⟩
            have s2 : ¬ 9223372036854775807 < X.size + 0 := by omega
            have s2b : ¬ 9223372036854775807 < X.size := by omega
            have hz2 : X2.size ≤ 303 := by rw [← hX2, ByteArray.size_append]; show X.size + 0 ≤ 303; omega
            have s3 : ¬ 9223372036854775807 < X2.size + PR.size := by omega
            obtain ⟨X3, hX3⟩ : ∃ Z : ByteArray, X2 ++ PR = Z := ⟨_, rfl⟩
            have HN : Hid (X3 = ⟨(nmT W (blB zs) (k + 1)).toArray⟩) := Lib.hid (by rw [HST.out, ← hX3, ← HPR2.out, ← hX2, HX.out]; (try simp only [List.append_nil]); simp only [cat_of, List.append_nil])
            have HNE : Hid (X ++ ⟨#[]⟩ ++ PR = ⟨(nmT W (blB zs) (k + 1)).toArray⟩) := Lib.hid (by rw [hX2, hX3]; exact HN.out)
            skip
            go_wp2_with fail
            refine (HPR.out _).mono ?_
            rintro e w2 ⟨rfl, b2⟩
            have B2 : Hid (Below w.heap.size w w2) := Lib.hid (up_trans (up_alloc (up_alloc HWR.out _) _) b2)
            clear b2
            go_wp2
            go_roundw
            case rel => first | exact ⟨k + 1, X3, rfl, rfl, hlt, HN, B2⟩ | exact ⟨k + 1, _, rfl, rfl, hlt, HNE, B2⟩
            case measure => simp [RowKit.intOf]; omega
          · have hd0 : bits .and .i64 z' 3 = 1 := hd
            have hbz : blZ z' = [32] := by unfold blZ; rw [hd0]; rfl
            rw [hbz] at HST
            obtain ⟨X2, hX2⟩ : ∃ Z : ByteArray, X ++ ⟨#[32]⟩ = Z := ⟨_, rfl⟩
            have s2 : ¬ 9223372036854775807 < X.size + 1 := by omega
            have hz2 : X2.size ≤ 303 := by rw [← hX2, ByteArray.size_append]; show X.size + 1 ≤ 303; omega
            have s3 : ¬ 9223372036854775807 < X2.size + PR.size := by omega
            obtain ⟨X3, hX3⟩ : ∃ Z : ByteArray, X2 ++ PR = Z := ⟨_, rfl⟩
            have HN : Hid (X3 = ⟨(nmT W (blB zs) (k + 1)).toArray⟩) := Lib.hid (by rw [HST.out, ← hX3, ← HPR2.out, ← hX2, HX.out]; (try simp only [List.append_nil]); simp only [cat_of])
            have HNE : Hid (X ++ ⟨#[32]⟩ ++ PR = ⟨(nmT W (blB zs) (k + 1)).toArray⟩) := Lib.hid (by rw [hX2, hX3]; exact HN.out)
            skip
            go_wp2_with fail
            refine (HPR.out _).mono ?_
            rintro e w2 ⟨rfl, b2⟩
            have B2 : Hid (Below w.heap.size w w2) := Lib.hid (up_trans (up_alloc (up_alloc HWR.out _) _) b2)
            clear b2
            go_wp2
            go_roundw
            case rel => first | exact ⟨k + 1, X3, rfl, rfl, hlt, HN, B2⟩ | exact ⟨k + 1, _, rfl, rfl, hlt, HNE, B2⟩
            case measure => simp [RowKit.intOf]; omega
          · have hd0 : bits .and .i64 z' 3 = 2 := hd
            have hbz : blZ z' = [10, 10] := by unfold blZ; rw [hd0]; rfl
            rw [hbz] at HST
            obtain ⟨X2, hX2⟩ : ∃ Z : ByteArray, X ++ ⟨#[10, 10]⟩ = Z := ⟨_, rfl⟩
            have s2 : ¬ 9223372036854775807 < X.size + 2 := by omega
            have hz2 : X2.size ≤ 303 := by rw [← hX2, ByteArray.size_append]; show X.size + 2 ≤ 303; omega
            have s3 : ¬ 9223372036854775807 < X2.size + PR.size := by omega
            obtain ⟨X3, hX3⟩ : ∃ Z : ByteArray, X2 ++ PR = Z := ⟨_, rfl⟩
            have HN : Hid (X3 = ⟨(nmT W (blB zs) (k + 1)).toArray⟩) := Lib.hid (by rw [HST.out, ← hX3, ← HPR2.out, ← hX2, HX.out]; (try simp only [List.append_nil]); simp only [cat_of])
            have HNE : Hid (X ++ ⟨#[10, 10]⟩ ++ PR = ⟨(nmT W (blB zs) (k + 1)).toArray⟩) := Lib.hid (by rw [hX2, hX3]; exact HN.out)
            skip
            go_wp2_with fail
            refine (HPR.out _).mono ?_
            rintro e w2 ⟨rfl, b2⟩
            have B2 : Hid (Below w.heap.size w w2) := Lib.hid (up_trans (up_alloc (up_alloc HWR.out _) _) b2)
            clear b2
            go_wp2
            go_roundw
            case rel => first | exact ⟨k + 1, X3, rfl, rfl, hlt, HN, B2⟩ | exact ⟨k + 1, _, rfl, rfl, hlt, HNE, B2⟩
            case measure => simp [RowKit.intOf]; omega
          · have hd0 : bits .and .i64 z' 3 = 3 := hd
            have hbz : blZ z' = [9] := by unfold blZ; rw [hd0]; rfl
            rw [hbz] at HST
            obtain ⟨X2, hX2⟩ : ∃ Z : ByteArray, X ++ ⟨#[9]⟩ = Z := ⟨_, rfl⟩
            have s2 : ¬ 9223372036854775807 < X.size + 1 := by omega
            have hz2 : X2.size ≤ 303 := by rw [← hX2, ByteArray.size_append]; show X.size + 1 ≤ 303; omega
            have s3 : ¬ 9223372036854775807 < X2.size + PR.size := by omega
            obtain ⟨X3, hX3⟩ : ∃ Z : ByteArray, X2 ++ PR = Z := ⟨_, rfl⟩
            have HN : Hid (X3 = ⟨(nmT W (blB zs) (k + 1)).toArray⟩) := Lib.hid (by rw [HST.out, ← hX3, ← HPR2.out, ← hX2, HX.out]; (try simp only [List.append_nil]); simp only [cat_of])
            have HNE : Hid (X ++ ⟨#[9]⟩ ++ PR = ⟨(nmT W (blB zs) (k + 1)).toArray⟩) := Lib.hid (by rw [hX2, hX3]; exact HN.out)
            skip
            go_wp2_with fail
            refine (HPR.out _).mono ?_
            rintro e w2 ⟨rfl, b2⟩
            have B2 : Hid (Below w.heap.size w w2) := Lib.hid (up_trans (up_alloc (up_alloc HWR.out _) _) b2)
            clear b2
            go_wp2
            go_roundw
            case rel => first | exact ⟨k + 1, X3, rfl, rfl, hlt, HN, B2⟩ | exact ⟨k + 1, _, rfl, rfl, hlt, HNE, B2⟩
            case measure => simp [RowKit.intOf]; omega
        · have hkt : (0 < k) = True := by simp; omega
          rw [if_neg hk0] at HST
          clear hk0
          rcases hd4 with rfl | rfl | rfl | rfl
          · obtain ⟨X1, hX1⟩ : ∃ Z : ByteArray, X ++ ⟨#[44]⟩ = Z := ⟨_, rfl⟩
            have s1 : ¬ 9223372036854775807 < X.size + 1 := by omega
            have hz1 : X1.size ≤ 301 := by rw [← hX1, ByteArray.size_append]; show X.size + 1 ≤ 301; omega
            have hd0 : bits .and .i64 z' 3 = 0 := hd
            have hbz : blZ z' = [] := by unfold blZ; rw [hd0]; rfl
            rw [hbz] at HST
            obtain ⟨X2, hX2⟩ : ∃ Z : ByteArray, X1 ++ ⟨#[]⟩ = Z := ⟨_, rfl⟩
            have s2 : ¬ 9223372036854775807 < X1.size + 0 := by omega
            have s2b : ¬ 9223372036854775807 < X1.size := by omega
            have hz2 : X2.size ≤ 303 := by rw [← hX2, ByteArray.size_append]; show X1.size + 0 ≤ 303; omega
            have s3 : ¬ 9223372036854775807 < X2.size + PR.size := by omega
            obtain ⟨X3, hX3⟩ : ∃ Z : ByteArray, X2 ++ PR = Z := ⟨_, rfl⟩
            have HN : Hid (X3 = ⟨(nmT W (blB zs) (k + 1)).toArray⟩) := Lib.hid (by rw [HST.out, ← hX3, ← HPR2.out, ← hX2, ← hX1, HX.out]; (try simp only [List.append_nil]); simp only [cat_of, List.append_nil])
            have HNE : Hid (X ++ ⟨#[44]⟩ ++ ⟨#[]⟩ ++ PR = ⟨(nmT W (blB zs) (k + 1)).toArray⟩) := Lib.hid (by rw [hX1, hX2, hX3]; exact HN.out)
            skip
            go_wp2_with fail
            refine (HPR.out _).mono ?_
            rintro e w2 ⟨rfl, b2⟩
            have B2 : Hid (Below w.heap.size w w2) := Lib.hid (up_trans (up_alloc (up_alloc HWR.out _) _) b2)
            clear b2
            go_wp2
            go_roundw
            case rel => first | exact ⟨k + 1, X3, rfl, rfl, hlt, HN, B2⟩ | exact ⟨k + 1, _, rfl, rfl, hlt, HNE, B2⟩
            case measure => simp [RowKit.intOf]; omega
          · obtain ⟨X1, hX1⟩ : ∃ Z : ByteArray, X ++ ⟨#[44]⟩ = Z := ⟨_, rfl⟩
            have s1 : ¬ 9223372036854775807 < X.size + 1 := by omega
            have hz1 : X1.size ≤ 301 := by rw [← hX1, ByteArray.size_append]; show X.size + 1 ≤ 301; omega
            have hd0 : bits .and .i64 z' 3 = 1 := hd
            have hbz : blZ z' = [32] := by unfold blZ; rw [hd0]; rfl
            rw [hbz] at HST
            obtain ⟨X2, hX2⟩ : ∃ Z : ByteArray, X1 ++ ⟨#[32]⟩ = Z := ⟨_, rfl⟩
            have s2 : ¬ 9223372036854775807 < X1.size + 1 := by omega
            have hz2 : X2.size ≤ 303 := by rw [← hX2, ByteArray.size_append]; show X1.size + 1 ≤ 303; omega
            have s3 : ¬ 9223372036854775807 < X2.size + PR.size := by omega
            obtain ⟨X3, hX3⟩ : ∃ Z : ByteArray, X2 ++ PR = Z := ⟨_, rfl⟩
            have HN : Hid (X3 = ⟨(nmT W (blB zs) (k + 1)).toArray⟩) := Lib.hid (by rw [HST.out, ← hX3, ← HPR2.out, ← hX2, ← hX1, HX.out]; (try simp only [List.append_nil]); simp only [cat_of])
            have HNE : Hid (X ++ ⟨#[44]⟩ ++ ⟨#[32]⟩ ++ PR = ⟨(nmT W (blB zs) (k + 1)).toArray⟩) := Lib.hid (by rw [hX1, hX2, hX3]; exact HN.out)
            skip
            go_wp2_with fail
            refine (HPR.out _).mono ?_
            rintro e w2 ⟨rfl, b2⟩
            have B2 : Hid (Below w.heap.size w w2) := Lib.hid (up_trans (up_alloc (up_alloc HWR.out _) _) b2)
            clear b2
            go_wp2
            go_roundw
            case rel => first | exact ⟨k + 1, X3, rfl, rfl, hlt, HN, B2⟩ | exact ⟨k + 1, _, rfl, rfl, hlt, HNE, B2⟩
            case measure => simp [RowKit.intOf]; omega
          · obtain ⟨X1, hX1⟩ : ∃ Z : ByteArray, X ++ ⟨#[44]⟩ = Z := ⟨_, rfl⟩
            have s1 : ¬ 9223372036854775807 < X.size + 1 := by omega
            have hz1 : X1.size ≤ 301 := by rw [← hX1, ByteArray.size_append]; show X.size + 1 ≤ 301; omega
            have hd0 : bits .and .i64 z' 3 = 2 := hd
            have hbz : blZ z' = [10, 10] := by unfold blZ; rw [hd0]; rfl
            rw [hbz] at HST
            obtain ⟨X2, hX2⟩ : ∃ Z : ByteArray, X1 ++ ⟨#[10, 10]⟩ = Z := ⟨_, rfl⟩
            have s2 : ¬ 9223372036854775807 < X1.size + 2 := by omega
            have hz2 : X2.size ≤ 303 := by rw [← hX2, ByteArray.size_append]; show X1.size + 2 ≤ 303; omega
            have s3 : ¬ 9223372036854775807 < X2.size + PR.size := by omega
            obtain ⟨X3, hX3⟩ : ∃ Z : ByteArray, X2 ++ PR = Z := ⟨_, rfl⟩
            have HN : Hid (X3 = ⟨(nmT W (blB zs) (k + 1)).toArray⟩) := Lib.hid (by rw [HST.out, ← hX3, ← HPR2.out, ← hX2, ← hX1, HX.out]; (try simp only [List.append_nil]); simp only [cat_of])
            have HNE : Hid (X ++ ⟨#[44]⟩ ++ ⟨#[10, 10]⟩ ++ PR = ⟨(nmT W (blB zs) (k + 1)).toArray⟩) := Lib.hid (by rw [hX1, hX2, hX3]; exact HN.out)
            skip
            go_wp2_with fail
            refine (HPR.out _).mono ?_
            rintro e w2 ⟨rfl, b2⟩
            have B2 : Hid (Below w.heap.size w w2) := Lib.hid (up_trans (up_alloc (up_alloc HWR.out _) _) b2)
            clear b2
            go_wp2
            go_roundw
            case rel => first | exact ⟨k + 1, X3, rfl, rfl, hlt, HN, B2⟩ | exact ⟨k + 1, _, rfl, rfl, hlt, HNE, B2⟩
            case measure => simp [RowKit.intOf]; omega
          · obtain ⟨X1, hX1⟩ : ∃ Z : ByteArray, X ++ ⟨#[44]⟩ = Z := ⟨_, rfl⟩
            have s1 : ¬ 9223372036854775807 < X.size + 1 := by omega
            have hz1 : X1.size ≤ 301 := by rw [← hX1, ByteArray.size_append]; show X.size + 1 ≤ 301; omega
            have hd0 : bits .and .i64 z' 3 = 3 := hd
            have hbz : blZ z' = [9] := by unfold blZ; rw [hd0]; rfl
            rw [hbz] at HST
            obtain ⟨X2, hX2⟩ : ∃ Z : ByteArray, X1 ++ ⟨#[9]⟩ = Z := ⟨_, rfl⟩
            have s2 : ¬ 9223372036854775807 < X1.size + 1 := by omega
            have hz2 : X2.size ≤ 303 := by rw [← hX2, ByteArray.size_append]; show X1.size + 1 ≤ 303; omega
            have s3 : ¬ 9223372036854775807 < X2.size + PR.size := by omega
            obtain ⟨X3, hX3⟩ : ∃ Z : ByteArray, X2 ++ PR = Z := ⟨_, rfl⟩
            have HN : Hid (X3 = ⟨(nmT W (blB zs) (k + 1)).toArray⟩) := Lib.hid (by rw [HST.out, ← hX3, ← HPR2.out, ← hX2, ← hX1, HX.out]; (try simp only [List.append_nil]); simp only [cat_of])
            have HNE : Hid (X ++ ⟨#[44]⟩ ++ ⟨#[9]⟩ ++ PR = ⟨(nmT W (blB zs) (k + 1)).toArray⟩) := Lib.hid (by rw [hX1, hX2, hX3]; exact HN.out)
            skip
            go_wp2_with fail
            refine (HPR.out _).mono ?_
            rintro e w2 ⟨rfl, b2⟩
            have B2 : Hid (Below w.heap.size w w2) := Lib.hid (up_trans (up_alloc (up_alloc HWR.out _) _) b2)
            clear b2
            go_wp2
            go_roundw
            case rel => first | exact ⟨k + 1, X3, rfl, rfl, hlt, HN, B2⟩ | exact ⟨k + 1, _, rfl, rfl, hlt, HNE, B2⟩
            case measure => simp [RowKit.intOf]; omega
      · have hbk : ((k : Int) < (n' : Int)) = False := by simp only [eq_iff_iff, iff_false]; omega
        have hbB : blB zs k = [] := by unfold blB; rw [dif_neg (by rw [HL.out]; exact hbl)]
        rw [hbB] at HST
        clear hbB hbl
        by_cases hk0 : k = 0
        · have hkt : (0 < k) = False := by simp; omega
          rw [if_pos hk0] at HST
          clear hk0
          have s3 : ¬ 9223372036854775807 < X.size + PR.size := by omega
          obtain ⟨X3, hX3⟩ : ∃ Z : ByteArray, X ++ PR = Z := ⟨_, rfl⟩
          have HN : Hid (X3 = ⟨(nmT W (blB zs) (k + 1)).toArray⟩) := Lib.hid (by rw [HST.out, ← hX3, ← HPR2.out, HX.out]; (try simp only [List.append_nil]); simp only [cat_of])
          have HNE : Hid (X ++ PR = ⟨(nmT W (blB zs) (k + 1)).toArray⟩) := Lib.hid (by rw [hX3]; exact HN.out)
          skip
          go_wp2_with fail
          refine (HPR.out _).mono ?_
          rintro e w2 ⟨rfl, b2⟩
          have B2 : Hid (Below w.heap.size w w2) := Lib.hid (up_trans (up_alloc HWR.out _) b2)
          clear b2
          go_wp2
          go_roundw
          case rel => first | exact ⟨k + 1, X3, rfl, rfl, hlt, HN, B2⟩ | exact ⟨k + 1, _, rfl, rfl, hlt, HNE, B2⟩
          case measure => simp [RowKit.intOf]; omega
        · have hkt : (0 < k) = True := by simp; omega
          rw [if_neg hk0] at HST
          clear hk0
          obtain ⟨X1, hX1⟩ : ∃ Z : ByteArray, X ++ ⟨#[44]⟩ = Z := ⟨_, rfl⟩
          have s1 : ¬ 9223372036854775807 < X.size + 1 := by omega
          have hz1 : X1.size ≤ 301 := by rw [← hX1, ByteArray.size_append]; show X.size + 1 ≤ 301; omega
          have s3 : ¬ 9223372036854775807 < X1.size + PR.size := by omega
          obtain ⟨X3, hX3⟩ : ∃ Z : ByteArray, X1 ++ PR = Z := ⟨_, rfl⟩
          have HN : Hid (X3 = ⟨(nmT W (blB zs) (k + 1)).toArray⟩) := Lib.hid (by rw [HST.out, ← hX3, ← HPR2.out, ← hX1, HX.out]; (try simp only [List.append_nil]); simp only [cat_of])
          have HNE : Hid (X ++ ⟨#[44]⟩ ++ PR = ⟨(nmT W (blB zs) (k + 1)).toArray⟩) := Lib.hid (by rw [hX1, hX3]; exact HN.out)
          skip
          go_wp2_with fail
          refine (HPR.out _).mono ?_
          rintro e w2 ⟨rfl, b2⟩
          have B2 : Hid (Below w.heap.size w w2) := Lib.hid (up_trans (up_alloc HWR.out _) b2)
          clear b2
          go_wp2
          go_roundw
          case rel => first | exact ⟨k + 1, X3, rfl, rfl, hlt, HN, B2⟩ | exact ⟨k + 1, _, rfl, rfl, hlt, HNE, B2⟩
          case measure => simp [RowKit.intOf]; omega
    · obtain rfl : k = n := by omega
      have hz1 : ¬ 9223372036854775807 < X.size + 1 := by omega
      have hX1 : X ++ ⟨#[93]⟩ = ⟨(nmT W (blB zs) k ++ [93]).toArray⟩ := by rw [HX.out]; exact cat_of _ _
      obtain ⟨Y, hY⟩ : ∃ Y : ByteArray, (⟨(nmT W (blB zs) k ++ [93]).toArray⟩ : ByteArray) = Y := ⟨_, rfl⟩
      rw [hY] at hX1 HJ
      have hn12 : k ≤ 12 := hn
      clear hY hzX hzX2 hk hlt hn
      go_wp2_with fail
      refine (HJ.out _).mono ?_
      rintro r w2 ⟨u, rfl, hM⟩
      obtain ⟨a, cp, rfl, _, _⟩ := hM.2.1.slice_form
      have HL2 : Hid (EvsAt w2 w2.heap.size a (k + 2) (getE (evOpen false :: (List.range k).map (fun i => evNum (W i)) ++ [evEnd]))) := Lib.hid (evs_win hM.2.1 (by simp))
      have HB2 := Lib.hid (up_trans HWR.out hM.1)
      have hN2 : ((((k + 2 : Nat) : Int)) != (k : Int) + 2) = false := by simp
      clear hM hX1 hz1
      go_wp2
      go_loopw [10, 11, 73] (fun _ _ i wq => ∃ j : Nat, i = .int .i64 j ∧ j ≤ k ∧ Hid (Below w2.heap.size w2 wq)) (fun _ _ i _ => k - (RowKit.intOf i).toNat)
      case atStart => exact ⟨0, rfl, by omega, Lib.hid (Below.refl _ _)⟩
      case round =>
        obtain ⟨j, rfl, hj, HWQ⟩ := hrel
        by_cases hlj : j < k
        · obtain ⟨b, off, rfl, hb, hc⟩ := (HW.out.below (HB2.out.trans (HWQ.out.mono HB2.out.size))) (by omega)
          have c0 := (hc j hlj).1
          have c1 := (hc j hlj).2
          obtain ⟨j1, hj1⟩ : ∃ j1 : Nat, j1 = j + 1 := ⟨_, rfl⟩
          have hji : (j : Int) + 1 = (j1 : Int) := by omega
          have hjw : IntKind.i64.wrap (j1 : Int) = (j1 : Int) := by simp only [IntKind.wrap_i64]; omega
          have hg : getE (evOpen false :: (List.range k).map (fun i => evNum (W i)) ++ [evEnd]) j1 = evNum (W j) := by
            subst hj1
            show (((List.range k).map (fun i => evNum (W i)) ++ [evEnd])[j]?).getD evZ = _
            rw [List.getElem?_append_left (by simp; exact hlj)]
            simp [hlj]
          obtain ⟨g, of2, rfl, hgb, x0, x1, x2, x3, x4⟩ := (HL2.out.below HWQ.out).cells (i := j1) (by omega)
          rw [hg] at x0 x1 x2 x3 x4
          have hj2 : (j1 : Int) < ((k + 2 : Nat) : Int) := by omega
          have hE := fun W1 => ev_neq (evNum (W j)) (evNum (W j)) W1
          rw [sameE_refl] at hE
          generalize W j = p at *
          obtain ⟨m, v⟩ := p
          simp only [evNum, evV] at c0 c1 x0 x1 x2 x3 x4 hE
          have hbb : b < wr.heap.size := Nat.lt_of_lt_of_le hb (Nat.le_trans HB2.out.size HWQ.out.size)
          have hgg : g < wr.heap.size := Nat.lt_of_lt_of_le hgb HWQ.out.size
          have HQ : Hid (∀ x q, Below w2.heap.size w2 ((wr.alloc x).drewN q)) := Lib.hid (fun x q => below_drN (up_alloc HWQ.out x) q)
          clear hc hg hj1
          go_wp2
          go_quiet (fail)
          go_wp2
          go_roundw
          case rel => exact ⟨j1, rfl, by omega, Lib.hid (HQ.out _ _)⟩
          case measure => simp [RowKit.intOf]; omega
        · obtain rfl : j = k := by omega
          have HF := Lib.hid (HB2.out.trans (HWQ.out.mono HB2.out.size))
          go_wp2
          go_ret
          exact ⟨rfl, HF.out⟩
set_option maxRecDepth 100000 in
set_option maxHeartbeats 2000000 in
theorem numbers_out (A : Option Addr) (n c : Nat) (A' : Option Addr) (n' c' : Nat) (w : World) (h : 12 < n ∨ 30 < n') :
    Calls Try.prog 8 #[.slice A n c, .slice A' n' c'] w fun r w' => r = .returned (.bool true) ∧ Below w.heap.size w w' := by
  have HAL := Lib.hid (jalive_any w)
  by_cases h1 : 12 < n
  · have t1 : ((12 : Int) < (n : Int)) = True := by simp; omega
    clear h h1
    go_enter Try.func8, Try.ntmps8
    go_wp2_with fail
    refine HAL.out.mono ?_
    rintro e w1 ⟨rfl, b1⟩
    have B1 := Lib.hid b1
    clear b1
    go_wp2
    go_ret
    exact ⟨rfl, B1.out⟩
  · have t1 : ((12 : Int) < (n : Int)) = False := by simp; omega
    have t2 : ((30 : Int) < (n' : Int)) = True := by simp; omega
    clear h h1
    go_enter Try.func8, Try.ntmps8
    go_wp2_with fail
    refine HAL.out.mono ?_
    rintro e w1 ⟨rfl, b1⟩
    have B1 := Lib.hid b1
    clear b1
    go_wp2
    go_ret
    exact ⟨rfl, B1.out⟩
theorem numbers_row (A : Option Addr) (n c : Nat) (W : Nat → Bool × Nat) (A' : Option Addr) (n' c' : Nat) (zs : List Int) (w : World) (hW : WhAt w w.heap.size A n W) (hok : ∀ i, i < n → (W i).2 < 18446744073709551616)
    (hl' : zs.length = n') (hR' : Reads w w.heap.size 1 A' n' (zs.map (Value.int .i64))) :
    Calls Try.prog 8 #[.slice A n c, .slice A' n' c'] w fun r w' => r = .returned (.bool true) ∧ Below w.heap.size w w' := by
  by_cases h : 12 < n ∨ 30 < n'
  · exact numbers_out A n c A' n' c' w h
  · exact numbers_in A n c W A' n' c' zs w hW hok hl' hR' (by omega) (by omega)
end Go.Proofs.Ytacngbngljfedaa
