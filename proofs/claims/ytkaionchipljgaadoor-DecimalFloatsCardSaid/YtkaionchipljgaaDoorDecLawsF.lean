/-
  LAWS of chapter 6: DecimalFloats.
-/
import Derived.Test.YtkaionchipljgaaDoorDecLawsC
import Derived.Test.YtkaionchipljgaaDoorDecLawsD
import Derived.Deep.RegionHeldLaw
import Derived.Deep.DeepCutAuto
import Derived.Deep.RegionWith
namespace Go.Proofs.YtkaionchipljgaaDoor
open Go.RowKit
open Go.Lib
theorem floats_long (m : Bool) (v : Nat) (k : Int) (s : ByteArray) (hs : ¬ s.size ≤ 20) (w : World) (hT : Tab w) :
    Calls Tryd.prog 6 #[.agg #[.bool m, .int .u64 v], .int .i64 k, .string s] w fun e w' => e = .returned (.bool true) ∧ Below w.heap.size w w' := by
  have hz : ((20 : Int) < (s.size : Int)) = True := by simp; omega
  have BX0 := Lib.hid (bx_new m v hT 24)
  clear hs
  go_enter Tryd.func6, Tryd.ntmps6
  go_wp2_with fail
  refine (alive_any _ BX0.out.t).mono ?_
  rintro e w1 ⟨rfl, b1⟩
  have BX1 := Lib.hid (BX0.out.go b1)
  clear b1
  go_wp2
  go_ret
  exact ⟨rfl, BX1.out.b⟩
/-- One byte as a text, wherever its slice lies. -/
structure Cnv (c : Int) (z : ByteArray) : Prop where
  fa : ∀ W : World, (convert 39 9 (.slice (some ⟨W.heap.size, 0, none⟩) 1 1)).run Tryd.prog (W.alloc (.cells #[.int .u8 c] 5)) = .ok (.string z) (W.alloc (.cells #[.int .u8 c] 5))
  fb : ∀ (W : World) (X : Obj), (convert 39 9 (.slice (some ⟨W.heap.size + 1, 0, none⟩) 1 1)).run Tryd.prog ((W.alloc X).alloc (.cells #[.int .u8 c] 5)) = .ok (.string z) ((W.alloc X).alloc (.cells #[.int .u8 c] 5))
  fc : ∀ (W : World) (X : Obj), (convert 39 9 (.slice (some ⟨W.heap.size, 0, none⟩) 1 1)).run Tryd.prog ((W.alloc (.cells #[.int .u8 c] 5)).alloc X) = .ok (.string z) ((W.alloc (.cells #[.int .u8 c] 5)).alloc X)
  fd : ∀ (W : World) (k : Nat), W.heap[k]? = some (.cells #[.int .u8 c] 5 (0, 0)) → (convert 39 9 (.slice (some ⟨k, 0, none⟩) 1 1)).run Tryd.prog W = .ok (.string z) W
theorem cnv_of (x : UInt8) (c : Int) (hc : c = ((x.toNat : Nat) : Int)) : Cnv c ⟨#[x]⟩ := by
  have hd : ∀ (W : World) (k : Nat), W.heap[k]? = some (.cells #[.int .u8 c] 5 (0, 0)) → (convert 39 9 (.slice (some ⟨k, 0, none⟩) 1 1)).run Tryd.prog W = .ok (.string ⟨#[x]⟩) W := by
    intro W k h
    subst hc
    exact conv_row (w := W) (g := k) (l := [x]) h 0 1 1 (by simp)
  refine ⟨fun W => hd _ _ (heap_new W _), fun W X => hd _ _ ?_, fun W X => hd _ _ ?_, hd⟩
  · have := heap_new (W.alloc X) (.cells #[.int .u8 c] 5)
    rwa [show (W.alloc X).heap.size = W.heap.size + 1 by simp] at this
  · rw [Below.heap_alloc _ _ _ (by simp)]
    exact heap_new W _
theorem BX.goD {w w1 w2 : World} {m : Bool} {v : Nat} (h : BX w m v w1) (k : Below w1.drew.heap.size w1.drew w2) : BX w m v w2 := h.drew.go k
theorem BX.set {w w1 : World} {m : Bool} {v : Nat} (h : BX w m v w1) (hT : Tab w) (n i : Nat) (u : Value) (hn : w.heap.size < n) : BX w m v (w1.setCell ⟨n, i, none⟩ u) := by
  have hb : Below (w.heap.size + 1) w1 (w1.setCell ⟨n, i, none⟩ u) := (Below.refl _ _).setCell (by show w.heap.size + 1 ≤ n; omega) _
  have hw : Below w.heap.size w (w1.setCell ⟨n, i, none⟩ u) := h.b.trans (hb.mono (by omega))
  exact ⟨hT.below hw, hw, Nat.lt_of_lt_of_le h.lt hb.size, (World.cell?_of_block (w := w1) (a := ⟨w.heap.size, 0, none⟩) (hb.block _ (by simp))).trans h.c0, (World.cell?_of_block (w := w1) (a := ⟨w.heap.size, 1, none⟩) (hb.block _ (by simp))).trans h.c1⟩
theorem sx {w w1 : World} {m : Bool} {v : Nat} (h : BX w m v w1) : w1.cell? ⟨w.heap.size, 0, none⟩ = some (.bool m) ∧ w1.cell? ⟨w.heap.size, 1, none⟩ = some (.int .u64 v) ∧ Hid (BX w m v w1) := ⟨h.c0, h.c1, Lib.hid h⟩
/-- What a new number's block, and a new byte's, hold behind a call. -/
abbrev NA : Obj := .cells #[.bool false, .int .u64 0] 24
abbrev NB (c : Int) : Obj := .cells #[.int .u8 c] 5
def HasA (v : World) (n : Nat) : Prop := v.heap[n]? = some NA
theorem HasA.cells {v : World} {n : Nat} (h : HasA v n) : v.cell? ⟨n, 0, none⟩ = some (.bool false) ∧ v.frozen? ⟨n, 0, none⟩ = false ∧ v.cell? ⟨n, 1, none⟩ = some (.int .u64 0) ∧ v.frozen? ⟨n, 1, none⟩ = false :=
  ⟨(res_cells h 0 _ rfl).1, (res_cells h 0 _ rfl).2, (res_cells h 1 _ rfl).1, (res_cells h 1 _ rfl).2⟩
theorem HasA.go {v v2 : World} {n : Nat} (h : HasA v n) (b : Below v.heap.size v v2) : HasA v2 n := (b.block n (Array.getElem?_eq_some_iff.1 h).1).trans h
theorem HasA.goD {v v2 : World} {n : Nat} (h : HasA v n) (b : Below v.drew.heap.size v.drew v2) : HasA v2 n := HasA.go (v := v.drew) h b
theorem HasA.alloc {v : World} {n : Nat} (h : HasA v n) (X : Obj) : HasA (v.alloc X) n := h.go ((Below.refl _ _).alloc (Nat.le_refl _) X)
theorem hasA_new (v : World) : HasA (v.alloc NA) v.heap.size := heap_new v NA
theorem hasA_new1 (v : World) (X : Obj) : HasA ((v.alloc X).alloc NA) (v.heap.size + 1) := by
  have := heap_new (v.alloc X) NA
  rwa [show (v.alloc X).heap.size = v.heap.size + 1 by simp] at this
def HasB (c : Int) (v : World) (n : Nat) : Prop := v.heap[n]? = some (NB c)
theorem HasB.go {c : Int} {v v2 : World} {n : Nat} (h : HasB c v n) (b : Below v.heap.size v v2) : HasB c v2 n := (b.block n (Array.getElem?_eq_some_iff.1 h).1).trans h
theorem HasB.eq {c : Int} {v : World} {n : Nat} (h : HasB c v n) : v.heap[n]? = some (NB c) := h
theorem HasB.goD {c : Int} {v v2 : World} {n : Nat} (h : HasB c v n) (b : Below v.drew.heap.size v.drew v2) : HasB c v2 n := HasB.go (v := v.drew) h b
theorem HasB.alloc {c : Int} {v : World} {n : Nat} (h : HasB c v n) (X : Obj) : HasB c (v.alloc X) n := h.go ((Below.refl _ _).alloc (Nat.le_refl _) X)
theorem HasB.drew {c : Int} {v : World} {n : Nat} (h : HasB c v n) : HasB c v.drew n := h
theorem hasB_new (c : Int) (v : World) : HasB c (v.alloc (NB c)) v.heap.size := heap_new v (NB c)
theorem hasB_new1 (c : Int) (v : World) (X : Obj) : HasB c ((v.alloc X).alloc (NB c)) (v.heap.size + 1) := by
  have := heap_new (v.alloc X) (NB c)
  rwa [show (v.alloc X).heap.size = v.heap.size + 1 by simp] at this
set_option maxHeartbeats 16000000 in
theorem floats_core (m : Bool) (v : Nat) (k : Int) (s : ByteArray) (hs : s.size ≤ 20) (c : Int) (P Z A E : ByteArray) (hA : P ++ Z = A) (hE : A ++ s = E) (hAs : A.size ≤ 22) (r : Int) (hr : (wrap64 (k.tmod 3 + 3)).tmod 3 = r) (hI : ∀ W : World, (Instr.index 9 (.string ⟨#[46, 101, 69]⟩) (.int .i64 r)).run Tryd.prog W = .ok (.int .u8 c) W) (hC : Cnv c Z) (w : World) (hT : Tab w)
    (hPP : ∀ w, Tab w → Calls Tryd.prog 11 #[.agg #[.bool m, .int .u64 v]] w fun e w' => e = .returned (.string P) ∧ Below w.heap.size w w') (hp : P.size ≤ 21) (hz1 : Z.size = 1)
    (F D G : ByteArray) (hF : Z ++ s = F) (hD : (⟨#[45]⟩ : ByteArray) ++ Z = D) (hG : D ++ s = G) (hDs : D.size = 2)
    (q2 q3 : Bool) (n2 n3 : Nat) (hQ2 : ∀ w, Calls Tryd.prog 10 #[.string F] w fun r w' => r = .returned (.tuple #[.agg #[.bool q2, .int .u64 n2], .int .i64 2]) ∧ Below w.heap.size w w')
    (hQ3 : ∀ w, Calls Tryd.prog 10 #[.string G] w fun r w' => r = .returned (.tuple #[.agg #[.bool q3, .int .u64 n3], .int .i64 2]) ∧ Below w.heap.size w w')
    (q1 : Bool) (n1 : Nat) (hQ1 : ∀ w, Calls Tryd.prog 10 #[.string E] w fun r w' => r = .returned (.tuple #[.agg #[.bool q1, .int .u64 n1], .int .i64 6]) ∧ Below w.heap.size w w') :
    Calls Tryd.prog 6 #[.agg #[.bool m, .int .u64 v], .int .i64 k, .string s] w fun e w' => e = .returned (.bool true) ∧ Below w.heap.size w w' := by
  have hz : ((20 : Int) < (s.size : Int)) = False := by simp; omega
  have BX0 := Lib.hid (bx_new m v hT 24)
  have PP := Lib.hid hPP
  have Q1 := Lib.hid hQ1
  have HC := Lib.hid hC
  have Q2 := Lib.hid hQ2
  have Q3 := Lib.hid hQ3
  have s1 : (9223372036854775807 < P.size + Z.size) = False := by simp; omega
  have s2 : (9223372036854775807 < A.size + s.size) = False := by simp; omega
  clear hPP hQ1 hC hQ2 hQ3
  go_enter Tryd.func6, Tryd.ntmps6
  go_wp2_with fail
  refine (alive_any _ BX0.out.t).mono ?_
  rintro e w1 ⟨rfl, b1⟩
  have BX1 := Lib.hid (BX0.out.go b1)
  clear b1
  have k0 := BX1.out.c0
  have k1 := BX1.out.c1
  have hl := BX1.out.lt
  have T1 := BX1.out.t
  have hca := HC.out.fa
  have hcb := HC.out.fb
  have hcc := HC.out.fc
  have hda := HC.out.fd _ _ (HasB.drew (hasB_new c w1))
  have hdb := fun X => HC.out.fd _ _ (HasB.drew (hasB_new1 c w1 X))
  have hdc := fun X => HC.out.fd _ _ (HasB.drew ((hasB_new c w1).alloc X))
  go_wp2_with fail
  go_cut [8, 9] (fun _ s9 wx => s9 = .int .i64 6 ∧ Hid (BX w m v wx))
  case first =>
    have HS0 : Hid (BX w m v w1.drew) := Lib.hid BX1.out.drew
    go_region_held_law (fun w' => w'.cell? ⟨w.heap.size, 0, none⟩ = some (.bool m) ∧ w'.cell? ⟨w.heap.size, 1, none⟩ = some (.int .u64 v) ∧ Hid (BX w m v w'))
      (with_reducible first
        | exact sx X2.out
        | exact sx (X2.out.alloc _)
        | exact sx ((X2.out.set hT _ _ _ (by omega)).set hT _ _ _ (by omega))
        | exact sx X1.out
        | exact sx (X1.out.alloc _)
        | exact sx ((X1.out.alloc _).alloc _)
        | exact sx HS0.out
        | exact sx (BX1.out.alloc _).drew
        | exact sx ((BX1.out.alloc _).alloc _).drew)
      (first
      | ((go_at_call 11); (with_reducible refine (PP.out _ (by assumption : _ ∧ _ ∧ Hid (BX w m v _)).2.2.out.t).mono ?_); rintro e v1 ⟨rfl, b5⟩
         (have X1 : Hid (BX w m v v1) := Lib.hid ((by assumption : _ ∧ _ ∧ Hid (BX w m v _)).2.2.out.go b5))
         (have l1 := X1.out.lt)
         (with_reducible first
           | (have hA0 := (hasA_new w1).goD b5); (obtain ⟨a1, a2, a3, a4⟩ := hA0.cells)
           | (have hA0 := ((hasA_new w1).alloc _).goD b5); (obtain ⟨a1, a2, a3, a4⟩ := hA0.cells)
           | (have hA0 := (hasA_new1 w1 _).goD b5); (obtain ⟨a1, a2, a3, a4⟩ := hA0.cells)
           | skip)
         (with_reducible first
           | (have hB0 := (hasB_new c w1).goD b5); (have hB1 := HC.out.fd _ _ hB0.eq); (have hB2 := fun X => HC.out.fd _ _ (hB0.alloc X).eq)
           | (have hB0 := ((hasB_new c w1).alloc _).goD b5); (have hB1 := HC.out.fd _ _ hB0.eq); (have hB2 := fun X => HC.out.fd _ _ (hB0.alloc X).eq)
           | (have hB0 := (hasB_new1 c w1 _).goD b5); (have hB1 := HC.out.fd _ _ hB0.eq); (have hB2 := fun X => HC.out.fd _ _ (hB0.alloc X).eq)
           | skip))
      | ((go_at_call 10); (with_reducible refine (Q1.out _).mono ?_); rintro e v2 ⟨rfl, b6⟩
         (have X2 : Hid (BX w m v v2) := Lib.hid (by with_reducible first | exact X1.out.go b6 | exact (X1.out.alloc _).go b6 | exact ((X1.out.alloc _).alloc _).go b6))
         (with_reducible first
           | (have hA1 := (hasA_new v1).go b6); (obtain ⟨d1, d2, d3, d4⟩ := hA1.cells)
           | (have hA1 := ((hasA_new v1).alloc _).go b6); (obtain ⟨d1, d2, d3, d4⟩ := hA1.cells)
           | (have hA1 := (hasA_new1 v1 _).go b6); (obtain ⟨d1, d2, d3, d4⟩ := hA1.cells)
           | (have hA1 := hA0.go b6); (obtain ⟨d1, d2, d3, d4⟩ := hA1.cells)
           | (have hA1 := (hA0.alloc _).go b6); (obtain ⟨d1, d2, d3, d4⟩ := hA1.cells)
           | skip)))
    all_goals
      go_wp2_with fail
      go_meet
      exact ⟨rfl, Lib.hid (by with_reducible first
        | exact X2.out
        | exact X2.out.alloc _
        | exact (X2.out.set hT _ _ _ (by omega)).set hT _ _ _ (by omega))⟩
  case rest =>
    obtain ⟨rfl, HB⟩ := hcut
    clear k0 k1 hl T1 hcc hda hdb hdc BX1 BX0 s1 s2 hA hE
    have hcw := hca wc
    go_wp2_with fail
    refine (Q2.out _).mono ?_
    rintro e w2 ⟨rfl, b2⟩
    have B2 := Lib.hid ((HB.out.alloc _).go b2)
    have hcv := hcb w2 (.cells #[.bool q2, .int .u64 n2] 24)
    clear hcw b2
    go_wp2_with fail
    refine (Q3.out _).mono ?_
    rintro e w3 ⟨rfl, b3⟩
    have B3 := Lib.hid (((B2.out.alloc _).alloc _).go b3)
    clear b3 hcv
    go_wp2
    go_ret
    exact ⟨rfl, (B3.out.alloc _).b⟩
theorem idx_at (D : ByteArray) (a : Nat) (h : a < D.size) (x : UInt8) (hx : D[a]'h = x) (r c : Int) (hr : r = (a : Int)) (hc : c = ((x.toNat : Nat) : Int)) (W : World) : (Instr.index 9 (.string D) (.int .i64 r)).run Tryd.prog W = .ok (.int .u8 c) W := by
  subst hr hc
  rw [run_index_string W 9 D .i64 (a : Int) Tryd.underlying9, dif_pos (by omega)]
  subst hx
  rfl
theorem float_step (m : Bool) (v : Nat) (x : UInt8) (hx : x.toNat = 46 ∨ x.toNat = 101 ∨ x.toNat = 69) (t : List UInt8) : parseD d0 (printD (m, v) ++ x :: t) = ((false, 0), 6) := by
  rw [(runs_print (m, v)).parse]
  obtain ⟨p, m', v', h, hp⟩ := prD_digit (m, v)
  rw [h]
  refine parse_err ?_ (by decide)
  simp only [stepD]
  rw [if_neg (by omega), if_neg (by omega), if_neg (by omega), if_pos (by omega)]
  rfl
theorem float_ahead (x : UInt8) (hx : x.toNat = 46 ∨ x.toNat = 101 ∨ x.toNat = 69) (t : List UInt8) : parseD d0 (x :: t) = ((false, 0), 2) := by
  refine parse_err ?_ (by decide)
  simp only [stepD, d0]
  rw [if_neg (by omega), if_neg (by omega), if_pos (by omega)]
  rfl
theorem float_minus (x : UInt8) (hx : x.toNat = 46 ∨ x.toNat = 101 ∨ x.toNat = 69) (t : List UInt8) : parseD d0 (45 :: x :: t) = ((false, 0), 2) := by
  have := runs_minus.parse (x :: t)
  rw [show (45 : UInt8) :: x :: t = [45] ++ (x :: t) from rfl, this]
  refine parse_err ?_ (by decide)
  simp only [stepD]
  rw [if_neg (by omega), if_neg (by omega), if_pos (by omega)]
  rfl
theorem mod_three (k : Int) : (wrap64 (k.tmod 3 + 3)).tmod 3 = 0 ∨ (wrap64 (k.tmod 3 + 3)).tmod 3 = 1 ∨ (wrap64 (k.tmod 3 + 3)).tmod 3 = 2 := by
  have h1 := Int.tmod_lt_of_pos k (show (0 : Int) < 3 by decide)
  have h2 : -3 < k.tmod 3 := by
    have := Int.tmod_lt_of_pos (-k) (show (0 : Int) < 3 by decide)
    rw [Int.neg_tmod] at this
    omega
  have h3 : wrap64 (k.tmod 3 + 3) = k.tmod 3 + 3 := by unfold wrap64; omega
  rw [h3]
  generalize k.tmod 3 = j at *
  have : j + 3 = 1 ∨ j + 3 = 2 ∨ j + 3 = 3 ∨ j + 3 = 4 ∨ j + 3 = 5 := by omega
  rcases this with h | h | h | h | h <;> rw [h] <;> decide
theorem floats_some (m : Bool) (v : Nat) (k : Int) (s : ByteArray) (hv : v < 18446744073709551616) (hs : s.size ≤ 20) (w : World) (hT : Tab w) (a : Nat) (x : UInt8) (ha : a < (⟨#[46, 101, 69]⟩ : ByteArray).size) (hxa : (⟨#[46, 101, 69]⟩ : ByteArray)[a]'ha = x)
    (hx : x.toNat = 46 ∨ x.toNat = 101 ∨ x.toNat = 69) (hr : (wrap64 (k.tmod 3 + 3)).tmod 3 = (a : Int)) :
    Calls Tryd.prog 6 #[.agg #[.bool m, .int .u64 v], .int .i64 k, .string s] w fun e w' => e = .returned (.bool true) ∧ Below w.heap.size w w' := by
  have hsl : s = ⟨s.data.toList.toArray⟩ := by simp
  have hcat : ∀ l : List UInt8, (⟨l.toArray⟩ : ByteArray) ++ s = ⟨(l ++ s.data.toList).toArray⟩ := fun l => by
    conv => lhs; rw [hsl]
    exact cat_of _ _
  have hpl := print_len (m, v) hv
  refine floats_core m v k s hs ((x.toNat : Nat) : Int) ⟨(printD (m, v)).toArray⟩ ⟨#[x]⟩ ⟨(printD (m, v) ++ [x]).toArray⟩ ⟨(printD (m, v) ++ [x] ++ s.data.toList).toArray⟩ (cat_of _ [x]) (hcat _) ?_ _ hr (fun W => idx_at _ a ha x hxa _ _ rfl rfl W) (cnv_of x _ rfl) w hT
    (fun w hT => print_any m v hv w hT) ?_ rfl ⟨([x] ++ s.data.toList).toArray⟩ ⟨[45, x].toArray⟩ ⟨([45, x] ++ s.data.toList).toArray⟩ (hcat [x]) (cat_of [45] [x]) (hcat [45, x]) rfl false false 0 0 (fun w => parse_lit _ w _ _ _ ?_) (fun w => parse_lit _ w _ _ _ ?_) false 0 (fun w => parse_lit _ w _ _ _ ?_)
  · rw [size_of, List.length_append]
    show _ + 1 ≤ 22
    omega
  · rw [size_of]
    exact hpl
  · simpa using float_ahead x hx s.data.toList
  · simpa using float_minus x hx s.data.toList
  · simpa using float_step m v x hx s.data.toList
theorem floats_any (m : Bool) (v : Nat) (k : Int) (s : ByteArray) (hv : v < 18446744073709551616) (_hk : -9223372036854775808 ≤ k ∧ k ≤ 9223372036854775807) (w : World) (hT : Tab w) :
    Calls Tryd.prog 6 #[.agg #[.bool m, .int .u64 v], .int .i64 k, .string s] w fun e w' => e = .returned (.bool true) ∧ Below w.heap.size w w' := by
  by_cases hs : s.size ≤ 20
  · rcases mod_three k with h | h | h
    · exact floats_some m v k s hv hs w hT 0 46 (by decide) rfl (.inl rfl) h
    · exact floats_some m v k s hv hs w hT 1 101 (by decide) rfl (.inr (.inl rfl)) h
    · exact floats_some m v k s hv hs w hT 2 69 (by decide) rfl (.inr (.inr rfl)) h
  · exact floats_long m v k s hs w hT
end Go.Proofs.YtkaionchipljgaaDoor
