/-
  WALK of chapter 3s law QueuePlays: it returns true, and nothing that was there has turned.
-/
import Derived.Test.YtckjbheabbpddaaLawsD
namespace Go.Proofs.Ytckjbheabbpddaa
open Go.RowKit
open Go.Lib
def OpsAt (w : World) (B : Nat) (A : Option Addr) (n : Nat) (K N : Nat → Int) (S : Nat → ByteArray) : Prop :=
  0 < n → ∃ b off, A = some ⟨b, off, none⟩ ∧ b < B ∧ ∀ i, i < n → w.cell? ⟨b, off + i * 3, none⟩ = some (.int .i64 (K i)) ∧ w.cell? ⟨b, off + i * 3 + 1, none⟩ = some (.int .i64 (N i)) ∧ w.cell? ⟨b, off + i * 3 + 2, none⟩ = some (.string (S i))
theorem h_new (B : Nat) (w : World) (hB : B ≤ w.heap.size) : HIs B (w.alloc (.cells #[.slice none 0 0] 29)) w.heap.size [] :=
  ⟨.slice none 0 0, heap_alloc_new w _, Win.nil_ _ _ _, hB, by simp [Value.owner]⟩
theorem HIs.kept {B : Nat} {w w' : World} {c : Nat} {l : List ByteArray} (h : HIs B w c l) (hb : Below w.heap.size w w') : HIs B w' c l := by
  obtain ⟨v, hv, hW, h3, h4⟩ := h
  exact ⟨v, (hb.block c (Array.getElem?_eq_some_iff.1 hv).1).trans hv, hW.keep fun k hk => hb.block k (hW.lt k hk), h3, h4⟩
/-- The round's invariant: the queue and the list agree. -/
def Agree (B : Nat) (w : World) (p c : Nat) (l : List ByteArray) : Prop := QIs B w p (flat l) (l.map ByteArray.size) ∧ HIs B w c l ∧ ∀ x ∈ l, 0 < x.size
theorem Agree.kept {B : Nat} {w w' : World} {p c : Nat} {l : List ByteArray} (h : Agree B w p c l) (hb : Below w.heap.size w w') : Agree B w' p c l := ⟨h.1.kept hb, h.2.1.kept hb, h.2.2⟩
/-- What the check at a round's end asks. -/
theorem Agree.tail {B : Nat} {w : World} {p c : Nat} {l : List ByteArray} (h : Agree B w p c l) (hl : (flat l).length ≤ 100000) :
    ∃ (Y : ByteArray) (a : Option Addr) (cap : Nat), Y.size ≤ 100000 ∧ l.length ≤ 100000 ∧ w.cell? ⟨c, 0, none⟩ = some (.slice a l.length cap) ∧
      (∀ q, Calls Try.prog 15 #[.pointer (some ⟨p, 0, none⟩)] (w.drewN q) fun e w' => e = .returned (.string Y) ∧ w' = w.drewN q) ∧
      (∀ q, Calls Try.prog 9 #[.pointer (some ⟨c, 0, none⟩)] (w.drewN q) fun e w' => e = .returned (.string Y) ∧ w' = w.drewN q) ∧
      (∀ q, Calls Try.prog 16 #[.pointer (some ⟨p, 0, none⟩)] (w.drewN q) fun e w' => e = .returned (.int .i64 (Y.size : Nat)) ∧ w' = w.drewN q) ∧
      (∀ q, Calls Try.prog 17 #[.pointer (some ⟨p, 0, none⟩)] (w.drewN q) fun e w' => e = .returned (.int .i64 (l.length : Nat)) ∧ w' = w.drewN q) := by
  obtain ⟨hq, hh, hp⟩ := h
  have hn := flat_len_le hp
  have hh' := hh
  obtain ⟨v, hv, hW, _, _⟩ := hh'
  obtain ⟨a, cap, rfl, _, _⟩ := hW.slice_form
  have hY : (⟨(flat l).toArray⟩ : ByteArray).size = (flat l).length := by simp [ByteArray.size]
  refine ⟨⟨(flat l).toArray⟩, a, cap, by omega, by omega, by simp [World.cell?, hv], fun q => ?_, fun q => ?_, fun q => ?_, fun q => ?_⟩
  · exact (q_all (hq.drewN q)).mono fun e w' ⟨he, hw⟩ => ⟨he, hw.symm⟩
  · exact (all_has (B := B) (w := w.drewN q) hh hl (by omega)).mono fun e w' ⟨he, hw⟩ => ⟨he, hw.symm⟩
  · rw [hY]
    exact (q_len (hq.drewN q)).mono fun e w' ⟨he, hw⟩ => ⟨he, hw.symm⟩
  · refine (q_chunks (hq.drewN q)).mono fun e w' ⟨he, hw⟩ => ⟨?_, hw.symm⟩
    rw [he, List.length_map]
/-- All that is new since w0, told of a slice and a world. -/
def Fresh (w0 w : World) (v : Value) : Prop := Below w0.heap.size w0 w ∧ ∀ k ∈ Value.owner v, w0.heap.size ≤ k
theorem first_a {v2 w5 : World} {c ob : Nat} {v v5 : Value} {O : Array Value} {l : List ByteArray} (hv : v2.heap[c]? = some (.cells #[v] 29 (0, 0))) (ho : v2.heap[ob]? = some (.cells O 33 (0, 0))) (_hW : Win v2 9 1 v l.length (sCells l))
    (hW5 : Win w5 9 1 v5 (0 + l.length) ([] ++ sCells l)) (hG : v2.drew.grownBy w5 (Value.slice none 0 0).ownBlock) (hO : v5.ownBlock = (Value.slice none 0 0).ownBlock ∨ v5.ownBlock = some v2.drew.heap.size ∧ v2.drew.heap.size < w5.heap.size) :
    Win w5 9 1 v5 l.length (sCells l) ∧ w5.cell? ⟨ob, 2, none⟩ = O[2]? ∧ w5.cell? ⟨c, 0, none⟩ = some v ∧ Fresh v2 w5 v5 := by
  have hcl : c < v2.heap.size := (Array.getElem?_eq_some_iff.1 hv).1
  have hol : ob < v2.heap.size := (Array.getElem?_eq_some_iff.1 ho).1
  have h1 : w5.heap[ob]? = some (.cells O 33 (0, 0)) := (hG.block ob hol (by simp [Value.ownBlock])).trans ho
  have h2 : w5.heap[c]? = some (.cells #[v] 29 (0, 0)) := (hG.block c hcl (by simp [Value.ownBlock])).trans hv
  refine ⟨by simpa using hW5, by simp [World.cell?, h1], by simp [World.cell?, h2], ((Below.refl _ v2).drew).grown hG (Nat.le_refl _) (by simp [Value.ownBlock]), fun k hk => ?_⟩
  rw [← ob_iff] at hk
  rcases hO with h | ⟨h, _⟩
  · rw [h] at hk; simp [Value.ownBlock] at hk
  · rw [h] at hk; injection hk with hk; exact Nat.le_of_eq hk
theorem first_b {v2 w5 : World} {c : Nat} {v v5 : Value} {str : ByteArray} {l : List ByteArray} (_hv : v2.heap[c]? = some (.cells #[v] 29 (0, 0))) (_hW : Win v2 9 1 v l.length (sCells l))
    (hW5 : Win w5 9 1 v5 (0 + l.length) ([] ++ sCells l)) (hG : (v2.alloc (.cells #[.string str] 9)).drew.grownBy w5 (Value.slice none 0 0).ownBlock)
    (hO : v5.ownBlock = (Value.slice none 0 0).ownBlock ∨ v5.ownBlock = some (v2.alloc (.cells #[.string str] 9)).drew.heap.size ∧ (v2.alloc (.cells #[.string str] 9)).drew.heap.size < w5.heap.size) :
    Win w5 9 1 v5 l.length (sCells l) ∧ Src Try.prog 1 29 (.slice (some ⟨v2.heap.size, 0, none⟩) 1 1) 1 [.string str] w5 ∧ Fresh v2 w5 v5 := by
  have hs : (v2.alloc (.cells #[.string str] 9)).drew.heap.size = v2.heap.size + 1 := by show (v2.alloc _).heap.size = _; simp
  have h1 : w5.heap[v2.heap.size]? = some (.cells #[.string str] 9 (0, 0)) := (hG.block v2.heap.size (by omega) (by simp [Value.ownBlock])).trans (heap_alloc_new v2 _)
  refine ⟨by simpa using hW5, Src.ofSlice w5 Try.underlying29 _ 1 1 _ rfl (fun j u hu => ?_) (by simp [Value.oneCell']), (((Below.refl _ v2).alloc (Nat.le_refl _) _).drew).grown hG (by omega) (by simp [Value.ownBlock]), fun k hk => ?_⟩
  · cases j with
    | zero =>
      simp at hu
      subst hu
      rw [add_flat]
      simp [World.cell?, h1]
    | succ j => simp at hu
  · rw [← ob_iff] at hk
    rcases hO with h | ⟨h, _⟩
    · rw [h] at hk; simp [Value.ownBlock] at hk
    · rw [h] at hk; injection hk with hk; omega
theorem second_a {v2 w5 w7 : World} {c : Nat} {v v5 v7 u : Value} (hv : v2.heap[c]? = some (.cells #[v] 29 (0, 0))) (hF : Fresh v2 w5 v5)
    (hG : (w5.alloc (.cells #[u] 9)).grownBy w7 v5.ownBlock) (hO : v7.ownBlock = v5.ownBlock ∨ v7.ownBlock = some (w5.alloc (.cells #[u] 9)).heap.size ∧ (w5.alloc (.cells #[u] 9)).heap.size < w7.heap.size) :
    w7.cell? ⟨c, 0, none⟩ = some v ∧ w7.frozen? ⟨c, 0, none⟩ = false ∧ Fresh v2 w7 v7 := by
  have hcl : c < v2.heap.size := (Array.getElem?_eq_some_iff.1 hv).1
  have hs : (w5.alloc (.cells #[u] 9)).heap.size = w5.heap.size + 1 := by simp
  have hsz := hF.1.size
  have hb : Below v2.heap.size v2 w7 := (hF.1.alloc hsz _).grown hG (by omega) (fun k hk => hF.2 k ((ob_iff _ _).1 hk))
  have h2 : w7.heap[c]? = some (.cells #[v] 29 (0, 0)) := (hb.block c hcl).trans hv
  refine ⟨by simp [World.cell?, h2], by simp [World.frozen?, h2], hb, fun k hk => ?_⟩
  rw [← ob_iff] at hk
  rcases hO with h | ⟨h, _⟩
  · rw [h] at hk; exact hF.2 k ((ob_iff _ _).1 hk)
  · rw [h] at hk; injection hk with hk; omega
theorem second_b {v2 w5 w7 : World} {c : Nat} {v v5 v7 : Value} (hv : v2.heap[c]? = some (.cells #[v] 29 (0, 0))) (hF : Fresh v2 w5 v5)
    (hG : w5.grownBy w7 v5.ownBlock) (hO : v7.ownBlock = v5.ownBlock ∨ v7.ownBlock = some w5.heap.size ∧ w5.heap.size < w7.heap.size) :
    w7.cell? ⟨c, 0, none⟩ = some v ∧ w7.frozen? ⟨c, 0, none⟩ = false ∧ Fresh v2 w7 v7 := by
  have hcl : c < v2.heap.size := (Array.getElem?_eq_some_iff.1 hv).1
  have hsz := hF.1.size
  have hb : Below v2.heap.size v2 w7 := hF.1.grown hG (by omega) (fun k hk => hF.2 k ((ob_iff _ _).1 hk))
  have h2 : w7.heap[c]? = some (.cells #[v] 29 (0, 0)) := (hb.block c hcl).trans hv
  refine ⟨by simp [World.cell?, h2], by simp [World.frozen?, h2], hb, fun k hk => ?_⟩
  rw [← ob_iff] at hk
  rcases hO with h | ⟨h, _⟩
  · rw [h] at hk; exact hF.2 k ((ob_iff _ _).1 hk)
  · rw [h] at hk; injection hk with hk; omega
def CutInv (v2 ws : World) (vt : Value) (t : List ByteArray) (j k' kk : Nat) (l : List ByteArray) : Prop :=
  Win ws 9 1 vt t.length (sCells t) ∧ (∀ x ∈ Value.owner vt, v2.heap.size ≤ x) ∧ Below v2.heap.size v2 ws ∧ t ++ cutS k' (l.drop j) = cutS kk l ∧ t.length ≤ j
set_option maxHeartbeats 40000000 in
set_option maxRecDepth 100000 in
theorem plays_in (A : Option Addr) (n c0 : Nat) (K N : Nat → Int) (S : Nat → ByteArray) (w : World) (hn : n ≤ 100) (hO : OpsAt w w.heap.size A n K N S) (hS : ∀ i, i < n → (S i).size ≤ 9223372036854775807)
    (hN : ∀ i, i < n → -9223372036854775808 ≤ N i ∧ N i ≤ 9223372036854775807) :
    Calls Try.prog 3 #[.slice A n c0] w fun e w' => e = .returned (.bool true) ∧ Below w.heap.size w w' := by
  obtain ⟨B, hB⟩ : ∃ B, B = w.heap.size := ⟨_, rfl⟩
  rw [← hB] at hO
  have HB := Lib.hid hB
  have HC := Lib.hid (Below.refl B w)
  have HO := Lib.hid hO
  have HS := Lib.hid hS
  have HN := Lib.hid hN
  clear hB hO hS hN
  have hmf : ∀ (fn : Fn) (first cap : Array Value) (w : World), (Instr.makeFunc fn first cap).run Try.prog w = .ok (.func fn first cap) w := fun _ _ _ _ => rfl
  go_enter Try.func3, Try.ntmps3
  go_wp2_with fail
  refine (alive_yes _).mono ?_
  rintro e w1 ⟨rfl, b1⟩
  have HC1 := HC.out.trans (b1.mono (by rw [HB.out]; exact Nat.le_refl _))
  have HZ : B ≤ w1.heap.size := by rw [HB.out]; exact b1.size
  have Q0 := q_new B w1 HZ
  have H0 := h_new B (w1.alloc (.cells #[.slice none 0 0, .slice none 0 0] 28)) (by simp; omega)
  have HA0 : Hid (Agree B ((w1.alloc (.cells #[.slice none 0 0, .slice none 0 0] 28)).alloc (.cells #[.slice none 0 0] 29)) w1.heap.size (w1.heap.size + 1) []) := ⟨Q0.kept ((Below.refl _ _).alloc (Nat.le_refl _) _), by simpa using H0, by simp⟩
  have HC2 := Lib.hid ((HC1.alloc HZ (.cells #[.slice none 0 0, .slice none 0 0] 28)).alloc (by simp; omega) (.cells #[.slice none 0 0] 29))
  obtain ⟨p, hp⟩ : ∃ p, p = w1.heap.size := ⟨_, rfl⟩
  obtain ⟨c, hc⟩ : ∃ c, c = w1.heap.size + 1 := ⟨_, rfl⟩
  rw [← hc, ← hp] at HA0
  have HP := Lib.hid hp
  have HCC := Lib.hid hc
  clear b1 HC HC1 hp hc Q0 H0
  go_wp2
  rw [← HCC.out, ← HP.out]
  go_loopw [8, 9, 10, 11, 12, 13, 15, 16, 34] (fun _ _ _ _ _ _ _ _ i wr => ∃ (k : Nat) (l : List ByteArray), k ≤ n ∧ i = .int .i64 k ∧ Hid (Agree B wr p c l) ∧ (flat l).length ≤ 200 * k ∧ Hid (Below B w wr)) (fun _ _ _ _ _ _ _ _ i _ => n - (RowKit.intOf i).toNat)
  case atStart => exact ⟨0, [], Nat.zero_le _, rfl, HA0, by simp [flat], HC2⟩
  case round =>
    obtain ⟨k, l, hk, rfl, hA, hlen, hw⟩ := hrel
    clear HA0 HC2
    by_cases hlt : k < n
    · obtain ⟨b, off, rfl, hbB, hcells⟩ := HO.out (by omega)
      obtain ⟨c0, c1, c2⟩ := hcells k hlt
      have c0' := (hw.out.cell (p := ⟨b, off + k * 3, none⟩) hbB).trans c0
      have c1' := (hw.out.cell (p := ⟨b, off + k * 3 + 1, none⟩) hbB).trans c1
      have c2' := (hw.out.cell (p := ⟨b, off + k * 3 + 2, none⟩) hbB).trans c2
      have hsS := HS.out k hlt
      have hnN := HN.out k hlt
      generalize K k = kind at *
      generalize N k = num at *
      generalize S k = str at *
      clear c0 c1 c2 hcells
      have hBw : B ≤ wr.heap.size := by have := hw.out.size; have := HB.out; omega
      by_cases h5 : 200 < str.size
      · go_wp2
        go_ret
        refine ⟨rfl, ?_⟩
        rw [← HB.out]
        exact hw.out.alloc hBw _
      · have hA1 : Hid (Agree B (wr.alloc (.cells #[.int .i64 kind, .int .i64 num, .string str] 33)) p c l) := hA.out.kept ((Below.refl _ _).alloc (Nat.le_refl _) _)
        have hw1 := Lib.hid (hw.out.alloc hBw (.cells #[.int .i64 kind, .int .i64 num, .string str] 33))
        have hf : (flat l).length ≤ 20000 := by omega
        have hll := flat_len_le hA.out.2.2
        obtain ⟨X, hX⟩ : ∃ X : ByteArray, X = ⟨(flat l).toArray⟩ := ⟨_, rfl⟩
        have hXs : X.size = (flat l).length := by rw [hX]; simp [ByteArray.size]
        have hXl : X.data.toList = flat l := by rw [hX]
        have HX := Lib.hid hX
        have HXS := Lib.hid hXs
        have HXL := Lib.hid hXl
        have hXb : X.size ≤ 20000 := by omega
        obtain ⟨kk, hkk⟩ : ∃ kk : Nat, min (max num 0) (X.size : Int) = (kk : Int) := ⟨(min (max num 0) (X.size : Int)).toNat, by omega⟩
        have HKK := Lib.hid hkk
        have hkl : kk ≤ X.size := by omega
        clear hX hXs hXl hkk hA
        go_wp2_with fail
        refine (all_has hA1.out.2.1 (by omega) (by omega)).mono ?_
        rintro e v1 ⟨rfl, rfl⟩
        rw [← HX.out]
        have hkk := HKK.out
        by_cases k1 : kind = 1
        · subst k1
          obtain ⟨hq, hh, hpos⟩ := hA1.out
          have hO1 : (wr.alloc (.cells #[.int .i64 1, .int .i64 num, .string str] 33)).heap[wr.heap.size]? = some (.cells #[.int .i64 1, .int .i64 num, .string str] 33 (0, 0)) := heap_alloc_new wr _
          have HO1 := Lib.hid hO1
          clear hO1
          go_wp2_with fail
          clear hkk
          refine (t_add hq str (by omega)).mono ?_
          rintro e v2 ⟨rfl, hq2, b2, o2⟩
          have hh2 := hh.off o2 (by decide)
          have hw2 := Lib.hid (hw1.out.trans b2)
          have hob := o2 _ _ _ _ HO1.out (by decide)
          have oB : v2.cell? ⟨wr.heap.size, 2, none⟩ = some (.string str) := by simp [World.cell?, hob]
          by_cases hs0 : str.size = 0
          · have he1 : str.toList = [] := toList_nil hs0
            have he2 : str.toList.isEmpty = true := by rw [he1]; rfl
            have hA2 : Hid (Agree B v2 p c l) := ⟨by
              have e1 : str.data.toList = [] := by rw [← ByteArray.toList_eq]; exact he1
              rw [e1, List.append_nil, more, if_pos hs0, List.append_nil] at hq2
              exact hq2, hh2, hpos⟩
            clear hA1 hw1 b2 o2 hq hh hq2 hh2 hob
            go_wp2_with fail
            obtain ⟨Y, a9, cap9, hYs, hl9, hc9, D15, D9, D16, D17⟩ := hA2.out.tail (by omega)
            have D15' := Lib.hid D15
            have D9' := Lib.hid D9
            have D16' := Lib.hid D16
            have D17' := Lib.hid D17
            have hE1 : (Y.toList == Y.toList) = true := by simp
            have hE2 : (Y.toList != Y.toList) = false := by simp
            clear D15 D9 D16 D17
            go_quiet ((first | (go_at_call 15; exact Calls.quiet_of_same (D15'.out _)) | (go_at_call 9; exact Calls.quiet_of_same (D9'.out _)) | (go_at_call 16; exact Calls.quiet_of_same (D16'.out _)) | (go_at_call 17; exact Calls.quiet_of_same (D17'.out _))))
            clear hE1 hE2 hc9
            go_wp2
            go_roundw
            case rel => exact ⟨k + 1, l, by omega, by go_num, hA2, by omega, below_drewN hw2.out _⟩
            case measure => simp [RowKit.intOf]; omega
          · have he1 : ¬ str.toList = [] := fun e => hs0 (size_nil e)
            have he2 : str.toList.isEmpty = false := by rw [List.isEmpty_eq_false_iff]; exact he1
            have hh2' := hh2
            obtain ⟨v, hv, hW, _, _⟩ := hh2'
            obtain ⟨a, cap, rfl, _, _⟩ := hW.slice_form
            have hcl : c < v2.heap.size := (Array.getElem?_eq_some_iff.1 hv).1
            have hol : wr.heap.size < v2.heap.size := (Array.getElem?_eq_some_iff.1 hob).1
            have hc2 : v2.cell? ⟨c, 0, none⟩ = some (.slice a l.length cap) := by simp [World.cell?, hv]
            have hc3 : (v2.alloc (Obj.cells #[Value.string str] 9)).cell? ⟨c, 0, none⟩ = some (.slice a l.length cap) := by rw [World.cell?_alloc_lt _ _ _ hcl]; exact hc2
            have HQ2 : Hid (QIs B v2 p (flat (l ++ [str])) ((l ++ [str]).map ByteArray.size)) := by
              rw [flat_append, List.map_append]
              rw [more, if_neg hs0] at hq2
              have h3 : flat [str] = str.data.toList := by simp [flat]
              rw [h3]
              exact hq2
            have hfl : (flat (l ++ [str])).length ≤ (flat l).length + 200 := by
              rw [flat_append, List.length_append]
              simp [flat]
              omega
            have hpp : ∀ x ∈ l ++ [str], 0 < x.size := by
              intro x hx
              simp at hx
              rcases hx with hx | rfl
              · exact hpos x hx
              · omega
            have HPP := Lib.hid hpp
            have HV := Lib.hid hv
            have HW := Lib.hid hW
            have HH2 := Lib.hid hh2
            have HOB := Lib.hid hob
            have hl20 : l.length ≤ 20000 := by omega
            clear hA1 hw1 b2 o2 hq hh hv hW hq2 hh2 hob hpp hpos
            go_wp2
            go_region_law (first
              | (refine step_append_win rfl (.const (.slice none 0 0)) (.tmp 61) 29 rfl Try.underlying29 infos rfl rfl (Win.nil_ _ _ _) _ rfl l.length _ (Win.src (Win.drew HW.out) Try.underlying29 (sCells_one _)) (by unfold maxLen; omega) (by omega) ?_; intro v5 w5 hW5 hG5 hO5; obtain ⟨hW6, f1, f2, f3⟩ := first_a HV.out HOB.out HW.out hW5.out hG5.out hO5.out; obtain ⟨a5, c5, rfl, _, _⟩ := hW6.slice_form; have HW6 := Lib.hid hW6; have HF := Lib.hid f3; clear hW6 f3)
              | (refine step_append_win rfl (.const (.slice none 0 0)) (.tmp 61) 29 rfl Try.underlying29 infos rfl rfl (Win.nil_ _ _ _) _ rfl l.length _ (Win.src (Win.drew (Win.alloc HW.out _)) Try.underlying29 (sCells_one _)) (by unfold maxLen; omega) (by omega) ?_; intro v5 w5 hW5 hG5 hO5; obtain ⟨hW6, hS6, f3⟩ := first_b HV.out HW.out hW5.out hG5.out hO5.out; obtain ⟨a5, c5, rfl, _, _⟩ := hW6.slice_form; have HW6 := Lib.hid hW6; have HS6 := Lib.hid hS6; have HF := Lib.hid f3; clear hW6 hS6 f3)
              | (refine step_append_win rfl (.tmp 62) (.tmp 65) 29 rfl Try.underlying29 infos rfl rfl (Win.alloc HW6.out _) _ rfl 1 [.string str] (src_one _ Try.underlying29 _ _ _ rfl rfl) (by unfold maxLen; omega) (by omega) ?_; intro v7 w7 hW7 hG7 hO7; obtain ⟨g1, g2, g3⟩ := second_a HV.out HF.out hG7.out hO7.out; obtain ⟨a7, c7, rfl, _, _⟩ := hW7.out.slice_form; have G3 := Lib.hid g3; clear g3)
              | (refine step_append_win rfl (.tmp 62) (.tmp 65) 29 rfl Try.underlying29 infos rfl rfl HW6.out _ rfl 1 [.string str] HS6.out (by unfold maxLen; omega) (by omega) ?_; intro v7 w7 hW7 hG7 hO7; obtain ⟨g1, g2, g3⟩ := second_b HV.out HF.out hG7.out hO7.out; obtain ⟨a7, c7, rfl, _, _⟩ := hW7.out.slice_form; have G3 := Lib.hid g3; clear g3))
            all_goals
              obtain ⟨p1, p2, p3⟩ := HH2.out.put (l2 := l ++ [str]) G3.out.1 (by rw [List.length_append]; simpa [sCells] using hW7.out) G3.out.2
              have hA2 : Hid (Agree B (w7.setCell ⟨c, 0, none⟩ (.slice a7 (l.length + 1) c7)) p c (l ++ [str])) := ⟨HQ2.out.off p3 (by decide), p1, HPP.out⟩
              have hw2' := Lib.hid (hw2.out.trans p2)
              clear p1 p2 p3 hw2 hc2 hc3 g1 g2 hW7 G3
              have hw2 := hw2'
              clear hw2'
              go_wp2_with fail
              obtain ⟨Y, a9, cap9, hYs, hl9, hc9, D15, D9, D16, D17⟩ := hA2.out.tail (by omega)
              have D15' := Lib.hid D15
              have D9' := Lib.hid D9
              have D16' := Lib.hid D16
              have D17' := Lib.hid D17
              have hE1 : (Y.toList == Y.toList) = true := by simp
              have hE2 : (Y.toList != Y.toList) = false := by simp
              clear D15 D9 D16 D17
              go_quiet ((first | (go_at_call 15; exact Calls.quiet_of_same (D15'.out _)) | (go_at_call 9; exact Calls.quiet_of_same (D9'.out _)) | (go_at_call 16; exact Calls.quiet_of_same (D16'.out _)) | (go_at_call 17; exact Calls.quiet_of_same (D17'.out _))))
              clear hE1 hE2 hc9
              go_wp2
              go_roundw
              case rel => exact ⟨k + 1, l ++ [str], by omega, by go_num, hA2, by omega, below_drewN hw2.out _⟩
              case measure => simp [RowKit.intOf]; omega
        have k1' : ((kind : Int) == 1) = false := by simpa using k1
        by_cases k2 : kind = 2
        · subst k2
          clear k1
          obtain ⟨hq, hh, hpos⟩ := hA1.out
          have hpl : flat (dropS 1 l) = (flat l).drop 1 := dropS_flat l 1
          have hps := dropS_sizes l 1
          have hpp := dropS_pos l 1 hpos
          have hfl : (flat (dropS 1 l)).length ≤ (flat l).length := by rw [hpl]; simp
          have HFL := Lib.hid hpl
          have HPS := Lib.hid hps
          clear hpl hps hkk
          by_cases hb : flat l = []
          · have hl0 : l = [] := List.eq_nil_of_length_eq_zero (by rw [hb] at hll; simpa using hll)
            subst hl0
            have hX0 : X.toList = [] := by rw [ByteArray.toList_eq, HXL.out, hb]
            have hX1 : X.toList.isEmpty = true := by rw [hX0]; rfl
            have HX0 := Lib.hid hX0
            have HX1 := Lib.hid hX1
            clear hX0 hX1 hb
            go_wp2_with fail
            refine (q_none hq).mono ?_
            rintro e v2 ⟨rfl, rfl⟩
            have hX0 := HX0.out
            have hX1 := HX1.out
            go_wp2_with fail
            clear hX0 hX1
            refine (drop_has hh hpos 1 (by omega) (by omega) (by omega)).mono ?_
            rintro e v2 ⟨rfl, hh2, b2, o2⟩
            have hA2 : Hid (Agree B v2 p c []) := ⟨hq.off o2 (by decide), hh2, by simp⟩
            have hw2 := Lib.hid (hw1.out.trans b2)
            clear hA1 hw1 b2 o2 hq hh hh2
            go_wp2_with fail
            obtain ⟨Y, a9, cap9, hYs, hl9, hc9, D15, D9, D16, D17⟩ := hA2.out.tail (by omega)
            have D15' := Lib.hid D15
            have D9' := Lib.hid D9
            have D16' := Lib.hid D16
            have D17' := Lib.hid D17
            have hE1 : (Y.toList == Y.toList) = true := by simp
            have hE2 : (Y.toList != Y.toList) = false := by simp
            clear D15 D9 D16 D17
            go_quiet ((first | (go_at_call 15; exact Calls.quiet_of_same (D15'.out _)) | (go_at_call 9; exact Calls.quiet_of_same (D9'.out _)) | (go_at_call 16; exact Calls.quiet_of_same (D16'.out _)) | (go_at_call 17; exact Calls.quiet_of_same (D17'.out _))))
            clear hE1 hE2 hc9
            go_wp2
            go_roundw
            case rel => exact ⟨k + 1, [], by omega, by go_num, hA2, by omega, below_drewN hw2.out _⟩
            case measure => simp [RowKit.intOf]; omega
          · have hx0 : 0 < X.size := by
              rw [HXS.out]
              exact List.length_pos_iff.2 hb
            have hX0 : ¬ X.toList = [] := fun e => by have := size_nil e; omega
            have hX1 : X.toList.isEmpty = false := by rw [List.isEmpty_eq_false_iff]; exact hX0
            have hd : flat l = X[0] :: (flat l).drop 1 := by
              have h := List.drop_eq_getElem_cons (l := X.data.toList) (i := 0) (by rw [size_list]; exact hx0)
              rw [List.drop_zero] at h
              rw [← HXL.out]
              exact h
            have hq' := hq
            rw [hd] at hq'
            have HX0 := Lib.hid hX0
            have HX1 := Lib.hid hX1
            clear hX0 hX1 hb hd
            go_wp2_with fail
            refine (t_next hq' (by rw [List.length_drop]; omega)).mono ?_
            rintro e v2 ⟨rfl, hq2, b2, o2⟩
            have hX0 := HX0.out
            have hX1 := HX1.out
            go_wp2_with fail
            clear hX0 hX1
            refine (drop_has (hh.off o2 (by decide)) hpos 1 (by omega) (by omega) (by omega)).mono ?_
            rintro e v3 ⟨rfl, hh3, b3, o3⟩
            have hA2 : Hid (Agree B v3 p c (dropS 1 l)) := ⟨by rw [HFL.out, HPS.out]; exact hq2.off o3 (by decide), hh3, hpp⟩
            have hw2 := Lib.hid ((hw1.out.trans b2).trans b3)
            clear hA1 hw1 b2 o2 b3 o3 hq hq' hq2 hh hh3
            go_wp2_with fail
            obtain ⟨Y, a9, cap9, hYs, hl9, hc9, D15, D9, D16, D17⟩ := hA2.out.tail (by omega)
            have D15' := Lib.hid D15
            have D9' := Lib.hid D9
            have D16' := Lib.hid D16
            have D17' := Lib.hid D17
            have hE1 : (Y.toList == Y.toList) = true := by simp
            have hE2 : (Y.toList != Y.toList) = false := by simp
            clear D15 D9 D16 D17
            go_quiet ((first | (go_at_call 15; exact Calls.quiet_of_same (D15'.out _)) | (go_at_call 9; exact Calls.quiet_of_same (D9'.out _)) | (go_at_call 16; exact Calls.quiet_of_same (D16'.out _)) | (go_at_call 17; exact Calls.quiet_of_same (D17'.out _))))
            clear hE1 hE2 hc9
            go_wp2
            go_roundw
            case rel => exact ⟨k + 1, dropS 1 l, by omega, by go_num, hA2, by omega, below_drewN hw2.out _⟩
            case measure => simp [RowKit.intOf]; omega
        have k2' : ((kind : Int) == 2) = false := by simpa using k2
        by_cases k3 : kind = 3
        · subst k3
          clear k1 k2
          obtain ⟨hq, hh, hpos⟩ := hA1.out
          have hpl : flat (dropS kk l) = (flat l).drop kk := dropS_flat l kk
          have hps := dropS_sizes l kk
          have hpp := dropS_pos l kk hpos
          have hfl : (flat (dropS kk l)).length ≤ (flat l).length := by rw [hpl]; simp
          have HFL := Lib.hid hpl
          have HPS := Lib.hid hps
          obtain ⟨Z, hZ⟩ : ∃ Z, Z = X.extract 0 kk := ⟨_, rfl⟩
          have hZ1 := slice_str_hi X kk hkl
          rw [← hZ] at hZ1
          have hZs : Z.size ≤ 20000 := by rw [hZ]; simp; omega
          have P13 : Hid (∀ W, QIs B W p (flat l) (l.map ByteArray.size) → Calls Try.prog 13 #[.pointer (some ⟨p, 0, none⟩), .int .i64 num] W fun e w' => e = .returned (.string Z) ∧ QIs B w' p ((flat l).drop kk) (dropN kk (l.map ByteArray.size)) ∧ Below B W w' ∧ Off [28, 5, 3] W w') := by
            intro W hW
            have h1 := t_take hW num kk (by rw [← HXS.out]; exact HKK.out) (by omega)
            have h2 : (⟨((flat l).take kk).toArray⟩ : ByteArray) = Z := by
              rw [hZ]
              apply ByteArray.ext
              apply Array.toList_inj.1
              rw [ext_list, List.drop_zero, HXL.out]
            rw [h2] at h1
            exact h1
          have hE3 : (Z.toList == Z.toList) = true := by simp
          have hE4 : (Z.toList != Z.toList) = false := by simp
          clear hpl hps hZ
          go_wp2
          clear hkk
          go_region_with (go_at_call 13; (with_reducible refine (P13.out _ (QIs.drew hq)).mono ?_); rintro e v2 ⟨rfl, hq2, b2, o2⟩)
          clear hE3 hE4
          go_wp2_with fail
          refine (drop_has (hh.off (ts := [28, 5, 3]) o2 (by decide)) hpos kk (by omega) (by omega) (by omega)).mono ?_
          rintro e v3 ⟨rfl, hh3, b3, o3⟩
          have hA2 : Hid (Agree B v3 p c (dropS kk l)) := ⟨by rw [HFL.out, HPS.out]; exact hq2.off o3 (by decide), hh3, hpp⟩
          have hw2 := Lib.hid ((hw1.out.drew.trans b2).trans b3)
          clear hA1 hw1 b2 o2 b3 o3 hq hq2 hh hh3
          go_wp2_with fail
          obtain ⟨Y, a9, cap9, hYs, hl9, hc9, D15, D9, D16, D17⟩ := hA2.out.tail (by omega)
          have D15' := Lib.hid D15
          have D9' := Lib.hid D9
          have D16' := Lib.hid D16
          have D17' := Lib.hid D17
          have hE1 : (Y.toList == Y.toList) = true := by simp
          have hE2 : (Y.toList != Y.toList) = false := by simp
          clear D15 D9 D16 D17
          go_quiet ((first | (go_at_call 15; exact Calls.quiet_of_same (D15'.out _)) | (go_at_call 9; exact Calls.quiet_of_same (D9'.out _)) | (go_at_call 16; exact Calls.quiet_of_same (D16'.out _)) | (go_at_call 17; exact Calls.quiet_of_same (D17'.out _))))
          clear hE1 hE2 hc9
          go_wp2
          go_roundw
          case rel => exact ⟨k + 1, dropS kk l, by omega, by go_num, hA2, by omega, below_drewN hw2.out _⟩
          case measure => simp [RowKit.intOf]; omega
        have k3' : ((kind : Int) == 3) = false := by simpa using k3
        by_cases k4 : kind = 4
        · subst k4
          clear k1 k2 k3
          obtain ⟨hq, hh, hpos⟩ := hA1.out
          have hpl : flat (cutS kk l) = (flat l).take kk := cutS_flat l kk
          have hps : (cutS kk l).map ByteArray.size = cutN ((flat l).length - kk) (l.map ByteArray.size) := by
            have := cutS_sizes l kk (by rw [← flat_length, ← HXS.out]; exact hkl)
            rw [this, flat_length]
          have hpp := cutS_pos l kk hpos
          have hfl : (flat (cutS kk l)).length ≤ (flat l).length := by rw [hpl]; simp; omega
          have HFL := Lib.hid hpl
          have HPS := Lib.hid hps
          have P14 : Hid (∀ W, QIs B W p (flat l) (l.map ByteArray.size) → Calls Try.prog 14 #[.pointer (some ⟨p, 0, none⟩), .int .i64 num] W fun e w' => e = .returned (.int .i64 ((X.size : Int) - kk)) ∧ QIs B w' p ((flat l).take kk) (cutN ((flat l).length - kk) (l.map ByteArray.size)) ∧ Below B W w' ∧ Off [28, 5, 3] W w') := by
            intro W hW
            have h1 := t_cut hW num kk (by rw [← HXS.out]; exact HKK.out) (by omega) hnN.2
            rw [HXS.out]
            exact h1
          clear hpl hps
          go_wp2_with fail
          clear hkk
          refine (P14.out _ hq).mono ?_
          rintro e v2 ⟨rfl, hq2, b2, o2⟩
          have hh2 := hh.off o2 (by decide)
          have hw2 := Lib.hid (hw1.out.trans b2)
          have hh2' := hh2
          obtain ⟨v, hv, hW, _, _⟩ := hh2'
          obtain ⟨a, cap, rfl, _, _⟩ := hW.slice_form
          have hc2 : v2.cell? ⟨c, 0, none⟩ = some (.slice a l.length cap) := by simp [World.cell?, hv]
          have HV := Lib.hid hv
          have HW := Lib.hid hW
          have HQ2 := Lib.hid hq2
          have HH2 := Lib.hid hh2
          have hl20 : l.length ≤ 20000 := by omega
          clear hA1 hw1 b2 o2 hq hh hv hW hq2 hh2
          go_wp2
          clear hc2
          go_loopw [10, 13, 15, 16, 123] (fun kq rest _ _ i ws => ∃ (j k' : Nat) (t : List ByteArray) (ra : Option Addr) (rc : Nat), j ≤ l.length ∧ i = .int .i64 j ∧ kq = .int .i64 k' ∧ k' ≤ 20000 ∧ rest = .slice ra t.length rc ∧ Hid (CutInv v2 ws (.slice ra t.length rc) t j k' kk l)) (fun _ _ _ _ i _ => l.length - (RowKit.intOf i).toNat)
          case atStart => exact ⟨0, kk, [], none, 0, Nat.zero_le _, rfl, rfl, by omega, rfl, Win.nil_ _ _ _, by simp [Value.owner], Below.refl _ _, by simp, by simp⟩
          case round =>
            obtain ⟨j, k', t, ra, rc, hj, rfl, rfl, hk', rfl, hI⟩ := hrel
            obtain ⟨i1, i2, i3, i4, i5⟩ := hI.out
            have hcl : c < v2.heap.size := (Array.getElem?_eq_some_iff.1 HV.out).1
            have hcs : wr.cell? ⟨c, 0, none⟩ = some (.slice a l.length cap) := by
              have : wr.heap[c]? = some (.cells #[.slice a l.length cap] 29 (0, 0)) := (i3.block c hcl).trans HV.out
              simp [World.cell?, this]
            have hfs : wr.frozen? ⟨c, 0, none⟩ = false := by
              have : wr.heap[c]? = some (.cells #[.slice a l.length cap] 29 (0, 0)) := (i3.block c hcl).trans HV.out
              simp [World.frozen?, this]
            have hend : j = l.length ∨ k' = 0 → Hid (Agree B (wr.setCell ⟨c, 0, none⟩ (.slice ra t.length rc)) p c (cutS kk l)) ∧ Hid (Below B w (wr.setCell ⟨c, 0, none⟩ (.slice ra t.length rc))) := by
              intro h
              have ht : t = cutS kk l := by
                rw [← i4]
                rcases h with h | h
                · rw [h, List.drop_length]; simp [cutS]
                · rw [h, cutS_zero, List.append_nil]
              obtain ⟨p1, p2, p3⟩ := HH2.out.put i3 i1 i2
              have hq3 := HQ2.out.off p3 (by decide)
              rw [← HFL.out, ← HPS.out, ← ht] at hq3
              exact ⟨⟨by rw [← ht]; exact hq3, by rw [← ht]; exact p1, hpp⟩, hw2.out.trans p2⟩
            have HEND := Lib.hid hend
            clear hend
            by_cases hjl : j < l.length
            · have hx : l[j]? = some l[j] := List.getElem?_eq_getElem hjl
              obtain ⟨g9, off9, cap9, e1, hcell9⟩ := (HW.out.keep (w' := wr) fun k hk => i3.block k (HW.out.lt k hk)).elem j (.string l[j]) (by simp [sCells, hx])
              injection e1 with e1 _ e2
              subst e1; subst e2
              have hdrop : l.drop j = l[j] :: l.drop (j + 1) := List.drop_eq_getElem_cons hjl
              have hys : l[j].size ≤ 20000 := by
                have h1 := flat_take_le l (j + 1)
                rw [flat_take_succ l j _ hx, List.length_append, size_list] at h1
                omega
              have HD := Lib.hid hdrop
              clear hx hdrop
              generalize l[j] = y at *
              by_cases hk0 : k' = 0
              · subst hk0
                obtain ⟨hA2, hw3⟩ := HEND.out (Or.inr rfl)
                clear hI i1 i2 i3 i4 i5
                have hw2' := hw3
                clear hw3 hw2
                have hw2 := hw2'
                clear hw2'
                go_wp2_with fail
                obtain ⟨Y, a9, cap9, hYs, hl9, hc9, D15, D9, D16, D17⟩ := hA2.out.tail (by omega)
                have D15' := Lib.hid D15
                have D9' := Lib.hid D9
                have D16' := Lib.hid D16
                have D17' := Lib.hid D17
                have hE1 : (Y.toList == Y.toList) = true := by simp
                have hE2 : (Y.toList != Y.toList) = false := by simp
                clear D15 D9 D16 D17
                go_quiet ((first | (go_at_call 15; exact Calls.quiet_of_same (D15'.out _)) | (go_at_call 9; exact Calls.quiet_of_same (D9'.out _)) | (go_at_call 16; exact Calls.quiet_of_same (D16'.out _)) | (go_at_call 17; exact Calls.quiet_of_same (D17'.out _))))
                clear hE1 hE2 hc9
                go_wp2
                go_roundw
                case rel => exact ⟨k + 1, cutS kk l, by omega, by go_num, hA2, by omega, below_drewN hw2.out _⟩
                case measure => simp [RowKit.intOf]; omega
              · obtain ⟨m, hm⟩ : ∃ m, m = min k' y.size := ⟨_, rfl⟩
                have hmin : min (k' : Int) (y.size : Int) = (m : Int) := by omega
                have hmy : m ≤ y.size := by omega
                have hmk : m ≤ k' := by omega
                have hX9 := slice_str_hi y m hmy
                obtain ⟨z, hz⟩ : ∃ z, z = y.extract 0 m := ⟨_, rfl⟩
                rw [← hz] at hX9
                have HM := Lib.hid hm
                have HZ := Lib.hid hz
                have HI1 := Lib.hid i1
                have HI3 := Lib.hid i3
                have HI4 := Lib.hid i4
                have HI2 := Lib.hid i2
                have hk0' : ((k' : Int) == 0) = false := by rw [beq_eq_false_iff_ne]; omega
                clear hm hz i1 i2 i3 i4 hI hcs hfs
                go_wp2_with (at_builtin; refine wpList_append_win rfl _ _ _ rfl Try.underlying29 infos rfl rfl (HI1.out.alloc _) _ rfl 1 [.string z] (src_one _ Try.underlying29 _ _ _ rfl rfl) ?z1 ?z2 ?_)
                case z1 => unfold maxLen; omega
                case z2 => omega
                intro v9 w9 hW9 hG9 hO9
                have HR : Hid (CutInv v2 w9 v9 (t ++ [z]) (j + 1) (k' - m) kk l) := by
                  refine ⟨by rw [List.length_append]; simpa [sCells] using hW9.out, ?_, ?_, ?_, by simp; omega⟩
                  · intro k hk
                    rw [← ob_iff] at hk
                    rcases hO9.out with h | ⟨h, _⟩
                    · rw [h] at hk; exact HI2.out k ((ob_iff _ _).1 hk)
                    · rw [h] at hk
                      injection hk with hk
                      have := HI3.out.size
                      first | omega | (simp at hk; omega)
                  · refine (HI3.out.alloc HI3.out.size _).grown hG9.out (by have := HI3.out.size; simp; omega) (fun k hk => HI2.out k ((ob_iff _ _).1 hk))
                  · have hcs : cutS k' (y :: l.drop (j + 1)) = y.extract 0 (min k' y.size) :: cutS (k' - min k' y.size) (l.drop (j + 1)) := by simp only [cutS, if_neg hk0]
                    rw [← HI4.out, HD.out, List.append_assoc, HZ.out, HM.out, hcs]
                    rfl
                obtain ⟨a9, c9, rfl, _, _⟩ := hW9.out.slice_form
                have hlt9 : (t ++ [z]).length = t.length + 1 := by simp
                clear hW9 hG9 hO9
                go_wp2
                go_roundw
                case rel => exact ⟨j + 1, k' - m, t ++ [z], a9, c9, by omega, by go_num, by congr 1; omega, by omega, by rw [hlt9], by rw [hlt9]; exact HR⟩
                case measure => simp [RowKit.intOf]; omega
            · obtain ⟨hA2, hw3⟩ := HEND.out (Or.inl (by omega))
              clear hI i1 i2 i3 i4 i5
              have hw2' := hw3
              clear hw3 hw2
              have hw2 := hw2'
              clear hw2'
              go_wp2_with fail
              obtain ⟨Y, a9, cap9, hYs, hl9, hc9, D15, D9, D16, D17⟩ := hA2.out.tail (by omega)
              have D15' := Lib.hid D15
              have D9' := Lib.hid D9
              have D16' := Lib.hid D16
              have D17' := Lib.hid D17
              have hE1 : (Y.toList == Y.toList) = true := by simp
              have hE2 : (Y.toList != Y.toList) = false := by simp
              clear D15 D9 D16 D17
              go_quiet ((first | (go_at_call 15; exact Calls.quiet_of_same (D15'.out _)) | (go_at_call 9; exact Calls.quiet_of_same (D9'.out _)) | (go_at_call 16; exact Calls.quiet_of_same (D16'.out _)) | (go_at_call 17; exact Calls.quiet_of_same (D17'.out _))))
              clear hE1 hE2 hc9
              go_wp2
              go_roundw
              case rel => exact ⟨k + 1, cutS kk l, by omega, by go_num, hA2, by omega, below_drewN hw2.out _⟩
              case measure => simp [RowKit.intOf]; omega
        have k4' : ((kind : Int) == 4) = false := by simpa using k4
        clear k1 k2 k3 k4
        have hA2 := hA1
        have hw2 := hw1
        clear hA1 hw1
        go_wp2_with fail
        obtain ⟨Y, a9, cap9, hYs, hl9, hc9, D15, D9, D16, D17⟩ := hA2.out.tail (by omega)
        have D15' := Lib.hid D15
        have D9' := Lib.hid D9
        have D16' := Lib.hid D16
        have D17' := Lib.hid D17
        have hE1 : (Y.toList == Y.toList) = true := by simp
        have hE2 : (Y.toList != Y.toList) = false := by simp
        clear D15 D9 D16 D17
        go_quiet ((first | (go_at_call 15; exact Calls.quiet_of_same (D15'.out _)) | (go_at_call 9; exact Calls.quiet_of_same (D9'.out _)) | (go_at_call 16; exact Calls.quiet_of_same (D16'.out _)) | (go_at_call 17; exact Calls.quiet_of_same (D17'.out _))))
        clear hE1 hE2 hc9
        go_wp2
        go_roundw
        case rel => exact ⟨k + 1, l, by omega, by go_num, hA2, by omega, below_drewN hw2.out _⟩
        case measure => simp [RowKit.intOf]; omega
    · have hw2 := Lib.hid (HB.out ▸ hw.out : Below w.heap.size w wr)
      go_wp2_with fail
      refine (add_nil _ _).mono ?_
      rintro e v2 ⟨rfl, rfl⟩
      go_wp2_with fail
      refine (next_nil _).mono ?_
      rintro e v2 ⟨rfl, rfl⟩
      go_wp2_with fail
      refine (take_nil _ _ (by omega)).mono ?_
      rintro e v2 ⟨rfl, rfl⟩
      go_wp2_with fail
      refine (len_nil _).mono ?_
      rintro e v2 ⟨rfl, rfl⟩
      go_wp2_with fail
      refine (chunks_nil _).mono ?_
      rintro e v2 ⟨rfl, rfl⟩
      go_wp2_with fail
      refine (cut_nil _ _ (by omega)).mono ?_
      rintro e v2 ⟨rfl, rfl⟩
      go_wp2_with fail
      refine (all_nil _).mono ?_
      rintro e v2 ⟨rfl, rfl⟩
      go_wp2
      go_ret
      exact ⟨rfl, hw2.out⟩
set_option maxRecDepth 100000 in
set_option maxHeartbeats 400000 in
theorem plays_out (A : Option Addr) (n c : Nat) (w : World) (hn : 100 < n) (hm : n ≤ 9223372036854775807) :
    Calls Try.prog 3 #[.slice A n c] w fun e w' => e = .returned (.bool true) ∧ Below w.heap.size w w' := by
  go_enter Try.func3, Try.ntmps3
  go_wp2_with fail
  refine (alive_yes _).mono ?_
  rintro e w1 ⟨rfl, hb⟩
  go_wp2
  go_ret
  exact ⟨rfl, hb⟩
theorem plays_any (A : Option Addr) (n c : Nat) (K N : Nat → Int) (S : Nat → ByteArray) (w : World) (hm : n ≤ 9223372036854775807) (hO : OpsAt w w.heap.size A n K N S) (hS : ∀ i, i < n → (S i).size ≤ 9223372036854775807)
    (hN : ∀ i, i < n → -9223372036854775808 ≤ N i ∧ N i ≤ 9223372036854775807) :
    Calls Try.prog 3 #[.slice A n c] w fun e w' => e = .returned (.bool true) ∧ Below w.heap.size w w' := by
  by_cases h : n ≤ 100
  · exact plays_in A n c K N S w h hO hS hN
  · exact plays_out A n c w (by omega) hm
end Go.Proofs.Ytckjbheabbpddaa
