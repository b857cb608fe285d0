/-
  WALK of chapter 3s law QueueParts: it returns true, and nothing that was there has turned.
-/
import Derived.Test.YtckjbheabbpddaaLawsA
namespace Go.Proofs.Ytckjbheabbpddaa
open Go.RowKit
open Go.Lib
theorem QAt.keep {w w' : World} {b : Nat} {F : List Nat} {bs : List UInt8} {ns : List Nat} (h : QAt w b F bs ns) (hk : ∀ k ∈ F, w'.heap[k]? = w.heap[k]?) : QAt w' b F bs ns := by
  obtain ⟨vb, vs, hb, h1, h2, hF, hs, hp⟩ := h
  exact ⟨vb, vs, (hk b (by rw [hF]; simp)).trans hb, h1.keep (fun k h => hk k (by rw [hF]; simp [h])), h2.keep (fun k h => hk k (by rw [hF]; simp [h])), hF, hs, hp⟩
theorem QAt.lt {w : World} {b : Nat} {F : List Nat} {bs : List UInt8} {ns : List Nat} (h : QAt w b F bs ns) : ∀ k ∈ F, k < w.heap.size := by
  obtain ⟨vb, vs, hb, h1, h2, hF, hs, hp⟩ := h
  intro k hk
  rw [hF] at hk
  simp only [List.mem_cons, List.mem_append] at hk
  rcases hk with rfl | hk | hk
  · exact (Array.getElem?_eq_some_iff.1 hb).1
  · exact h1.lt k hk
  · exact h2.lt k hk
theorem QIs.kept {B : Nat} {w w' : World} {b : Nat} {bs : List UInt8} {ns : List Nat} (h : QIs B w b bs ns) (hb : Below w.heap.size w w') : QIs B w' b bs ns := by
  obtain ⟨F, h, hF⟩ := h
  exact ⟨F, h.keep fun k hk => hb.block k (h.lt k hk), hF⟩
/-- Element k of a slice of ints that came in. -/
theorem at_k {w wr : World} {B n k : Nat} {A : Option Addr} {zs : List Int} (h : Reads w B 1 A n (zs.map (Value.int .i64))) (hw : Below B w wr) (hn : k < n) :
    ∃ ad q, A = some ad ∧ wr.cell? (ad.add k) = some (.int .i64 q) := by
  obtain ⟨ad, z, hA, hb1, hz, hcell⟩ := h.at_ (k := k) hn
  have hcell' : wr.cell? (ad.add k) = some z := (hw.cell (by rw [block_of_add]; exact hb1)).trans hcell
  rw [List.getElem?_map] at hz
  cases hy : zs[k]? with
  | none => simp [hy] at hz
  | some q =>
    simp [hy] at hz
    subst hz
    exact ⟨ad, q, hA, hcell'⟩
theorem bits_range (n m : Int) (k : Nat) (hk : k < 2 ^ 63) (hm : m = k) : ∃ a : Nat, a ≤ k ∧ bits .and .i64 n m = (a : Int) := by
  subst hm
  have e1 : (BitVec.ofInt 64 (k : Int)).toNat = k := by rw [BitVec.toNat_ofInt]; omega
  refine ⟨(BitVec.ofInt 64 n &&& BitVec.ofInt 64 k).toNat, ?_, ?_⟩
  · rw [BitVec.toNat_and, e1]
    exact Nat.and_le_right
  · show IntKind.i64.wrap ((BitVec.ofInt 64 n &&& BitVec.ofInt 64 k).toNat : Nat) = _
    have : (BitVec.ofInt 64 n &&& BitVec.ofInt 64 k).toNat ≤ k := by
      rw [BitVec.toNat_and, e1]
      exact Nat.and_le_right
    rw [IntKind.wrap_i64]
    omega
set_option maxHeartbeats 1000000 in
set_option maxRecDepth 100000 in
theorem parts_in (b : ByteArray) (A1 A2 : Option Addr) (n1 c1 n2 c2 : Nat) (z1 z2 : List Int) (w : World) (hb : b.size ≤ 140737488351232)
    (r1 : Reads w w.heap.size 1 A1 n1 (z1.map (Value.int .i64))) (r2 : Reads w w.heap.size 1 A2 n2 (z2.map (Value.int .i64)))
    (hin : b.size ≤ 300 ∧ n1 ≤ 60 ∧ n2 ≤ 60) :
    Calls Try.prog 4 #[.string b, .slice A1 n1 c1, .slice A2 n2 c2] w fun e w' => e = .returned (.bool true) ∧ Below w.heap.size w w' := by
  obtain ⟨i1, i2, i3⟩ := hin
  obtain ⟨B, hB⟩ : ∃ B, B = w.heap.size := ⟨_, rfl⟩
  rw [← hB] at r1 r2
  have HB := Lib.hid hB
  have HC := Lib.hid (Below.refl B w)
  have HR1 := Lib.hid r1
  have HR2 := Lib.hid r2
  clear hB r1 r2
  go_enter Try.func4, Try.ntmps4
  go_wp2_with fail
  refine (alive_yes _).mono ?_
  rintro e w1 ⟨rfl, b1⟩
  have HC1 := HC.out.trans (b1.mono (by rw [HB.out]; exact Nat.le_refl _))
  have HZ : B ≤ w1.heap.size := by rw [HB.out]; exact b1.size
  have Q0 := q_new B w1 HZ
  have HC2 := Lib.hid (HC1.alloc HZ (.cells #[.slice none 0 0, .slice none 0 0] 28))
  obtain ⟨p, hp⟩ : ∃ p, p = w1.heap.size := ⟨_, rfl⟩
  rw [← hp] at Q0
  have HP := Lib.hid hp
  clear b1 HC HC1 hp
  go_wp2
  rw [← HP.out]
  go_loopw [8, 10, 11, 40] (fun left _ _ i wr => ∃ (k : Nat) (l : ByteArray) (h : List UInt8) (N : List Nat), k ≤ n1 ∧ i = .int .i64 k ∧ left = .string l ∧ h ++ l.data.toList = b.data.toList ∧ QIs B wr p h N ∧ Hid (Below B w wr)) (fun _ _ _ i _ => n1 - (RowKit.intOf i).toNat)
  case atStart => exact ⟨0, b, [], [], Nat.zero_le _, rfl, rfl, rfl, Q0, HC2⟩
  case round =>
    obtain ⟨k, l, h, N, hk, rfl, rfl, hcat, r, hw⟩ := hrel
    clear Q0 HC2
    have hlen : h.length + l.size = b.size := by have := congrArg List.length hcat; simp at this; omega
    have hl : l.size ≤ 300 := by omega
    have hh : h.length ≤ 300 := by omega
    have HCAT := Lib.hid hcat
    have HLEN := Lib.hid hlen
    clear hcat hlen
    by_cases hlt : k < n1
    · obtain ⟨ad, q, rfl, hcell⟩ := at_k HR1.out hw.out hlt
      obtain ⟨a, ha, ba⟩ := bits_range q 15 15 (by decide) rfl
      obtain ⟨m, hm⟩ : ∃ m, m = min a l.size := ⟨_, rfl⟩
      have em : min (a : Int) (l.size : Int) = (m : Int) := by omega
      have hml : m ≤ l.size := by omega
      have hX1 := slice_str_hi l m hml
      have hX2 : ∀ W, (Instr.slice 9 (.string l) (some (.int .i64 (m : Int))) none none).run Try.prog W = .ok (.string (l.extract m l.size)) W := fun W => by
        rw [run_slice_string_l W 9 l Try.underlying9 .i64 _ (by omega) (by omega)]
        simp
      obtain ⟨X1, hX1e⟩ : ∃ y, y = l.extract 0 m := ⟨_, rfl⟩
      obtain ⟨X2, hX2e⟩ : ∃ y, y = l.extract m l.size := ⟨_, rfl⟩
      have hparts : X1.data.toList ++ X2.data.toList = l.data.toList := by
        rw [hX1e, hX2e, ext_list, ext_list, List.drop_zero, List.take_of_length_le (i := l.size) (by simp), List.take_append_drop]
      have hX1s : X1.size ≤ 300 := by rw [hX1e]; simp; omega
      rw [← hX1e] at hX1
      simp only [← hX2e] at hX2
      have HPT := Lib.hid hparts
      have BA := Lib.hid ba
      have EM := Lib.hid em
      clear hX1e hX2e hparts ba em hm
      have ba := BA.out
      have em := EM.out
      go_wp2_with fail
      clear ba em
      refine (q_add r X1 (by omega)).mono ?_
      rintro e w3 ⟨rfl, r3, b3⟩
      have hw3 := Lib.hid (hw.out.trans b3)
      clear b3 r
      go_wp2
      go_roundw
      case rel => exact ⟨k + 1, X2, _, _, by omega, by go_num, rfl, by rw [List.append_assoc, HPT.out, HCAT.out], r3, hw3⟩
      case measure => simp [RowKit.intOf]; omega
    · obtain rfl : k = n1 := by omega
      go_wp2_with fail
      refine (q_add r l (by omega)).mono ?_
      rintro e w3 ⟨rfl, r3, b3⟩
      rw [HCAT.out] at r3
      have hw3 := Lib.hid (hw.out.trans b3)
      clear b3 r hw
      generalize N ++ more l = N3 at r3
      go_wp2
      go_loopw [12, 14, 15, 16, 63] (fun got _ _ _ i wr => ∃ (j : Nat) (x : ByteArray) (h : List UInt8) (N : List Nat), j ≤ n2 ∧ i = .int .i64 j ∧ got = .string x ∧ x.data.toList ++ h = b.data.toList ∧ QIs B wr p h N ∧ Hid (Below B w wr)) (fun _ _ _ _ i _ => n2 - (RowKit.intOf i).toNat)
      case atStart => exact ⟨0, ⟨#[]⟩, _, _, Nat.zero_le _, rfl, rfl, by simp, r3, hw3⟩
      case round =>
        obtain ⟨j, x, h2, N2, hj, rfl, rfl, hcat, r, hw⟩ := hrel
        clear r3 hw3
        have hlen : x.size + h2.length = b.size := by have := congrArg List.length hcat; simp at this; omega
        have hl2 : x.size ≤ 300 := by omega
        have hh2 : h2.length ≤ 300 := by omega
        have HCAT2 := Lib.hid hcat
        have HLEN2 := Lib.hid hlen
        clear hcat hlen
        by_cases hlt : j < n2
        · obtain ⟨ad, q, rfl, hcell⟩ := at_k HR2.out hw.out hlt
          by_cases h1 : bits .and .i64 q 1 = 0
          · obtain ⟨a, ha, ba⟩ := bits_range (q / 2) 15 15 (by decide) rfl
            obtain ⟨v, hv⟩ : ∃ v : Nat, min (max (a : Int) 0) (h2.length : Int) = (v : Int) := ⟨min a h2.length, by omega⟩
            have hj2 := join_take h2 v
            obtain ⟨Y, hY⟩ : ∃ Y : ByteArray, Y = ⟨(h2.take v).toArray⟩ := ⟨_, rfl⟩
            have hYl : Y.data.toList = h2.take v := by rw [hY]
            have hYs : Y.size ≤ 300 := by
              have := size_list Y
              rw [hYl, List.length_take] at this
              omega
            have HV := Lib.hid hv
            have HYL := Lib.hid hYl
            have HY := Lib.hid hY
            have BA := Lib.hid ba
            clear hv hj2 hY hYl ba
            have ba := BA.out
            go_wp2_with fail
            clear ba h1
            refine (q_take r a v HV.out (by omega)).mono ?_
            rintro e w4 ⟨rfl, r4, b4⟩
            rw [← HY.out]
            have hw4 := Lib.hid (hw.out.trans b4)
            clear b4 r
            go_wp2
            go_roundw
            case rel => exact ⟨j + 1, x ++ Y, _, _, by omega, by go_num, rfl, by rw [ByteArray.data_append, Array.toList_append, HYL.out, List.append_assoc, List.take_append_drop, HCAT2.out], r4, hw4⟩
            case measure => simp [RowKit.intOf]; omega
          · have h1' : (bits .and .i64 q 1 == 0) = false := by simpa using h1
            cases h2 with
            | nil =>
              go_wp2_with fail
              refine (q_none r).mono ?_
              rintro e w4 ⟨rfl, rfl⟩
              go_wp2
              go_roundw
              case rel => exact ⟨j + 1, x, [], _, by omega, by go_num, rfl, HCAT2.out, r, hw⟩
              case measure => simp [RowKit.intOf]; omega
            | cons y h3 =>
              simp only [List.length_cons] at hh2
              have hC1 : ∀ W : World, (convert 25 9 (.slice (some ⟨W.heap.size, 0, none⟩) 1 1)).run Try.prog (W.alloc (.cells #[.int .u8 (y.toNat : Int)] 5)) = .ok (.string ⟨#[y]⟩) (W.alloc (.cells #[.int .u8 (y.toNat : Int)] 5)) := fun W =>
                conv_row (l := [y]) (heap_alloc_new W _) 0 1 1 (by simp)
              go_wp2_with fail
              refine (q_next r (by omega)).mono ?_
              rintro e w4 ⟨rfl, r4, b4⟩
              have hw4 := Lib.hid (hw.out.trans b4)
              clear b4 r
              have hs1 : (⟨#[y]⟩ : ByteArray).size = 1 := rfl
              go_wp2
              go_roundw
              case rel => exact ⟨j + 1, x ++ ⟨#[y]⟩, h3, _, by omega, by go_num, rfl, by rw [ByteArray.data_append, Array.toList_append, List.append_assoc]; exact HCAT2.out, r4.kept ((Below.refl _ _).alloc (Nat.le_refl _) _), hw4.out.alloc r4.lt _⟩
              case measure => simp [RowKit.intOf]; omega
        · obtain rfl : j = n2 := by omega
          obtain ⟨Y, hY⟩ : ∃ Y : ByteArray, Y = ⟨h2.toArray⟩ := ⟨_, rfl⟩
          have hYs : Y.size ≤ 300 := by rw [hY]; simpa [ByteArray.size] using hh2
          have hxy : x ++ Y = b := by
            apply ByteArray.ext
            apply Array.toList_inj.1
            rw [ByteArray.data_append, Array.toList_append, hY]
            exact HCAT2.out
          have hxl : (x ++ Y).toList = b.toList := by rw [hxy]
          have hlen : ((h2.length : Nat) : Int) = (b.size : Int) - x.size := by have := HLEN2.out; omega
          have HY := Lib.hid hY
          have HLN := Lib.hid hlen
          have HXL := Lib.hid hxl
          clear hY hxy hlen hxl
          go_wp2_with fail
          refine (q_all r).mono ?_
          rintro e w4 ⟨rfl, rfl⟩
          rw [← HY.out]
          have hxl := HXL.out
          go_wp2_with fail
          clear hxl
          refine (q_len r).mono ?_
          rintro e w4 ⟨rfl, rfl⟩
          rw [HLN.out]
          go_wp2
          go_ret
          refine ⟨rfl, ?_⟩
          rw [← HB.out]
          exact hw.out
set_option maxHeartbeats 1000000 in
set_option maxRecDepth 100000 in
theorem parts_out (b : ByteArray) (A1 A2 : Option Addr) (n1 c1 n2 c2 : Nat) (w : World) (hb : b.size ≤ 140737488351232) (h1 : n1 * 8 ≤ 140737488351232) (h2 : n2 * 8 ≤ 140737488351232) (hin : ¬ (b.size ≤ 300 ∧ n1 ≤ 60 ∧ n2 ≤ 60)) :
    Calls Try.prog 4 #[.string b, .slice A1 n1 c1, .slice A2 n2 c2] w fun e w' => e = .returned (.bool true) ∧ Below w.heap.size w w' := by
  by_cases g1 : 300 < b.size
  · clear hin
    go_enter Try.func4, Try.ntmps4
    go_wp2_with fail
    refine (alive_yes _).mono ?_
    rintro e w1 ⟨rfl, hb⟩
    go_wp2
    go_ret
    exact ⟨rfl, hb⟩
  by_cases g2 : 60 < n1
  · clear hin
    go_enter Try.func4, Try.ntmps4
    go_wp2_with fail
    refine (alive_yes _).mono ?_
    rintro e w1 ⟨rfl, hb⟩
    go_wp2
    go_ret
    exact ⟨rfl, hb⟩
  have g3 : 60 < n2 := by omega
  clear hin
  go_enter Try.func4, Try.ntmps4
  go_wp2_with fail
  refine (alive_yes _).mono ?_
  rintro e w1 ⟨rfl, hb⟩
  go_wp2
  go_ret
  exact ⟨rfl, hb⟩
theorem parts_any (b : ByteArray) (A1 A2 : Option Addr) (n1 c1 n2 c2 : Nat) (z1 z2 : List Int) (w : World) (hb : b.size ≤ 140737488351232) (h1 : n1 * 8 ≤ 140737488351232) (h2 : n2 * 8 ≤ 140737488351232)
    (r1 : Reads w w.heap.size 1 A1 n1 (z1.map (Value.int .i64))) (r2 : Reads w w.heap.size 1 A2 n2 (z2.map (Value.int .i64))) :
    Calls Try.prog 4 #[.string b, .slice A1 n1 c1, .slice A2 n2 c2] w fun e w' => e = .returned (.bool true) ∧ Below w.heap.size w w' := by
  by_cases hin : b.size ≤ 300 ∧ n1 ≤ 60 ∧ n2 ≤ 60
  · exact parts_in b A1 A2 n1 c1 n2 c2 z1 z2 w hb r1 r2 hin
  · exact parts_out b A1 A2 n1 c1 n2 c2 w hb h1 h2 hin
end Go.Proofs.Ytckjbheabbpddaa
