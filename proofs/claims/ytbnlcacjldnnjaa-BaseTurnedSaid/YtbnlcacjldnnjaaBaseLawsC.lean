/-
  LAWS of chapter 8: BaseTurned.
-/
import Derived.Test.YtbnlcacjldnnjaaBaseLawsB
namespace Go.Proofs.Ytbnlcacjldnnjaa
open Go.RowKit
open Go.Lib
theorem wrap64_of {x : Int} (h : -9223372036854775808 ≤ x ∧ x ≤ 9223372036854775807) : wrap64 x = x := by
  first | (rw [wrap64]; omega) | (unfold wrap64; omega) | (simp only [wrap64, IntKind.wrap_i64]; omega)
/-- '(at%n + n) % n' -/
theorem rem_place (a : Int) (n : Nat) (hn : 0 < n) (hm : n ≤ 1000000) : ∃ k : Nat, k < n ∧ ((wrap64 (a.tmod n + n)).tmod n) = (k : Int) := by
  have h1 := Int.tmod_lt_of_pos a (show (0 : Int) < n by omega)
  have h2 : -(n : Int) < a.tmod n := by
    have := Int.lt_tmod_of_pos a (show (0 : Int) < n by omega)
    exact this
  have hw : wrap64 (a.tmod n + n) = a.tmod n + n := wrap64_of (by omega)
  rw [hw]
  have h3 : 0 ≤ a.tmod n + n := by omega
  have h4 := Int.tmod_nonneg (n : Int) h3
  have h5 := Int.tmod_lt_of_pos (a.tmod n + n) (show (0 : Int) < n by omega)
  exact ⟨((a.tmod n + n).tmod n).toNat, by omega, by omega⟩
theorem heap_last (w : World) (x : Obj) : (w.alloc x).heap[w.heap.size]? = some x := by
  show (w.heap.push _)[_]? = _
  rw [Array.getElem?_push, if_pos rfl]
theorem conv_drew (x : UInt8) (c : Int) (hc : c = ((x.toNat : Nat) : Int)) (z : ByteArray) (hz : z = ⟨[x].toArray⟩) : ∀ W : World, (convert 30 9 (.slice (some ⟨W.heap.size, 0, none⟩) 1 1)).run Try.prog (W.alloc (.cells #[.int .u8 c] 5)).drew = .ok (.string z) (W.alloc (.cells #[.int .u8 c] 5)).drew := by
  subst hc hz
  exact fun W => conv_row (w := (W.alloc (.cells #[.int .u8 (x.toNat : Int)] 5)).drew) (g := W.heap.size) (l := [x]) (heap_last W _) 0 1 1 (by simp)
theorem pad_none (l : List UInt8) : getS (l ++ [61]) = none := getS_other _ 61 (by simp) (by decide)
/-- Signs with another byte at one place: other bytes, or none. -/
theorem turned_ne (b s : List UInt8) (k : Nat) (hk : k < (putS b).length) (c : UInt8) (hc : (putS b)[k] ≠ c) (hs : s = (putS b).take k ++ [c] ++ (putS b).drop (k + 1)) : s ≠ putS b := by
  rintro h
  have h1 : s[k]? = some c := by
    have hl : ((putS b).take k).length = k := by rw [List.length_take]; omega
    rw [hs, List.append_assoc, List.getElem?_append_right (by omega), hl]
    simp
  rw [h, List.getElem?_eq_getElem hk] at h1
  injection h1 with h1
  exact hc h1
set_option maxRecDepth 100000 in
set_option maxHeartbeats 4000000 in
theorem turned_any (x : ByteArray) (a : Int) (z : Int) (w : World) (hz0 : 0 ≤ z ∧ z ≤ 255) :
    Calls Try.prog 6 #[.string x, .int .i64 a, .int .u8 z] w fun e w' => e = .returned (.bool true) ∧ Below w.heap.size w w' := by
  have hz : 0 ≤ z ∧ z < 256 := ⟨hz0.1, by omega⟩
  clear hz0
  have HA := Lib.hid alive_any
  by_cases hx0 : x.size < 1
  · have h1 : ((x.size : Int) < 1) = True := by apply eq_true; omega
    clear hx0
    go_enter Try.func6, Try.ntmps6
    go_wp2_with fail
    refine (HA.out _).mono ?_
    rintro e w1 ⟨rfl, b1⟩
    go_wp2
    go_ret
    exact ⟨rfl, b1⟩
  have h0 : ((x.size : Int) < 1) = False := by apply eq_false; omega
  by_cases hx : 200 < x.size
  · have h1 : ((200 : Int) < (x.size : Int)) = True := by apply eq_true; omega
    clear hx hx0
    go_enter Try.func6, Try.ntmps6
    go_wp2_with fail
    refine (HA.out _).mono ?_
    rintro e w1 ⟨rfl, b1⟩
    go_wp2
    go_ret
    exact ⟨rfl, b1⟩
  have h1 : ((200 : Int) < (x.size : Int)) = False := by apply eq_false; omega
  have HP := Lib.hid (fun W => put_any x W (by omega))
  obtain ⟨c, hc⟩ : ∃ c : UInt8, z = ((c.toNat : Nat) : Int) := ⟨UInt8.ofNat z.toNat, by rw [u8_nat _ (by omega)]; omega⟩
  obtain ⟨p, hp⟩ : ∃ p : ByteArray, p = ⟨(putS x.data.toList).toArray⟩ := ⟨_, rfl⟩
  have hpl : p.data.toList = putS x.data.toList := by rw [hp]
  have hps : p.size = (4 * x.size + 2) / 3 := by rw [hp, size_of, putS_length, size_list]
  have hp2 : 2 ≤ p.size ∧ p.size ≤ 300 := by omega
  rw [← hp] at HP
  obtain ⟨k, hk, hkr⟩ := rem_place a p.size (by omega) (by omega)
  have hpt : (p.toList == (⟨#[]⟩ : ByteArray).toList) = false := by
    apply beq_false_of_ne
    intro h
    have : p.data.toList = [] := by simpa [ByteArray.toList_eq] using h
    rw [← size_list, this] at hp2
    simp at hp2
  have hpe : (p.toList = []) = False := by
    apply eq_false
    intro h
    have : p.data.toList = [] := by simpa [ByteArray.toList_eq] using h
    rw [← size_list, this] at hp2
    simp at hp2
  have hpi : p.toList.isEmpty = false := by
    rw [List.isEmpty_eq_false_iff]
    intro h
    exact (hpe ▸ h : False)
  obtain ⟨d, hd⟩ : ∃ d : UInt8, d = p[k]'hk := ⟨_, rfl⟩
  have hix : ∀ W : World, (Instr.index 9 (.string p) (.int .i64 (k : Int))).run Try.prog W = .ok (.int .u8 ((d.toNat : Nat) : Int)) W := by
    rw [hd]
    exact index_str p k hk
  have hps0 : ((p.size : Int) = 0) = False := by apply eq_false; omega
  by_cases hcd : d = c
  · have heq : (((d.toNat : Nat) : Int) == z) = true := by rw [beq_iff_eq, hc, hcd]
    clear hx0 hx hc hp hpl hps hd hcd
    go_enter Try.func6, Try.ntmps6
    go_wp2_with fail
    refine (HA.out _).mono ?_
    rintro e w1 ⟨rfl, b1⟩
    have B1 := Lib.hid b1
    clear b1
    go_wp2_with fail
    refine (HP.out _).mono ?_
    rintro e w2 ⟨rfl, b2⟩
    have B2 := Lib.hid (B1.out.trans (b2.mono B1.out.size))
    clear b2
    go_wp2
    go_ret
    exact ⟨rfl, B2.out⟩
  · have heq : (((d.toNat : Nat) : Int) == z) = false := by
      apply beq_false_of_ne
      intro h
      exact hcd (UInt8.toNat_inj.1 (by omega))
    obtain ⟨P, hP⟩ : ∃ P : ByteArray, P = p.extract 0 k := ⟨_, rfl⟩
    obtain ⟨Z, hZ⟩ : ∃ Z : ByteArray, Z = ⟨[c].toArray⟩ := ⟨_, rfl⟩
    obtain ⟨E, hE⟩ : ∃ E : ByteArray, E = p.extract (k + 1) p.size := ⟨_, rfl⟩
    obtain ⟨A, hA⟩ : ∃ A : ByteArray, P ++ Z = A := ⟨_, rfl⟩
    obtain ⟨G, hG⟩ : ∃ G : ByteArray, A ++ E = G := ⟨_, rfl⟩
    obtain ⟨J, hJ⟩ : ∃ J : ByteArray, p ++ ⟨#[61]⟩ = J := ⟨_, rfl⟩
    have hPl : P.data.toList = p.data.toList.take k := by rw [hP, ext_list]; simp
    have hEl : E.data.toList = p.data.toList.drop (k + 1) := by rw [hE, ext_list, List.take_of_length_le (by rw [size_list]; omega)]
    have hAl : A.data.toList = p.data.toList.take k ++ [c] := by rw [← hA, ByteArray.data_append, Array.toList_append, hPl, hZ]
    have hGl : G.data.toList = p.data.toList.take k ++ [c] ++ p.data.toList.drop (k + 1) := by rw [← hG, ByteArray.data_append, Array.toList_append, hAl, hEl]
    have hJl : J.data.toList = p.data.toList ++ [61] := by rw [← hJ, ByteArray.data_append, Array.toList_append]
    have hPs : P.size = k := by rw [← size_list, hPl, List.length_take, size_list]; omega
    have hZs : Z.size = 1 := by rw [hZ]; rfl
    have hAs : A.size = k + 1 := by rw [← size_list, hAl, List.length_append, List.length_take, size_list]; simp; omega
    have hEs : E.size = p.size - (k + 1) := by rw [← size_list, hEl, List.length_drop, size_list]
    have hGs : G.size = p.size := by rw [← hG, ByteArray.size_append, hAs, hEs]; omega
    have hJs : J.size = p.size + 1 := by rw [← size_list, hJl, List.length_append, size_list]; rfl
    have hne : getS G.data.toList ≠ some x.data.toList := by
      refine getS_turned _ _ ?_
      rw [hGl, hpl]
      refine turned_ne _ _ k (by rw [← hpl, size_list]; exact hk) c ?_ rfl
      intro h
      apply hcd
      rw [hd, ← h]
      have : ∀ (l : List UInt8) (hl : p.data.toList = l) (hk2 : k < l.length), p[k]'hk = l[k]'hk2 := by
        intro l hl hk2
        subst hl
        rfl
      exact this _ hpl _
    have hgt : (getS G.data.toList).isSome = true → (((⟨((getS G.data.toList).getD []).toArray⟩ : ByteArray).toList == x.toList) = false) := by
      intro hs
      cases hg : getS G.data.toList with
      | none => rw [hg] at hs; cases hs
      | some b =>
        apply beq_false_of_ne
        intro h
        apply hne
        rw [hg]
        simp only [ByteArray.toList_eq, Option.getD_some] at h
        rw [← h]
    have HGc := Lib.hid (fun W => get_any G W (by omega))
    have HJc := Lib.hid (fun W => get_lit J W (by omega) ⟨#[]⟩ false none (by rw [hJl]; exact pad_none _) rfl rfl)
    have h5 := slice_str_hi p k (by omega)
    rw [← hP] at h5
    have h6 := slice_str_lo p (k + 1) (by omega)
    rw [← hE] at h6
    rw [show ((k + 1 : Nat) : Int) = (k : Int) + 1 by omega] at h6
    have h7 := conv_one c z hc Z hZ
    have h8 := conv_drew c z hc Z hZ
    have HW1 : Hid (wrap64 ((k : Int) + 1) = (k : Int) + 1) := Lib.hid (wrap64_of (by omega))
    have HW2 : Hid (IntKind.i64.wrap ((k : Int) + 1) = (k : Int) + 1) := Lib.hid (by rw [IntKind.wrap_i64]; omega)
    have s1 : (9223372036854775807 < P.size + Z.size) = False := by apply eq_false; omega
    have s2 : (9223372036854775807 < A.size + E.size) = False := by apply eq_false; omega
    generalize (⟨((getS G.data.toList).getD []).toArray⟩ : ByteArray) = X at *
    generalize (getS G.data.toList).isSome = u at *
    have hk1 : (k : Int) + 1 ≤ 300 := by omega
    clear hx0 hx hc hp hpl hps hd hcd hP hZ hE hPl hEl hAl hGl hJl hPs hZs hAs hEs hGs hJs hne
    go_enter Try.func6, Try.ntmps6
    go_wp2_with fail
    refine (HA.out _).mono ?_
    rintro e w1 ⟨rfl, b1⟩
    have B1 := Lib.hid b1
    clear b1
    go_wp2_with fail
    refine (HP.out _).mono ?_
    rintro e w2 ⟨rfl, b2⟩
    have B2 := Lib.hid (B1.out.trans (b2.mono B1.out.size))
    clear b2
    go_wp2_with fail
    have hw1 := HW1.out
    have hw2 := HW2.out
    have HJJ := Lib.hid (And.intro hJ hp2.2)
    have HGT := Lib.hid hgt
    clear hz HA h0 h1 HP hp2 hkr hix hps0 heq hpe hpi hpt hJ hgt hk hk1
    go_region_with ((go_at_call 10); (with_reducible refine (HGc.out _).mono ?_); (rintro e w3 ⟨rfl, b3⟩))
    have B3 : Hid (Below w.heap.size w w3) := Lib.hid (by
      have a1 : Below w.heap.size w (w2.alloc (.cells #[.int .u8 z] 5)).drew := below_drewN (B2.out.alloc B2.out.size _) 1
      exact a1.trans (b3.mono a1.size))
    clear b3 h5 h6 h7 h8 s1 s2 hA hG hw1 hw2
    obtain ⟨hJ, hp3⟩ := HJJ.out
    go_wp2_with fail
    refine (HJc.out _).mono ?_
    rintro e w4 ⟨rfl, b4⟩
    have B4 := Lib.hid (B3.out.trans (b4.mono B3.out.size))
    clear b4
    cases u with
    | false =>
      go_wp2
      go_ret
      exact ⟨rfl, B4.out⟩
    | true =>
      have hxx := HGT.out rfl
      go_wp2
      go_ret
      exact ⟨rfl, B4.out⟩
end Go.Proofs.Ytbnlcacjldnnjaa
