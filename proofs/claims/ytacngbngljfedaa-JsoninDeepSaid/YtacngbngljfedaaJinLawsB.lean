/-
  LAWS of chapter 11: JsoninDeep.
-/
import Derived.Test.YtacngbngljfedaaJinLawsA
namespace Go.Proofs.Ytacngbngljfedaa
open Go.RowKit
open Go.Lib
def dpA (m : Bool) (n : Nat) : List UInt8 := (List.replicate n (if m = true then [123, 34, 97, 34, 58] else [91])).flatten
def dpZ (m : Bool) (n : Nat) : List UInt8 := (List.replicate n (if m = true then [125] else [93])).flatten
def dpS (m : Bool) (n : Nat) : List UInt8 := dpA m n ++ [49] ++ dpZ m n
theorem dpA_succ (m : Bool) (n : Nat) : dpA m (n + 1) = dpA m n ++ (if m = true then [123, 34, 97, 34, 58] else [91]) := by
  simp [dpA, List.replicate_succ', List.flatten_append]
theorem dpZ_succ (m : Bool) (n : Nat) : dpZ m (n + 1) = dpZ m n ++ (if m = true then [125] else [93]) := by
  simp [dpZ, List.replicate_succ', List.flatten_append]
def dpOk (m : Bool) (n D : Nat) : Bool :=
  if D < n then (allJ D (dpS m n)).2 == 4 && decide (D ≤ (allJ D (dpS m n)).1.length) else (allJ D (dpS m n)).2 == 0 && (match (allJ D (dpS m n)).1.getLast? with
    | some e => e.k == 7
    | none => false)
theorem dp_all : (List.range 20).all (fun n => (List.range 16).all fun D => dpOk true (n + 1) (D + 1) && dpOk false (n + 1) (D + 1)) = true := by decide +kernel
theorem dp_one (m : Bool) (n D : Nat) (hn : 1 ≤ n ∧ n ≤ 20) (hD : 1 ≤ D ∧ D ≤ 16) : dpOk m n D = true := by
  have h := dp_all
  rw [List.all_eq_true] at h
  have h1 := h (n - 1) (by simp; omega)
  rw [List.all_eq_true] at h1
  have h2 := h1 (D - 1) (by simp; omega)
  rw [Bool.and_eq_true, show n - 1 + 1 = n by omega, show D - 1 + 1 = D by omega] at h2
  cases m
  · exact h2.2
  · exact h2.1
theorem dpS_len (m : Bool) (n : Nat) : (dpS m n).length ≤ 6 * n + 1 := by
  cases m <;> simp [dpS, dpA, dpZ] <;> omega
theorem dpA_len (m : Bool) (n : Nat) : (dpA m n).length ≤ 5 * n := by
  cases m <;> simp [dpA] <;> omega
theorem dpZ_len (m : Bool) (n : Nat) : (dpZ m n).length ≤ n := by
  cases m <;> simp [dpZ]
set_option maxRecDepth 100000 in
set_option maxHeartbeats 4000000 in
theorem deep_true (n D : Nat) (w : World) (hn : 1 ≤ n ∧ n ≤ 20) (hD : 1 ≤ D ∧ D ≤ 16) :
    Calls Try.prog 5 #[.int .i64 n, .int .i64 D, .bool true] w fun r w' => r = .returned (.bool true) ∧ Below w.heap.size w w' := by
  have h1 : ((n : Int) < 1) = False := by simp; omega
  have h2 : ((20 : Int) < (n : Int)) = False := by simp; omega
  have h3 : ((D : Int) < 1) = False := by simp; omega
  have h4 : ((16 : Int) < (D : Int)) = False := by simp; omega
  have hn20 : n ≤ 20 := hn.2
  have HA := Lib.hid (jalive_any w)
  have HJ := Lib.hid (fun W => jall_any (dpS true n) D hD (by have := dpS_len true n; omega) W)
  have HOK := Lib.hid (dp_one true n D hn hD)
  have HU : Hid (∀ k, dpA true (k + 1) = dpA true k ++ [123, 34, 97, 34, 58]) := Lib.hid (dpA_succ true)
  have HZ : Hid (∀ k, dpZ true (k + 1) = dpZ true k ++ [125]) := Lib.hid (dpZ_succ true)
  have HS : Hid (dpS true n = dpA true n ++ [49] ++ dpZ true n) := Lib.hid rfl
  have A0 : Hid (dpA true 0 = []) := Lib.hid rfl
  have Z0 : Hid (dpZ true 0 = []) := Lib.hid rfl
  clear hn hD
  go_enter Try.func5, Try.ntmps5
  go_wp2_with fail
  refine HA.out.mono ?_
  rintro r w1 ⟨rfl, b1⟩
  have B1 := Lib.hid b1
  clear b1
  go_wp2
  go_loopw [7, 8] (fun s i wr => ∃ (k : Nat) (X : ByteArray), s = .string X ∧ i = .int .i64 k ∧ k ≤ n ∧ Hid (X = ⟨(dpA true k).toArray⟩) ∧ Hid (Below w.heap.size w wr)) (fun _ i _ => n - (RowKit.intOf i).toNat)
  case atStart => exact ⟨0, ⟨#[]⟩, rfl, rfl, by omega, Lib.hid (by rw [A0.out]), B1⟩
  case round =>
    obtain ⟨k, X, rfl, rfl, hk, HX, HWR⟩ := hrel
    have hzX : X.size ≤ 5 * k := by rw [HX.out, size_of]; exact dpA_len true k
    by_cases hlt : k < n
    · have hz5 : ¬ 9223372036854775807 < X.size + 5 := by omega
      have HY : Hid (X ++ ⟨([123, 34, 97, 34, 58] : List UInt8).toArray⟩ = ⟨(dpA true (k + 1)).toArray⟩) := Lib.hid (by rw [HX.out, HU.out]; exact cat_of _ _)
      go_wp2
      go_roundw
      case rel => exact ⟨k + 1, _, rfl, rfl, hlt, HY, HWR⟩
      case measure => simp [RowKit.intOf]; omega
    · obtain rfl : k = n := by omega
      have HX1 : Hid (X ++ ⟨#[49]⟩ = ⟨(dpA true k ++ [49]).toArray⟩) := Lib.hid (by rw [HX.out]; exact cat_of _ _)
      have hz1 : ¬ 9223372036854775807 < X.size + 1 := by omega
      go_wp2
      generalize hX1 : X ++ ⟨#[49]⟩ = X1 at *
      clear hX1 hz1 hzX
      go_loopw [7, 9] (fun s i wq => ∃ (q : Nat) (Y : ByteArray), s = .string Y ∧ i = .int .i64 q ∧ q ≤ k ∧ Hid (Y = ⟨(dpA true k ++ [49] ++ dpZ true q).toArray⟩) ∧ Hid (Below w.heap.size w wq)) (fun _ i _ => k - (RowKit.intOf i).toNat)
      case atStart => exact ⟨0, _, rfl, rfl, by omega, Lib.hid (by rw [HX1.out, Z0.out, List.append_nil]), HWR⟩
      case round =>
        obtain ⟨q, Y, rfl, rfl, hq, HYY, HWQ⟩ := hrel
        have hzY : Y.size ≤ 6 * k + 1 := by
          have h1 := dpA_len true k
          have h2 := dpZ_len true q
          rw [HYY.out, size_of, List.length_append, List.length_append]
          simp only [List.length_cons, List.length_nil]
          omega
        by_cases hlq : q < k
        · have hz1 : ¬ 9223372036854775807 < Y.size + 1 := by omega
          have HY : Hid (Y ++ ⟨([125] : List UInt8).toArray⟩ = ⟨(dpA true k ++ [49] ++ dpZ true (q + 1)).toArray⟩) := Lib.hid (by rw [HYY.out, HZ.out, cat_of, List.append_assoc])
          go_wp2
          go_roundw
          case rel => exact ⟨q + 1, _, rfl, rfl, hlq, HY, HWQ⟩
          case measure => simp [RowKit.intOf]; omega
        · obtain rfl : q = k := by omega
          have hok := HOK.out
          have HJQ := HJ.out
          rw [HS.out, ← HYY.out] at HJQ
          unfold dpOk at hok
          rw [HS.out] at hok
          have hal := all_len D (dpA true q ++ [49] ++ dpZ true q)
          have hal2 : (dpA true q ++ [49] ++ dpZ true q).length ≤ 6 * q + 1 := by rw [← size_of, ← HYY.out]; exact hzY
          generalize (dpA true q ++ [49] ++ dpZ true q).length = Z at hal hal2
          generalize allJ D (dpA true q ++ [49] ++ dpZ true q) = R at hok HJQ hal
          obtain ⟨L, e⟩ := R
          simp only at hok HJQ hal
          have HJJ := Lib.hid HJQ
          clear HJQ
          by_cases hd : D < q
          · rw [if_pos hd, Bool.and_eq_true, beq_iff_eq, decide_eq_true_eq] at hok
            obtain ⟨rfl, hok2⟩ := hok
            have hd2 : ((D : Int) < (q : Int)) = True := by simp; omega
            have hd3 : ((D : Int) ≤ (L.length : Int)) = True := by simp; omega
            clear hd hok2 hal hal2
            generalize L.length = N at *
            go_wp2_with fail
            refine (HJJ.out _).mono ?_
            rintro r w2 ⟨u, rfl, hM⟩
            obtain ⟨a, cp, rfl, _, _⟩ := hM.2.1.slice_form
            have HM := Lib.hid (up_trans HWQ.out hM.1)
            clear hM
            go_wp2
            go_ret
            exact ⟨rfl, HM.out⟩
          · rw [if_neg hd, Bool.and_eq_true, beq_iff_eq] at hok
            obtain ⟨rfl, hok2⟩ := hok
            have hd2 : ((D : Int) < (q : Int)) = False := by simp; omega
            obtain ⟨K, x, rfl, hx⟩ : ∃ K x, L = K ++ [x] ∧ x.k = 7 := by
              rcases List.eq_nil_or_concat L with rfl | ⟨K, x, rfl⟩
              · cases hok2
              · exact ⟨K, x, by simp, by simpa using hok2⟩
            have HLN : Hid (K.length ≤ 900000) := Lib.hid (by rw [List.length_append] at hal; omega)
            have hlen : (K ++ [x]).length = K.length + 1 := by simp
            have HE : Hid (∀ W a cp, Win W 40 5 (.slice a (K.length + 1) cp) (K.length + 1) (evsC (K ++ [x])) → ∃ g off, a = some ⟨g, off, none⟩ ∧ W.cell? ⟨g, off + K.length * 5, none⟩ = some (.int .i64 7)) := Lib.hid (by
              intro W a cp hW
              obtain ⟨g, off, c', hv, _, _, _, _, hc⟩ := hW.form (by omega)
              simp only [Value.slice.injEq] at hv
              refine ⟨g, off, hv.1, (hc (K.length * 5) _ ?_).1⟩
              rw [evsC_append, List.getElem?_append_right (by rw [evsC_length]; exact Nat.le_refl _), evsC_length]
              simp [evsC, evCells, hx])
            rw [hlen] at HJJ
            have hN9 := HLN.out
            generalize K.length = N at *
            have hsub : ((N + 1 : Nat) : Int) - 1 = (N : Int) := by omega
            clear hd hok2 hlen hal hal2
            go_wp2_with fail
            refine (HJJ.out _).mono ?_
            rintro r w2 ⟨u, rfl, hM⟩
            obtain ⟨a, cp, rfl, _, _⟩ := hM.2.1.slice_form
            obtain ⟨g, off, rfl, hc⟩ := HE.out _ _ _ hM.2.1
            have HM := Lib.hid (up_trans HWQ.out hM.1)
            clear hM
            go_wp2
            go_ret
            exact ⟨rfl, HM.out⟩
set_option maxRecDepth 100000 in
set_option maxHeartbeats 4000000 in
theorem deep_false (n D : Nat) (w : World) (hn : 1 ≤ n ∧ n ≤ 20) (hD : 1 ≤ D ∧ D ≤ 16) :
    Calls Try.prog 5 #[.int .i64 n, .int .i64 D, .bool false] w fun r w' => r = .returned (.bool true) ∧ Below w.heap.size w w' := by
  have h1 : ((n : Int) < 1) = False := by simp; omega
  have h2 : ((20 : Int) < (n : Int)) = False := by simp; omega
  have h3 : ((D : Int) < 1) = False := by simp; omega
  have h4 : ((16 : Int) < (D : Int)) = False := by simp; omega
  have hn20 : n ≤ 20 := hn.2
  have HA := Lib.hid (jalive_any w)
  have HJ := Lib.hid (fun W => jall_any (dpS false n) D hD (by have := dpS_len false n; omega) W)
  have HOK := Lib.hid (dp_one false n D hn hD)
  have HU : Hid (∀ k, dpA false (k + 1) = dpA false k ++ [91]) := Lib.hid (dpA_succ false)
  have HZ : Hid (∀ k, dpZ false (k + 1) = dpZ false k ++ [93]) := Lib.hid (dpZ_succ false)
  have HS : Hid (dpS false n = dpA false n ++ [49] ++ dpZ false n) := Lib.hid rfl
  have A0 : Hid (dpA false 0 = []) := Lib.hid rfl
  have Z0 : Hid (dpZ false 0 = []) := Lib.hid rfl
  clear hn hD
  go_enter Try.func5, Try.ntmps5
  go_wp2_with fail
  refine HA.out.mono ?_
  rintro r w1 ⟨rfl, b1⟩
  have B1 := Lib.hid b1
  clear b1
  go_wp2
  go_loopw [7, 8] (fun s i wr => ∃ (k : Nat) (X : ByteArray), s = .string X ∧ i = .int .i64 k ∧ k ≤ n ∧ Hid (X = ⟨(dpA false k).toArray⟩) ∧ Hid (Below w.heap.size w wr)) (fun _ i _ => n - (RowKit.intOf i).toNat)
  case atStart => exact ⟨0, ⟨#[]⟩, rfl, rfl, by omega, Lib.hid (by rw [A0.out]), B1⟩
  case round =>
    obtain ⟨k, X, rfl, rfl, hk, HX, HWR⟩ := hrel
    have hzX : X.size ≤ 5 * k := by rw [HX.out, size_of]; exact dpA_len false k
    by_cases hlt : k < n
    · have hz5 : ¬ 9223372036854775807 < X.size + 1 := by omega
      have HY : Hid (X ++ ⟨([91] : List UInt8).toArray⟩ = ⟨(dpA false (k + 1)).toArray⟩) := Lib.hid (by rw [HX.out, HU.out]; exact cat_of _ _)
      go_wp2
      go_roundw
      case rel => exact ⟨k + 1, _, rfl, rfl, hlt, HY, HWR⟩
      case measure => simp [RowKit.intOf]; omega
    · obtain rfl : k = n := by omega
      have HX1 : Hid (X ++ ⟨#[49]⟩ = ⟨(dpA false k ++ [49]).toArray⟩) := Lib.hid (by rw [HX.out]; exact cat_of _ _)
      have hz1 : ¬ 9223372036854775807 < X.size + 1 := by omega
      go_wp2
      generalize hX1 : X ++ ⟨#[49]⟩ = X1 at *
      clear hX1 hz1 hzX
      go_loopw [7, 9] (fun s i wq => ∃ (q : Nat) (Y : ByteArray), s = .string Y ∧ i = .int .i64 q ∧ q ≤ k ∧ Hid (Y = ⟨(dpA false k ++ [49] ++ dpZ false q).toArray⟩) ∧ Hid (Below w.heap.size w wq)) (fun _ i _ => k - (RowKit.intOf i).toNat)
      case atStart => exact ⟨0, _, rfl, rfl, by omega, Lib.hid (by rw [HX1.out, Z0.out, List.append_nil]), HWR⟩
      case round =>
        obtain ⟨q, Y, rfl, rfl, hq, HYY, HWQ⟩ := hrel
        have hzY : Y.size ≤ 6 * k + 1 := by
          have h1 := dpA_len false k
          have h2 := dpZ_len false q
          rw [HYY.out, size_of, List.length_append, List.length_append]
          simp only [List.length_cons, List.length_nil]
          omega
        by_cases hlq : q < k
        · have hz1 : ¬ 9223372036854775807 < Y.size + 1 := by omega
          have HY : Hid (Y ++ ⟨([93] : List UInt8).toArray⟩ = ⟨(dpA false k ++ [49] ++ dpZ false (q + 1)).toArray⟩) := Lib.hid (by rw [HYY.out, HZ.out, cat_of, List.append_assoc])
          go_wp2
          go_roundw
          case rel => exact ⟨q + 1, _, rfl, rfl, hlq, HY, HWQ⟩
          case measure => simp [RowKit.intOf]; omega
        · obtain rfl : q = k := by omega
          have hok := HOK.out
          have HJQ := HJ.out
          rw [HS.out, ← HYY.out] at HJQ
          unfold dpOk at hok
          rw [HS.out] at hok
          have hal := all_len D (dpA false q ++ [49] ++ dpZ false q)
          have hal2 : (dpA false q ++ [49] ++ dpZ false q).length ≤ 6 * q + 1 := by rw [← size_of, ← HYY.out]; exact hzY
          generalize (dpA false q ++ [49] ++ dpZ false q).length = Z at hal hal2
          generalize allJ D (dpA false q ++ [49] ++ dpZ false q) = R at hok HJQ hal
          obtain ⟨L, e⟩ := R
          simp only at hok HJQ hal
          have HJJ := Lib.hid HJQ
          clear HJQ
          by_cases hd : D < q
          · rw [if_pos hd, Bool.and_eq_true, beq_iff_eq, decide_eq_true_eq] at hok
            obtain ⟨rfl, hok2⟩ := hok
            have hd2 : ((D : Int) < (q : Int)) = True := by simp; omega
            have hd3 : ((D : Int) ≤ (L.length : Int)) = True := by simp; omega
            clear hd hok2 hal hal2
            generalize L.length = N at *
            go_wp2_with fail
            refine (HJJ.out _).mono ?_
            rintro r w2 ⟨u, rfl, hM⟩
            obtain ⟨a, cp, rfl, _, _⟩ := hM.2.1.slice_form
            have HM := Lib.hid (up_trans HWQ.out hM.1)
            clear hM
            go_wp2
            go_ret
            exact ⟨rfl, HM.out⟩
          · rw [if_neg hd, Bool.and_eq_true, beq_iff_eq] at hok
            obtain ⟨rfl, hok2⟩ := hok
            have hd2 : ((D : Int) < (q : Int)) = False := by simp; omega
            obtain ⟨K, x, rfl, hx⟩ : ∃ K x, L = K ++ [x] ∧ x.k = 7 := by
              rcases List.eq_nil_or_concat L with rfl | ⟨K, x, rfl⟩
              · cases hok2
              · exact ⟨K, x, by simp, by simpa using hok2⟩
            have HLN : Hid (K.length ≤ 900000) := Lib.hid (by rw [List.length_append] at hal; omega)
            have hlen : (K ++ [x]).length = K.length + 1 := by simp
            have HE : Hid (∀ W a cp, Win W 40 5 (.slice a (K.length + 1) cp) (K.length + 1) (evsC (K ++ [x])) → ∃ g off, a = some ⟨g, off, none⟩ ∧ W.cell? ⟨g, off + K.length * 5, none⟩ = some (.int .i64 7)) := Lib.hid (by
              intro W a cp hW
              obtain ⟨g, off, c', hv, _, _, _, _, hc⟩ := hW.form (by omega)
              simp only [Value.slice.injEq] at hv
              refine ⟨g, off, hv.1, (hc (K.length * 5) _ ?_).1⟩
              rw [evsC_append, List.getElem?_append_right (by rw [evsC_length]; exact Nat.le_refl _), evsC_length]
              simp [evsC, evCells, hx])
            rw [hlen] at HJJ
            have hN9 := HLN.out
            generalize K.length = N at *
            have hsub : ((N + 1 : Nat) : Int) - 1 = (N : Int) := by omega
            clear hd hok2 hlen hal hal2
            go_wp2_with fail
            refine (HJJ.out _).mono ?_
            rintro r w2 ⟨u, rfl, hM⟩
            obtain ⟨a, cp, rfl, _, _⟩ := hM.2.1.slice_form
            obtain ⟨g, off, rfl, hc⟩ := HE.out _ _ _ hM.2.1
            have HM := Lib.hid (up_trans HWQ.out hM.1)
            clear hM
            go_wp2
            go_ret
            exact ⟨rfl, HM.out⟩
set_option maxRecDepth 100000 in
set_option maxHeartbeats 2000000 in
theorem deep_out1 (n d : Int) (m : Bool) (w : World) (h1 : (n < 1) = True) :
    Calls Try.prog 5 #[.int .i64 n, .int .i64 d, .bool m] w fun r w' => r = .returned (.bool true) ∧ Below w.heap.size w w' := by
  have HA := Lib.hid (jalive_any w)
  go_enter Try.func5, Try.ntmps5
  go_wp2_with fail
  refine HA.out.mono ?_
  rintro r w1 ⟨rfl, b1⟩
  have B1 := Lib.hid b1
  clear b1
  go_wp2
  go_ret
  exact ⟨rfl, B1.out⟩
set_option maxRecDepth 100000 in
set_option maxHeartbeats 2000000 in
theorem deep_out2 (n d : Int) (m : Bool) (w : World) (h1 : (n < 1) = False) (h2 : (20 < n) = True) :
    Calls Try.prog 5 #[.int .i64 n, .int .i64 d, .bool m] w fun r w' => r = .returned (.bool true) ∧ Below w.heap.size w w' := by
  have HA := Lib.hid (jalive_any w)
  go_enter Try.func5, Try.ntmps5
  go_wp2_with fail
  refine HA.out.mono ?_
  rintro r w1 ⟨rfl, b1⟩
  have B1 := Lib.hid b1
  clear b1
  go_wp2
  go_ret
  exact ⟨rfl, B1.out⟩
set_option maxRecDepth 100000 in
set_option maxHeartbeats 2000000 in
theorem deep_out3 (n d : Int) (m : Bool) (w : World) (h1 : (n < 1) = False) (h2 : (20 < n) = False) (h3 : (d < 1) = True) :
    Calls Try.prog 5 #[.int .i64 n, .int .i64 d, .bool m] w fun r w' => r = .returned (.bool true) ∧ Below w.heap.size w w' := by
  have HA := Lib.hid (jalive_any w)
  go_enter Try.func5, Try.ntmps5
  go_wp2_with fail
  refine HA.out.mono ?_
  rintro r w1 ⟨rfl, b1⟩
  have B1 := Lib.hid b1
  clear b1
  go_wp2
  go_ret
  exact ⟨rfl, B1.out⟩
set_option maxRecDepth 100000 in
set_option maxHeartbeats 2000000 in
theorem deep_out4 (n d : Int) (m : Bool) (w : World) (h1 : (n < 1) = False) (h2 : (20 < n) = False) (h3 : (d < 1) = False) (h4 : (16 < d) = True) :
    Calls Try.prog 5 #[.int .i64 n, .int .i64 d, .bool m] w fun r w' => r = .returned (.bool true) ∧ Below w.heap.size w w' := by
  have HA := Lib.hid (jalive_any w)
  go_enter Try.func5, Try.ntmps5
  go_wp2_with fail
  refine HA.out.mono ?_
  rintro r w1 ⟨rfl, b1⟩
  have B1 := Lib.hid b1
  clear b1
  go_wp2
  go_ret
  exact ⟨rfl, B1.out⟩
theorem deep_row (n d : Int) (m : Bool) (w : World) :
    Calls Try.prog 5 #[.int .i64 n, .int .i64 d, .bool m] w fun r w' => r = .returned (.bool true) ∧ Below w.heap.size w w' := by
  by_cases h1 : n < 1
  · exact deep_out1 n d m w (eq_true h1)
  by_cases h2 : 20 < n
  · exact deep_out2 n d m w (eq_false h1) (eq_true h2)
  by_cases h3 : d < 1
  · exact deep_out3 n d m w (eq_false h1) (eq_false h2) (eq_true h3)
  by_cases h4 : 16 < d
  · exact deep_out4 n d m w (eq_false h1) (eq_false h2) (eq_false h3) (eq_true h4)
  obtain ⟨N, rfl⟩ : ∃ N : Nat, n = N := ⟨n.toNat, by omega⟩
  obtain ⟨D, rfl⟩ : ∃ D : Nat, d = D := ⟨d.toNat, by omega⟩
  cases m
  · exact deep_false N D w (by omega) (by omega)
  · exact deep_true N D w (by omega) (by omega)
end Go.Proofs.Ytacngbngljfedaa
