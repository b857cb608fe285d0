/-
  LAWS of chapter 8: the first call (alive), BaseParts, BaseTells.
-/
import Derived.Test.YtbnlcacjldnnjaaBaseUn
namespace Go.Proofs.Ytbnlcacjldnnjaa
open Go.RowKit
open Go.Lib
theorem get_lit (s : ByteArray) (w : World) (hs : s.size ≤ 1000000) (z : ByteArray) (y : Bool) (g : Option (List UInt8)) (hg : getS s.data.toList = g) (hz : z = ⟨(g.getD []).toArray⟩) (hy : y = g.isSome) :
    Calls Try.prog 10 #[.string s] w fun e w' => e = .returned (.tuple #[.string z, .bool y]) ∧ Below w.heap.size w w' := by
  subst hg hz hy
  exact get_any s w hs
theorem put_lit (s : ByteArray) (w : World) (hs : s.size ≤ 1000000) (z : ByteArray) (hz : z = ⟨(putS s.data.toList).toArray⟩) :
    Calls Try.prog 9 #[.string s] w fun e w' => e = .returned (.string z) ∧ Below w.heap.size w w' := by
  subst hz
  exact put_any s w hs
set_option maxRecDepth 100000 in
set_option maxHeartbeats 1000000 in
theorem alive_any (w : World) : Calls Try.prog 8 #[] w fun e w' => e = .returned (.bool true) ∧ Below w.heap.size w w' := by
  have H1 := Lib.hid (fun W => get_lit ⟨#[97, 71, 107]⟩ W (by show 3 ≤ 1000000; decide) ⟨#[104, 105]⟩ true (some [104, 105]) (by decide +kernel) rfl rfl)
  have H2 := Lib.hid (fun W => get_lit ⟨#[97, 71, 108]⟩ W (by show 3 ≤ 1000000; decide) ⟨#[]⟩ false none (by decide +kernel) rfl rfl)
  have H3 := Lib.hid (fun W => put_lit ⟨#[104, 105]⟩ W (by show 2 ≤ 1000000; decide) ⟨#[97, 71, 107]⟩ (by decide +kernel))
  have H4 := Lib.hid (fun W => len_any 4 W)
  rw [show lenS 4 = 6 by decide] at H4
  go_enter Try.func8, Try.ntmps8
  go_wp2_with fail
  refine (H1.out _).mono ?_
  rintro e w1 ⟨rfl, b1⟩
  have B1 := Lib.hid b1
  clear b1
  go_wp2_with fail
  refine (H2.out _).mono ?_
  rintro e w2 ⟨rfl, b2⟩
  have B2 := Lib.hid (B1.out.trans (b2.mono B1.out.size))
  clear b2
  go_wp2_with fail
  refine (H3.out _).mono ?_
  rintro e w3 ⟨rfl, b3⟩
  have B3 := Lib.hid (B2.out.trans (b3.mono B2.out.size))
  clear b3
  go_wp2_with fail
  refine (H4.out _).mono ?_
  rintro e w4 ⟨rfl, rfl⟩
  go_wp2
  go_ret
  exact ⟨rfl, B3.out⟩
set_option maxRecDepth 100000 in
set_option maxHeartbeats 4000000 in
theorem parts_any (x y : ByteArray) (w : World) :
    Calls Try.prog 4 #[.string x, .string y] w fun e w' => e = .returned (.bool true) ∧ Below w.heap.size w w' := by
  have HA := Lib.hid alive_any
  by_cases hx : 200 < x.size
  · have h1 : ((200 : Int) < (x.size : Int)) = True := by apply eq_true; omega
    clear hx
    go_enter Try.func4, Try.ntmps4
    go_wp2_with fail
    refine (HA.out _).mono ?_
    rintro e w1 ⟨rfl, b1⟩
    go_wp2
    go_ret
    exact ⟨rfl, b1⟩
  by_cases hy : 200 < y.size
  · have h0 : ((200 : Int) < (x.size : Int)) = False := by apply eq_false; omega
    have h1 : ((200 : Int) < (y.size : Int)) = True := by apply eq_true; omega
    clear hx hy
    go_enter Try.func4, Try.ntmps4
    go_wp2_with fail
    refine (HA.out _).mono ?_
    rintro e w1 ⟨rfl, b1⟩
    go_wp2
    go_ret
    exact ⟨rfl, b1⟩
  by_cases hm : x.size % 3 = 0
  · have h0 : ((200 : Int) < (x.size : Int)) = False := by apply eq_false; omega
    have h1 : ((200 : Int) < (y.size : Int)) = False := by apply eq_false; omega
    have h2 : ((x.size : Int) % 3 = 0) = True := by apply eq_true; omega
    have h2b : (((x.size : Int) % 3) != 0) = false := by rw [bne_eq_false_iff_eq]; omega
    have HPx := Lib.hid (fun W => put_any x W (by omega))
    have HPy := Lib.hid (fun W => put_any y W (by omega))
    have hxy : (x ++ y).data.toList = x.data.toList ++ y.data.toList := by simp
    have hs : (x ++ y).size = x.size + y.size := ByteArray.size_append
    have HPxy := Lib.hid (fun W => put_any (x ++ y) W (by omega))
    have HL : Hid ((⟨(putS (x ++ y).data.toList).toArray⟩ : ByteArray) = ⟨(putS x.data.toList).toArray⟩ ++ ⟨(putS y.data.toList).toArray⟩) := Lib.hid (by
      rw [hxy, putS_append _ _ (by rw [size_list]; exact hm), cat_of])
    have hpx : ((⟨(putS x.data.toList).toArray⟩ : ByteArray).size : Int) ≤ 1000 := by rw [size_of, putS_length, size_list]; omega
    have hpy : ((⟨(putS y.data.toList).toArray⟩ : ByteArray).size : Int) ≤ 1000 := by rw [size_of, putS_length, size_list]; omega
    generalize (⟨(putS x.data.toList).toArray⟩ : ByteArray) = px at *
    generalize (⟨(putS y.data.toList).toArray⟩ : ByteArray) = py at *
    generalize (⟨(putS (x ++ y).data.toList).toArray⟩ : ByteArray) = pz at *
    obtain rfl : pz = px ++ py := HL.out
    have heq : ((px ++ py).toList == (px ++ py).toList) = true := by simp
    have hov : (9223372036854775807 < x.size + y.size) = False := by apply eq_false; omega
    have hov2 : (9223372036854775807 < px.size + py.size) = False := by apply eq_false; omega
    clear hxy hs HL hm
    go_enter Try.func4, Try.ntmps4
    go_wp2_with fail
    refine (HA.out _).mono ?_
    rintro e w1 ⟨rfl, b1⟩
    have B1 := Lib.hid b1
    clear b1
    go_wp2_with fail
    refine (HPxy.out _).mono ?_
    rintro e w2 ⟨rfl, b2⟩
    have B2 := Lib.hid (B1.out.trans (b2.mono B1.out.size))
    clear b2
    go_wp2_with fail
    refine (HPx.out _).mono ?_
    rintro e w3 ⟨rfl, b3⟩
    have B3 := Lib.hid (B2.out.trans (b3.mono B2.out.size))
    clear b3
    go_wp2_with fail
    refine (HPy.out _).mono ?_
    rintro e w4 ⟨rfl, b4⟩
    have B4 := Lib.hid (B3.out.trans (b4.mono B3.out.size))
    clear b4
    go_wp2
    go_ret
    exact ⟨rfl, B4.out⟩
  · have h0 : ((200 : Int) < (x.size : Int)) = False := by apply eq_false; omega
    have h1 : ((200 : Int) < (y.size : Int)) = False := by apply eq_false; omega
    have h2 : ((x.size : Int) % 3 = 0) = False := by apply eq_false; omega
    clear hx hy hm
    go_enter Try.func4, Try.ntmps4
    go_wp2_with fail
    refine (HA.out _).mono ?_
    rintro e w1 ⟨rfl, b1⟩
    go_wp2
    go_ret
    exact ⟨rfl, b1⟩

set_option maxRecDepth 100000 in
set_option maxHeartbeats 4000000 in
theorem tells_any (x y : ByteArray) (n : Int) (w : World) :
    Calls Try.prog 3 #[.string x, .string y, .int .i64 n] w fun e w' => e = .returned (.bool true) ∧ Below w.heap.size w w' := by
  have HA := Lib.hid alive_any
  by_cases hx : 300 < x.size
  · have h1 : ((300 : Int) < (x.size : Int)) = True := by apply eq_true; omega
    clear hx
    go_enter Try.func3, Try.ntmps3
    go_wp2_with fail
    refine (HA.out _).mono ?_
    rintro e w1 ⟨rfl, b1⟩
    go_wp2
    go_ret
    exact ⟨rfl, b1⟩
  by_cases hy : 300 < y.size
  · have h0 : ((300 : Int) < (x.size : Int)) = False := by apply eq_false; omega
    have h1 : ((300 : Int) < (y.size : Int)) = True := by apply eq_true; omega
    clear hx hy
    go_enter Try.func3, Try.ntmps3
    go_wp2_with fail
    refine (HA.out _).mono ?_
    rintro e w1 ⟨rfl, b1⟩
    go_wp2
    go_ret
    exact ⟨rfl, b1⟩
  have h0 : ((300 : Int) < (x.size : Int)) = False := by apply eq_false; omega
  have h1 : ((300 : Int) < (y.size : Int)) = False := by apply eq_false; omega
  have HP := Lib.hid (fun W => put_any x W (by omega))
  have hpl : ((⟨(putS x.data.toList).toArray⟩ : ByteArray).size) = (4 * x.size + 2) / 3 := by rw [size_of, putS_length, size_list]
  have HG := Lib.hid (fun W => get_lit ⟨(putS x.data.toList).toArray⟩ W (by omega) x true (some x.data.toList) (getS_put _) (by rw [Option.getD_some, list_bytes]) rfl)
  have HY := Lib.hid (fun W => get_any y W (by omega))
  have HZ := Lib.hid (fun W => unbase_any y W (by omega))
  have HB := Lib.hid (fun W => rbase_any x W (by omega))
  have HN := Lib.hid (fun W => len_any n W)
  have HL := Lib.hid (fun W => len_nat x.size (by omega) W)
  rw [← hpl] at HL
  clear hpl
  generalize (⟨(putS x.data.toList).toArray⟩ : ByteArray) = p at *
  generalize (⟨((getS y.data.toList).getD []).toArray⟩ : ByteArray) = t at *
  generalize (getS y.data.toList).isSome = u at *
  have h2 : (p.toList == p.toList) = true := by simp
  have h3 : (x.toList == x.toList) = true := by simp
  have h4 : (t.toList == t.toList) = true := by simp
  have h5 : (u == u) = true := by simp
  have h6 : ((p.size : Int) == (p.size : Int)) = true := by simp
  clear hx hy
  have main : ∀ (m : Int), lenS n = m → (0 ≤ n ∧ n ≤ 1000000 ∧ m = (4 * n + 2) / 3 ∨ m = 0 ∧ (n < 0 ∨ 1000000 < n)) → Calls Try.prog 3 #[.string x, .string y, .int .i64 n] w fun e w' => e = .returned (.bool true) ∧ Below w.heap.size w w' := by
    intro m hm hc
    rw [hm] at HN
    clear hm
    rcases hc with ⟨h7, h8, h9⟩ | ⟨rfl, hc⟩
    · have h10 : (m == (4 * n + 2) / 3) = true := by rw [beq_iff_eq]; exact h9
      clear h9
      go_enter Try.func3, Try.ntmps3
      go_wp2_with fail
      refine (HA.out _).mono ?_
      rintro e w1 ⟨rfl, b1⟩
      have B1 := Lib.hid b1
      clear b1
      go_wp2_with fail
      refine (HP.out _).mono ?_
      rintro e w2 ⟨rfl, b2⟩
      have B2 := Lib.hid (B1.out.trans (b2.mono B1.out.size))
      clear b2
      go_wp2_with fail
      refine (HG.out _).mono ?_
      rintro e w3 ⟨rfl, b3⟩
      have B3 := Lib.hid (B2.out.trans (b3.mono B2.out.size))
      clear b3
      go_wp2_with fail
      refine (HY.out _).mono ?_
      rintro e w4 ⟨rfl, b4⟩
      have B4 := Lib.hid (B3.out.trans (b4.mono B3.out.size))
      clear b4
      go_wp2_with fail
      refine (HZ.out _).mono ?_
      rintro e w5 ⟨rfl, b5⟩
      have B5 := Lib.hid (B4.out.trans (b5.mono B4.out.size))
      clear b5
      go_wp2_with fail
      refine (HB.out _).mono ?_
      rintro e w6 ⟨rfl, rfl⟩
      go_wp2_with fail
      refine (HN.out _).mono ?_
      rintro e w6 ⟨rfl, rfl⟩
      go_wp2_with fail
      refine (HL.out _).mono ?_
      rintro e w6 ⟨rfl, rfl⟩
      go_wp2
      go_ret
      exact ⟨rfl, B5.out⟩
    · by_cases hn : n < 0
      · have h7 : (0 ≤ n) = False := by apply eq_false; omega
        clear hc
        go_enter Try.func3, Try.ntmps3
        go_wp2_with fail
        refine (HA.out _).mono ?_
        rintro e w1 ⟨rfl, b1⟩
        have B1 := Lib.hid b1
        clear b1
        go_wp2_with fail
        refine (HP.out _).mono ?_
        rintro e w2 ⟨rfl, b2⟩
        have B2 := Lib.hid (B1.out.trans (b2.mono B1.out.size))
        clear b2
        go_wp2_with fail
        refine (HG.out _).mono ?_
        rintro e w3 ⟨rfl, b3⟩
        have B3 := Lib.hid (B2.out.trans (b3.mono B2.out.size))
        clear b3
        go_wp2_with fail
        refine (HY.out _).mono ?_
        rintro e w4 ⟨rfl, b4⟩
        have B4 := Lib.hid (B3.out.trans (b4.mono B3.out.size))
        clear b4
        go_wp2_with fail
        refine (HZ.out _).mono ?_
        rintro e w5 ⟨rfl, b5⟩
        have B5 := Lib.hid (B4.out.trans (b5.mono B4.out.size))
        clear b5
        go_wp2_with fail
        refine (HB.out _).mono ?_
        rintro e w6 ⟨rfl, rfl⟩
        go_wp2_with fail
        refine (HN.out _).mono ?_
        rintro e w6 ⟨rfl, rfl⟩
        go_wp2_with fail
        refine (HL.out _).mono ?_
        rintro e w6 ⟨rfl, rfl⟩
        go_wp2
        go_ret
        exact ⟨rfl, B5.out⟩
      · have h7 : (0 ≤ n) = True := by apply eq_true; omega
        have h8 : (n ≤ 1000000) = False := by apply eq_false; omega
        clear hc
        go_enter Try.func3, Try.ntmps3
        go_wp2_with fail
        refine (HA.out _).mono ?_
        rintro e w1 ⟨rfl, b1⟩
        have B1 := Lib.hid b1
        clear b1
        go_wp2_with fail
        refine (HP.out _).mono ?_
        rintro e w2 ⟨rfl, b2⟩
        have B2 := Lib.hid (B1.out.trans (b2.mono B1.out.size))
        clear b2
        go_wp2_with fail
        refine (HG.out _).mono ?_
        rintro e w3 ⟨rfl, b3⟩
        have B3 := Lib.hid (B2.out.trans (b3.mono B2.out.size))
        clear b3
        go_wp2_with fail
        refine (HY.out _).mono ?_
        rintro e w4 ⟨rfl, b4⟩
        have B4 := Lib.hid (B3.out.trans (b4.mono B3.out.size))
        clear b4
        go_wp2_with fail
        refine (HZ.out _).mono ?_
        rintro e w5 ⟨rfl, b5⟩
        have B5 := Lib.hid (B4.out.trans (b5.mono B4.out.size))
        clear b5
        go_wp2_with fail
        refine (HB.out _).mono ?_
        rintro e w6 ⟨rfl, rfl⟩
        go_wp2_with fail
        refine (HN.out _).mono ?_
        rintro e w6 ⟨rfl, rfl⟩
        go_wp2_with fail
        refine (HL.out _).mono ?_
        rintro e w6 ⟨rfl, rfl⟩
        go_wp2
        go_ret
        exact ⟨rfl, B5.out⟩
  unfold lenS at main
  split at main
  · rename_i hq
    exact main 0 rfl (.inr ⟨rfl, hq⟩)
  · rename_i hq
    exact main _ rfl (.inl ⟨by omega, by omega, rfl⟩)
end Go.Proofs.Ytbnlcacjldnnjaa
