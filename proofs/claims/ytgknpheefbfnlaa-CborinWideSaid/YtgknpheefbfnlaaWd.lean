/-
  LAW of chapter 13: CborinWide, four bytes.
-/
import Derived.Test.YtgknpheefbfnlaaWa
/-
  CborinWide, where a number is told in 4 bytes (written by tools/mkwide.py).
-/
namespace Go.Proofs.Ytgknpheefbfnlaa
open Go.RowKit
open Go.Lib
set_option maxRecDepth 100000 in
set_option maxHeartbeats 8000000 in
theorem cwide_2f (H : CinAll) (v : Nat) (n : Int) (w : World) (hv : v < 4294967296) (hn : (wrap64 (n.tmod 4 + 4)).tmod 4 = 2) :
    Calls Try.prog 12 #[.agg #[.bool false, .int .u64 v], .int .i64 n] w fun r w' => r = .returned (.bool true) ∧ Below w.heap.size w w' := by
  have HA := Lib.hid (fun W => calive_any H W)
  have X0 : HasW false v (w.alloc (.cells #[.bool false, .int .u64 v] 61)) w.heap.size := heap_alloc_new w _
  have c0 := X0.c0
  have c1 := X0.c1
  have HX0 := Lib.hid X0
  clear X0
  have hz : ((4294967296 : Int) ≤ (v : Int)) = False := by simp; omega
  have hw8 : IntKind.u64.wrap 32 = 32 := by decide
  have hw256 : IntKind.u64.wrap 4294967296 = 4294967296 := by decide
  go_enter Try.func12, Try.ntmps12
  go_wp2_with fail
  go_region_with ((go_at_call 13); (with_reducible refine (HA.out _).mono ?_); (rintro e w1 ⟨rfl, b1⟩))
  have HX1 := Lib.hid (HX0.out.goD b1)
  have B1 := Lib.hid (ends0 b1)
  have d0 := HX1.out.c0
  have d1 := HX1.out.c1
  have hl1 := HX1.out.lt
  clear b1 c0 c1 hz hw8 hw256
  have hc : (26 : Int) = (((UInt8.ofNat 26).toNat : Nat) : Int) := by decide
  have hcv := fun W => ho_new W (UInt8.ofNat 26) 26 hc
  have hcd := ho_drew w1 (UInt8.ofNat 26) 26 hc
  have HO := Lib.hid (fun (W W2 : World) hb => ho_old (w := W) (w2 := W2) (UInt8.ofNat 26) 26 hc hb)
  have HB := Lib.hid (fun W => rbig_n v 4 4 rfl (by omega) (by omega) (by omega) _ rfl W)
  have hall : allCi 1 (UInt8.ofNat 26 :: bigB 4 v) = ([evIntC false v], 0) := wide_all false v 2 (by omega) (by simpa using hv)
  have hJ : ∀ W, Calls Try.prog 14 #[.string ⟨(UInt8.ofNat 26 :: bigB 4 v).toArray⟩, .int .i64 1] W fun r w' => ∃ u, r = .returned (.tuple #[u, .int .i64 (allCi 1 (UInt8.ofNat 26 :: bigB 4 v)).2]) ∧ Made W w' u (allCi 1 (UInt8.ofNat 26 :: bigB 4 v)).1.length (allCi 1 (UInt8.ofNat 26 :: bigB 4 v)).1 := fun W => H (UInt8.ofNat 26 :: bigB 4 v) 1 (by omega) (by simp [bigB_length]) W
  have e : (⟨(UInt8.ofNat 26 :: bigB 4 v).toArray⟩ : ByteArray) = (⟨#[UInt8.ofNat 26]⟩ : ByteArray) ++ ⟨(bigB 4 v).toArray⟩ := by
    rw [show (⟨#[UInt8.ofNat 26]⟩ : ByteArray) = ⟨[UInt8.ofNat 26].toArray⟩ from rfl, ba_append]
    rfl
  rw [hall, e] at hJ
  simp only at hJ
  have HJ := Lib.hid hJ
  have s2 : (⟨(bigB 4 v).toArray⟩ : ByteArray).size = 4 := by rw [ba_size, bigB_length]
  have s1 : (⟨#[UInt8.ofNat 26]⟩ : ByteArray).size = 1 := rfl
  clear hJ hall e
  generalize (⟨#[UInt8.ofNat 26]⟩ : ByteArray) = X at *
  generalize (⟨(bigB 4 v).toArray⟩ : ByteArray) = Y at *
  have hsum : (9223372036854775807 < X.size + Y.size) = False := by simp only [eq_iff_iff, iff_false]; omega
  have hwr : IntKind.u8.wrap 26 = 26 := by decide
  have hwr2 : IntKind.u8.wrap 26 = 26 := by decide
  have hwr3 : IntKind.i64.wrap 4 = 4 := by decide
  clear hc s1 s2
  go_wp2_with fail
  go_cut [7, 8] (fun u7 s8 wx => s8 = .int .i64 0 ∧ ∃ g off cap, u7 = .slice (some ⟨g, off, none⟩) 1 cap ∧ Hid (WTail false v w wx g off))
  case first =>
    go_region_with
      (first
      | ((go_at_call 26); (with_reducible refine (HB.out _).mono ?_); (rintro e w2 ⟨rfl, b2⟩)
         (first | (have hcx := HO.out w1 w2 b2) | skip)
         (have HX2 : Hid (HasW false v w2 w.heap.size) := Lib.hid (by first | exact HX1.out.goD b2 | exact (HX1.out.alloc _).goD b2))
         (have f0 := HX2.out.c0); (have f1 := HX2.out.c1); (have hl2 := HX2.out.lt)
         (have B2 : Hid (Below w.heap.size w w2) := Lib.hid (by first | exact up_trans B1.out (ends0d b2) | exact up_trans B1.out (ends1 b2))))
      | ((go_at_call 14); (with_reducible refine (HJ.out _).mono ?_); (rintro r w3 ⟨u, rfl, hM⟩)
         (obtain ⟨g, off, cap, rfl, hT⟩ : ∃ g off cap, u = .slice (some ⟨g, off, none⟩) 1 cap ∧ WTail false v w w3 g off := by first | exact wtail_of B2.out HX2.out hM | exact wtail_of (up_alloc B2.out _) (HX2.out.alloc _) hM)
         (have HT := Lib.hid hT)
         (clear hM hT)))
    all_goals
      go_wp2_with fail
      go_meet
      exact ⟨by rfl, _, _, _, rfl, HT⟩
  case rest =>
    obtain ⟨rfl, g, off, cap, rfl, HT⟩ := hcut
    have p0 := HT.out.x.c0
    have p1 := HT.out.x.c1
    have l0 := HT.out.l0
    have l1 := HT.out.l1
    have l2 := HT.out.l2
    have l3 := HT.out.l3
    have l4 := HT.out.l4
    have q := fun W => ev_eql (evIntC false v) (evIntC false v) W
    rw [sameE_refl] at q
    simp only [evV, evIntC] at q
    clear HX1 d0 d1 hcv hcd HO HB HJ hsum hwr hwr2 hwr3
    go_wp2
    go_quiet (fail)
    go_wp2
    go_ret
    exact ⟨rfl, below_drN HT.out.b _⟩
set_option maxRecDepth 100000 in
set_option maxHeartbeats 8000000 in
theorem cwide_2t (H : CinAll) (v : Nat) (n : Int) (w : World) (hv : v < 4294967296) (hn : (wrap64 (n.tmod 4 + 4)).tmod 4 = 2) :
    Calls Try.prog 12 #[.agg #[.bool true, .int .u64 v], .int .i64 n] w fun r w' => r = .returned (.bool true) ∧ Below w.heap.size w w' := by
  have HA := Lib.hid (fun W => calive_any H W)
  have X0 : HasW true v (w.alloc (.cells #[.bool true, .int .u64 v] 61)) w.heap.size := heap_alloc_new w _
  have c0 := X0.c0
  have c1 := X0.c1
  have HX0 := Lib.hid X0
  clear X0
  have hz : ((4294967296 : Int) ≤ (v : Int)) = False := by simp; omega
  have hw8 : IntKind.u64.wrap 32 = 32 := by decide
  have hw256 : IntKind.u64.wrap 4294967296 = 4294967296 := by decide
  go_enter Try.func12, Try.ntmps12
  go_wp2_with fail
  go_region_with ((go_at_call 13); (with_reducible refine (HA.out _).mono ?_); (rintro e w1 ⟨rfl, b1⟩))
  have HX1 := Lib.hid (HX0.out.goD b1)
  have B1 := Lib.hid (ends0 b1)
  have d0 := HX1.out.c0
  have d1 := HX1.out.c1
  have hl1 := HX1.out.lt
  clear b1 c0 c1 hz hw8 hw256
  have hc : (58 : Int) = (((UInt8.ofNat 58).toNat : Nat) : Int) := by decide
  have hcv := fun W => ho_new W (UInt8.ofNat 58) 58 hc
  have hcd := ho_drew w1 (UInt8.ofNat 58) 58 hc
  have HO := Lib.hid (fun (W W2 : World) hb => ho_old (w := W) (w2 := W2) (UInt8.ofNat 58) 58 hc hb)
  have HB := Lib.hid (fun W => rbig_n v 4 4 rfl (by omega) (by omega) (by omega) _ rfl W)
  have hall : allCi 1 (UInt8.ofNat 58 :: bigB 4 v) = ([evIntC true v], 0) := wide_all true v 2 (by omega) (by simpa using hv)
  have hJ : ∀ W, Calls Try.prog 14 #[.string ⟨(UInt8.ofNat 58 :: bigB 4 v).toArray⟩, .int .i64 1] W fun r w' => ∃ u, r = .returned (.tuple #[u, .int .i64 (allCi 1 (UInt8.ofNat 58 :: bigB 4 v)).2]) ∧ Made W w' u (allCi 1 (UInt8.ofNat 58 :: bigB 4 v)).1.length (allCi 1 (UInt8.ofNat 58 :: bigB 4 v)).1 := fun W => H (UInt8.ofNat 58 :: bigB 4 v) 1 (by omega) (by simp [bigB_length]) W
  have e : (⟨(UInt8.ofNat 58 :: bigB 4 v).toArray⟩ : ByteArray) = (⟨#[UInt8.ofNat 58]⟩ : ByteArray) ++ ⟨(bigB 4 v).toArray⟩ := by
    rw [show (⟨#[UInt8.ofNat 58]⟩ : ByteArray) = ⟨[UInt8.ofNat 58].toArray⟩ from rfl, ba_append]
    rfl
  rw [hall, e] at hJ
  simp only at hJ
  have HJ := Lib.hid hJ
  have s2 : (⟨(bigB 4 v).toArray⟩ : ByteArray).size = 4 := by rw [ba_size, bigB_length]
  have s1 : (⟨#[UInt8.ofNat 58]⟩ : ByteArray).size = 1 := rfl
  clear hJ hall e
  generalize (⟨#[UInt8.ofNat 58]⟩ : ByteArray) = X at *
  generalize (⟨(bigB 4 v).toArray⟩ : ByteArray) = Y at *
  have hsum : (9223372036854775807 < X.size + Y.size) = False := by simp only [eq_iff_iff, iff_false]; omega
  have hwr : IntKind.u8.wrap 26 = 26 := by decide
  have hwr2 : IntKind.u8.wrap 58 = 58 := by decide
  have hwr3 : IntKind.i64.wrap 4 = 4 := by decide
  clear hc s1 s2
  go_wp2_with fail
  go_cut [7, 8] (fun u7 s8 wx => s8 = .int .i64 0 ∧ ∃ g off cap, u7 = .slice (some ⟨g, off, none⟩) 1 cap ∧ Hid (WTail true v w wx g off))
  case first =>
    go_region_with
      (first
      | ((go_at_call 26); (with_reducible refine (HB.out _).mono ?_); (rintro e w2 ⟨rfl, b2⟩)
         (first | (have hcx := HO.out w1 w2 b2) | skip)
         (have HX2 : Hid (HasW true v w2 w.heap.size) := Lib.hid (by first | exact HX1.out.goD b2 | exact (HX1.out.alloc _).goD b2))
         (have f0 := HX2.out.c0); (have f1 := HX2.out.c1); (have hl2 := HX2.out.lt)
         (have B2 : Hid (Below w.heap.size w w2) := Lib.hid (by first | exact up_trans B1.out (ends0d b2) | exact up_trans B1.out (ends1 b2))))
      | ((go_at_call 14); (with_reducible refine (HJ.out _).mono ?_); (rintro r w3 ⟨u, rfl, hM⟩)
         (obtain ⟨g, off, cap, rfl, hT⟩ : ∃ g off cap, u = .slice (some ⟨g, off, none⟩) 1 cap ∧ WTail true v w w3 g off := by first | exact wtail_of B2.out HX2.out hM | exact wtail_of (up_alloc B2.out _) (HX2.out.alloc _) hM)
         (have HT := Lib.hid hT)
         (clear hM hT)))
    all_goals
      go_wp2_with fail
      go_meet
      exact ⟨by rfl, _, _, _, rfl, HT⟩
  case rest =>
    obtain ⟨rfl, g, off, cap, rfl, HT⟩ := hcut
    have p0 := HT.out.x.c0
    have p1 := HT.out.x.c1
    have l0 := HT.out.l0
    have l1 := HT.out.l1
    have l2 := HT.out.l2
    have l3 := HT.out.l3
    have l4 := HT.out.l4
    have q := fun W => ev_eql (evIntC true v) (evIntC true v) W
    rw [sameE_refl] at q
    simp only [evV, evIntC] at q
    clear HX1 d0 d1 hcv hcd HO HB HJ hsum hwr hwr2 hwr3
    go_wp2
    go_quiet (fail)
    go_wp2
    go_ret
    exact ⟨rfl, below_drN HT.out.b _⟩
set_option maxRecDepth 100000 in
set_option maxHeartbeats 8000000 in
theorem cwide_out2 (H : CinAll) (y : Bool) (v : Nat) (n : Int) (w : World) (hv : ¬ v < 4294967296) (hn : (wrap64 (n.tmod 4 + 4)).tmod 4 = 2) :
    Calls Try.prog 12 #[.agg #[.bool y, .int .u64 v], .int .i64 n] w fun r w' => r = .returned (.bool true) ∧ Below w.heap.size w w' := by
  have HA := Lib.hid (fun W => calive_any H W)
  have X0 : HasW y v (w.alloc (.cells #[.bool y, .int .u64 v] 61)) w.heap.size := heap_alloc_new w _
  have c0 := X0.c0
  have c1 := X0.c1
  clear X0
  have hz : ((4294967296 : Int) ≤ (v : Int)) = True := by simp; omega
  have hw8 : IntKind.u64.wrap 32 = 32 := by decide
  have hw256 : IntKind.u64.wrap 4294967296 = 4294967296 := by decide
  go_enter Try.func12, Try.ntmps12
  go_wp2_with fail
  go_region_with (fail)
  go_wp2_with fail
  refine (HA.out _).mono ?_
  rintro r w1 ⟨rfl, b1⟩
  have B1 := Lib.hid (ends0 b1)
  clear b1
  go_wp2
  go_ret
  exact ⟨rfl, B1.out⟩
end Go.Proofs.Ytgknpheefbfnlaa
