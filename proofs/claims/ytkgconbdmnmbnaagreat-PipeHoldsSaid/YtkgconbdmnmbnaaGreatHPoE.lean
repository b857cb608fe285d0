/-
  CONTRACTS of package packout, part E: the bytes of a part: b
-/
import Derived.Test.YtkgconbdmnmbnaaGreatHPoD
set_option maxRecDepth 100000
set_option maxHeartbeats 16000000
open Go.Lib (hid)
namespace Go.Proofs.YtkgconbdmnmbnaaGreat
section
open Go.RowKit
open Go.Lib
theorem xor_max (m : Nat) (hm : m < 18446744073709551616) : bits BinOp.xor IntKind.u64 IntKind.u64.max (m : Int) = ((18446744073709551615 - m : Nat) : Int) := by
  have e1 : BitVec.ofInt 64 IntKind.u64.max = BitVec.allOnes 64 := by decide
  have e2 : (BitVec.ofInt 64 (m : Int)).toNat = m := by
    rw [BitVec.toNat_ofInt]; omega
  show IntKind.u64.wrap ((BitVec.ofInt 64 IntKind.u64.max ^^^ BitVec.ofInt 64 (m : Int)).toNat : Nat) = _; rw [e1, BitVec.allOnes_xor, BitVec.toNat_not, e2, IntKind.wrap_u64]; omega
theorem rlong_any (f0 a v : Nat) (hf : f0 ≤ 300) (ha : a ≤ 1) (hv : v < 4294967296) (fa na : Int) (hfa : fa = ((f0 + a : Nat) : Int)) (hna : na = ((2 ^ a : Nat) : Int)) (T : ByteArray)
    (hT : T = ⟨(if a = 0 ∧ v < 256 then UInt8.ofNat f0 :: bigB 1 v else if v < 65536 then UInt8.ofNat (f0 + 1) :: bigB 2 v else UInt8.ofNat (f0 + 2) :: bigB 4 v).toArray⟩) (w : World) :
    Calls Tryz.prog 287 #[.int .u64 fa, .int .i64 na, .int .u64 v, .int .i64 (Lib.bitLen v)] w fun e w' => e = .returned (.string T) ∧ Below w.heap.size w w' := by
  subst hT; have l8 := bitLen_le v 8 (by omega); have l16 := bitLen_le v 16 (by omega); have l32 := bitLen_le v 32 (by omega); by_cases h1 : a = 0 ∧ v < 256
  · rw [if_pos h1]
    obtain ⟨rfl, h⟩ := h1; exact rbehind f0 0 0 v _ hf (by omega) (by omega) (fun i _ hi => by omega) (by have := l8.2 (by omega); omega) fa hfa na hna w
  · rw [if_neg h1]
    by_cases h2 : v < 65536
    · rw [if_pos h2]
      refine rbehind f0 a 1 v _ hf ha (by omega) (fun i hi hk => ?_) (by have := l16.2 (by omega); omega) fa hfa na hna w; obtain rfl : i = 0 := by omega
      have : ¬ Lib.bitLen v ≤ 8 := fun h => by have := l8.1 h; omega
      omega
    · rw [if_neg h2]
      refine rbehind f0 a 2 v _ hf (by omega) (by omega) (fun i hi hk => ?_) (by have := l32.2 (by omega); omega) fa hfa na hna w; have h16 : ¬ Lib.bitLen v ≤ 16 := fun h => by have := l16.1 h; omega
      have hd : i = 0 ∨ i = 1 := by omega
      rcases hd with rfl | rfl <;> omega
theorem rnum_any (v : Nat) (hv : v < 18446744073709551616) (h0 : 128 ≤ v) (w : World) :
    Calls Tryz.prog 287 #[.int .u64 204, .int .i64 1, .int .u64 v, .int .i64 (Lib.bitLen v)] w fun e w' => e = .returned (.string ⟨(intPk false v).toArray⟩) ∧ Below w.heap.size w w' := by
  have l8 := bitLen_le v 8 hv; have l16 := bitLen_le v 16 hv; have l32 := bitLen_le v 32 hv; have l64 := bitLen_le v 64 hv; unfold intPk; rw [if_pos rfl, if_neg (by omega)]; by_cases h1 : v < 256
  · rw [if_pos h1]
    exact rbehind 204 0 0 v _ (by omega) (by omega) (by omega) (fun i _ hi => by omega) (by have := l8.2 (by omega); omega) _ rfl _ rfl w
  · rw [if_neg h1]
    have n8 : ¬ Lib.bitLen v ≤ 8 := fun h => by have := l8.1 h; omega
    by_cases h2 : v < 65536
    · rw [if_pos h2]
      refine rbehind 204 0 1 v _ (by omega) (by omega) (by omega) (fun i _ hi => ?_) (by have := l16.2 (by omega); omega) _ rfl _ rfl w; obtain rfl : i = 0 := by omega
      omega
    · rw [if_neg h2]
      have n16 : ¬ Lib.bitLen v ≤ 16 := fun h => by have := l16.1 h; omega
      by_cases h3 : v < 4294967296
      · rw [if_pos h3]
        refine rbehind 204 0 2 v _ (by omega) (by omega) (by omega) (fun i _ hi => ?_) (by have := l32.2 (by omega); omega) _ rfl _ rfl w; have hd : i = 0 ∨ i = 1 := by omega
        rcases hd with rfl | rfl <;> omega
      · rw [if_neg h3]
        have n32 : ¬ Lib.bitLen v ≤ 32 := fun h => by have := l32.1 h; omega
        refine rbehind 204 0 3 v _ (by omega) (by omega) (by omega) (fun i _ hi => ?_) (by have := l64.2 (by omega); omega) _ rfl _ rfl w; have hd : i = 0 ∨ i = 1 ∨ i = 2 := by omega
        rcases hd with rfl | rfl | rfl <;> omega
theorem rneg_any (v : Nat) (hv : v < 9223372036854775808) (h0 : 32 ≤ v) (u : Nat) (hu : u = 18446744073709551615 - v) (need : Int) (hn : need = ((Lib.bitLen v + 1 : Nat) : Int)) (w : World) :
    Calls Tryz.prog 287 #[.int .u64 208, .int .i64 1, .int .u64 u, .int .i64 need] w fun e w' => e = .returned (.string ⟨(intPk true v).toArray⟩) ∧ Below w.heap.size w w' := by
  subst hn hu; have l7 := bitLen_le v 7 (by omega); have l15 := bitLen_le v 15 (by omega); have l31 := bitLen_le v 31 (by omega); have l63 := bitLen_le v 63 (by omega); unfold intPk; rw [if_neg (by decide), if_neg (by omega)]; by_cases h1 : v < 128
  · rw [if_pos h1]
    exact rbehind 208 0 0 _ _ (by omega) (by omega) (by omega) (fun i _ hi => by omega) (by have := l7.2 (by omega); omega) _ rfl _ rfl w
  · rw [if_neg h1]
    have n8 : ¬ Lib.bitLen v ≤ 7 := fun h => by have := l7.1 h; omega
    by_cases h2 : v < 32768
    · rw [if_pos h2]
      refine rbehind 208 0 1 _ _ (by omega) (by omega) (by omega) (fun i _ hi => ?_) (by have := l15.2 (by omega); omega) _ rfl _ rfl w; obtain rfl : i = 0 := by omega
      omega
    · rw [if_neg h2]
      have n16 : ¬ Lib.bitLen v ≤ 15 := fun h => by have := l15.1 h; omega
      by_cases h3 : v < 2147483648
      · rw [if_pos h3]
        refine rbehind 208 0 2 _ _ (by omega) (by omega) (by omega) (fun i _ hi => ?_) (by have := l31.2 (by omega); omega) _ rfl _ rfl w; have hd : i = 0 ∨ i = 1 := by omega
        rcases hd with rfl | rfl <;> omega
      · rw [if_neg h3]
        have n32 : ¬ Lib.bitLen v ≤ 31 := fun h => by have := l31.1 h; omega
        refine rbehind 208 0 3 _ _ (by omega) (by omega) (by omega) (fun i _ hi => ?_) (by have := l63.2 (by omega); omega) _ rfl _ rfl w; have hd : i = 0 ∨ i = 1 ∨ i = 2 := by omega
        rcases hd with rfl | rfl | rfl <;> omega
theorem poBs_len (a b c v : Nat) : (lenBs a b c v).length ≤ 5 := by
  unfold lenBs; split
  · simp [bigB_length]
  · split <;> simp [bigB_length]
theorem txPk_len (m : Bool) (v : Nat) : (txPk m v).length ≤ 9 := by
  unfold txPk; have h1 := poBs_len 217 218 219 v; have h2 := poBs_len 196 197 198 v; split
  · split
    · simp
    · omega
  · omega
theorem rput_whole (v : Nat) (hv : v < 18446744073709551616) (w : World) :
    Calls Tryz.prog 280 #[.agg #[.int .u64 0, .int .u64 128, .int .u64 204, .int .i64 1], .int .u64 v] w fun e w' => e = .returned (.string ⟨(intPk false v).toArray⟩) ∧ Below w.heap.size w w' := by
  by_cases h : v < 128
  · unfold intPk
    rw [if_pos rfl, if_pos h]; exact rput_short 0 128 204 1 v (by omega) (by omega) (by omega) v (by omega) w
  · exact rput_long 0 128 204 1 v _ hv (by omega) rfl _ (fun W => rnum_any v hv (by omega) W) w
theorem rput_text (m : Bool) (v : Nat) (hv : v < 4294967296) (S B L N : Int) (h : (S, B, L, N) = if m = true then ((160 : Int), (32 : Int), (217 : Int), (1 : Int)) else (0, 0, 196, 1)) (w : World) :
    Calls Tryz.prog 280 #[.agg #[.int .u64 S, .int .u64 B, .int .u64 L, .int .i64 N], .int .u64 v] w fun e w' => e = .returned (.string ⟨(txPk m v).toArray⟩) ∧ Below w.heap.size w w' := by
  cases m
  · cases h
    refine rput_long 0 0 196 1 v _ (by omega) (by omega) rfl _ (fun W => rlong_any 196 0 v (by omega) (by omega) hv 196 1 rfl rfl _ ?_ W) w; unfold txPk lenBs; simp
  · cases h
    by_cases hs : v < 32
    · unfold txPk
      rw [if_pos rfl, if_pos hs]; exact rput_short 160 32 217 1 v (by omega) (by omega) (by omega) (160 + v) (by omega) w
    · refine rput_long 160 32 217 1 v _ (by omega) (by omega) rfl _ (fun W => rlong_any 217 0 v (by omega) (by omega) hv 217 1 rfl rfl _ ?_ W) w
      unfold txPk lenBs; rw [if_pos rfl, if_neg hs]; simp
theorem rput_count (m : Bool) (v : Nat) (hv : v < 4294967296) (S B L N : Int) (h : (S, B, L, N) = if m = true then ((128 : Int), (16 : Int), (222 : Int), (2 : Int)) else (144, 16, 220, 2)) (w : World) :
    Calls Tryz.prog 280 #[.agg #[.int .u64 S, .int .u64 B, .int .u64 L, .int .i64 N], .int .u64 v] w fun e w' => e = .returned (.string ⟨(cntPk m v).toArray⟩) ∧ Below w.heap.size w w' := by
  cases m
  · cases h
    by_cases hs : v < 16
    · unfold cntPk
      rw [if_neg (by decide), if_pos hs]; exact rput_short 144 16 220 2 v (by omega) (by omega) (by omega) (144 + v) (by omega) w
    · refine rput_long 144 16 220 2 v _ (by omega) (by omega) rfl _ (fun W => rlong_any 219 1 v (by omega) (by omega) hv 220 2 rfl rfl _ ?_ W) w
      unfold cntPk lenBs; rw [if_neg (by decide), if_neg hs]; simp
  · cases h
    by_cases hs : v < 16
    · unfold cntPk
      rw [if_pos rfl, if_pos hs]; exact rput_short 128 16 222 2 v (by omega) (by omega) (by omega) (128 + v) (by omega) w
    · refine rput_long 128 16 222 2 v _ (by omega) (by omega) rfl _ (fun W => rlong_any 221 1 v (by omega) (by omega) hv 222 2 rfl rfl _ ?_ W) w
      unfold cntPk lenBs; rw [if_pos rfl, if_neg hs]; simp
theorem rbool_of (y : Bool) (w : World) : Calls Tryz.prog 282 #[.bool y] w fun r w' => r = .returned (.string ⟨#[if y = true then 195 else 194]⟩) ∧ w = w' := by
  cases y
  all_goals
    go_enter Tryz.func282, Tryz.ntmps282; go_wp2; go_ret; exact ⟨rfl, rfl⟩
theorem rwholeo_pos (m : Nat) (hm : m < 18446744073709551616) (w : World) : Calls Tryz.prog 283 #[.agg #[.bool false, .int .u64 m]] w fun r w' => r = .returned (.string ⟨(intPk false m).toArray⟩) ∧ Below w.heap.size w w' := by
  have HS := hid (fun W => rwholes_any W); have HP := hid (fun W => rput_whole m hm W); generalize (⟨(intPk false m).toArray⟩ : ByteArray) = Z at *
  have EB : Hid (∀ W, Below (w.alloc (.cells #[.bool false, .int .u64 m] 123)).heap.size (w.alloc (.cells #[.bool false, .int .u64 m] 123)) W → W.cell? ⟨w.heap.size, 1, none⟩ = some (.int .u64 m) ∧ Below w.heap.size w W) := hid (fun W k => by
    have hb := (blk_new w #[.bool false, .int .u64 m] 123).go k; exact ⟨hb.cell 1, up_trans (up_alloc (Below.refl _ _) _) k⟩)
  have x1 := (EB.out _ (Below.refl _ _)).1; go_enter Tryz.func283, Tryz.ntmps283; (go_wp2_with fail)
  go_region_with (first
    | (go_at_call 288; refine (HS.out _).mono ?_; rintro r w1 ⟨rfl, b1⟩; obtain ⟨y1, y2⟩ := EB.out _ (⟨b1.os, b1.tape, b1.output, b1.size, b1.block⟩); have B1 := hid y2; clear b1 y2)
    | (go_at_call 280; refine (HP.out _).mono ?_; rintro r w2 ⟨rfl, b2⟩))
  all_goals
    have B2 := hid (up_trans B1.out b2); clear b2; go_wp2; go_ret; exact ⟨rfl, B2.out⟩
theorem rwholeo_short (m : Nat) (hm : m < 32) (w : World) : Calls Tryz.prog 283 #[.agg #[.bool true, .int .u64 m]] w fun r w' => r = .returned (.string ⟨(intPk true m).toArray⟩) ∧ Below w.heap.size w w' := by
  have HO := hid (fun W => rone_byte (18446744073709551615 - m) ⟨(intPk true m).toArray⟩ (by
    unfold intPk; rw [if_neg (by decide), if_pos hm]; show _ = (⟨#[_]⟩ : ByteArray)
    rw [show UInt8.ofNat (18446744073709551615 - m) = UInt8.ofNat (255 - m) by
      apply UInt8.toNat.inj; simp only [UInt8.toNat_ofNat']; omega]) W)
  have hx := xor_max m (by omega); generalize (⟨(intPk true m).toArray⟩ : ByteArray) = Z at *
  generalize (18446744073709551615 - m) = u at *
  have hz : ((m : Int) < 32) = True := by simp only [eq_iff_iff, iff_true]; omega
  clear hm; go_enter Tryz.func283, Tryz.ntmps283; (go_wp2_with fail); refine (HO.out _).mono ?_; rintro r w1 ⟨rfl, b1⟩; have B1 := hid (up_trans (up_alloc (Below.refl _ _) _) b1); clear b1; go_wp2; go_ret; exact ⟨rfl, B1.out⟩
theorem rwholeo_long (m : Nat) (h0 : 32 ≤ m) (hm : m < 9223372036854775808) (w : World) : Calls Tryz.prog 283 #[.agg #[.bool true, .int .u64 m]] w fun r w' => r = .returned (.string ⟨(intPk true m).toArray⟩) ∧ Below w.heap.size w w' := by
  have HL := hid (fun W => len64_any m (by omega) W); obtain ⟨N, hN⟩ : ∃ N : Int, N = ((Lib.bitLen m + 1 : Nat) : Int) := ⟨_, rfl⟩
  have HB := hid (fun W => rneg_any m hm h0 _ rfl N hN W); have hl : Lib.bitLen m ≤ 64 := (bitLen_le m 64 (by omega)).2 (by omega); have hx := xor_max m (by omega); generalize (⟨(intPk true m).toArray⟩ : ByteArray) = Z at *
  generalize (18446744073709551615 - m) = u at *
  generalize Lib.bitLen m = L at *
  have hz : ((m : Int) < 32) = False := by simp only [eq_iff_iff, iff_false]; omega
  have hsg : IntKind.u64.signed = false := rfl; have hw : IntKind.i64.wrap (1 + (L : Int)) = N := by simp only [IntKind.wrap_i64]; omega
  have hb0 := blk_new w #[.bool true, .int .u64 m] 123; have x1 := hb0.cell 1; have B0 := hid (up_alloc (Below.refl w.heap.size w) (.cells #[.bool true, .int .u64 m] 123)); clear hm h0 hl hb0 hN; go_enter Tryz.func283, Tryz.ntmps283; (go_wp2_with fail)
  go_region_with (first
    | (go_at_call 235; refine (HL.out _).mono ?_; rintro r w1 ⟨rfl, rfl⟩)
    | (go_at_call 287; refine (HB.out _).mono ?_; rintro r w2 ⟨rfl, b2⟩))
  all_goals
    have B2 := hid (up_trans (below_drw B0.out) b2); clear b2; go_wp2; go_ret; exact ⟨rfl, B2.out⟩
theorem rwhole_of (y : Bool) (m : Nat) (hm : m < 18446744073709551616) (hy : y = true → m < 9223372036854775808) (w : World) : Calls Tryz.prog 283 #[.agg #[.bool y, .int .u64 m]] w fun r w' => r = .returned (.string ⟨(intPk y m).toArray⟩) ∧ Below w.heap.size w w' := by
  cases y
  · exact rwholeo_pos m hm w
  · by_cases h : m < 32
    · exact rwholeo_short m h w
    · exact rwholeo_long m (by omega) (hy rfl) w
theorem rbegin_f (c : Nat) (hc : c < 4294967296) (w : World) : Calls Tryz.prog 277 #[.agg #[.bool false, .int .i64 (c : Int)]] w fun r w' => r = .returned (.string ⟨(cntPk false c).toArray⟩) ∧ Below w.heap.size w w' := by
  have HS := hid (fun W => rarrays_any W); have HP := hid (fun W => rput_count false c hc _ _ _ _ rfl W); generalize (⟨(cntPk false c).toArray⟩ : ByteArray) = Z at *
  have hw : IntKind.u64.wrap (c : Int) = (c : Int) := by simp only [IntKind.wrap_u64]; omega
  have EB : Hid (∀ W, Below (w.alloc (.cells #[.bool false, .int .i64 (c : Int)] 163)).heap.size (w.alloc (.cells #[.bool false, .int .i64 (c : Int)] 163)) W → W.cell? ⟨w.heap.size, 1, none⟩ = some (.int .i64 (c : Int)) ∧ Below w.heap.size w W) := hid (fun W k => by
    have hb := (blk_new w #[.bool false, .int .i64 (c : Int)] 163).go k; exact ⟨hb.cell 1, up_trans (up_alloc (Below.refl _ _) _) k⟩)
  have x1 := (EB.out _ (Below.refl _ _)).1; clear hc; go_enter Tryz.func277, Tryz.ntmps277; (go_wp2_with fail)
  go_region_with (first
    | (go_at_call 281; refine (HS.out _).mono ?_; rintro r w1 ⟨rfl, b1⟩; obtain ⟨y1, y2⟩ := EB.out _ (⟨b1.os, b1.tape, b1.output, b1.size, b1.block⟩); have B1 := hid y2; clear b1 y2)
    | (go_at_call 280; refine (HP.out _).mono ?_; rintro r w2 ⟨rfl, b2⟩))
  all_goals
    have B2 := hid (up_trans B1.out b2); clear b2; go_wp2; go_ret; exact ⟨rfl, B2.out⟩
theorem rbegin_t (c : Nat) (hc : c < 4294967296) (w : World) : Calls Tryz.prog 277 #[.agg #[.bool true, .int .i64 (c : Int)]] w fun r w' => r = .returned (.string ⟨(cntPk true c).toArray⟩) ∧ Below w.heap.size w w' := by
  have HS := hid (fun W => rmaps_any W); have HP := hid (fun W => rput_count true c hc _ _ _ _ rfl W); generalize (⟨(cntPk true c).toArray⟩ : ByteArray) = Z at *
  have hw : IntKind.u64.wrap (c : Int) = (c : Int) := by simp only [IntKind.wrap_u64]; omega
  have EB : Hid (∀ W, Below (w.alloc (.cells #[.bool true, .int .i64 (c : Int)] 163)).heap.size (w.alloc (.cells #[.bool true, .int .i64 (c : Int)] 163)) W → W.cell? ⟨w.heap.size, 1, none⟩ = some (.int .i64 (c : Int)) ∧ Below w.heap.size w W) := hid (fun W k => by
    have hb := (blk_new w #[.bool true, .int .i64 (c : Int)] 163).go k; exact ⟨hb.cell 1, up_trans (up_alloc (Below.refl _ _) _) k⟩)
  have x1 := (EB.out _ (Below.refl _ _)).1; clear hc; go_enter Tryz.func277, Tryz.ntmps277; (go_wp2_with fail)
  go_region_with (first
    | (go_at_call 279; refine (HS.out _).mono ?_; rintro r w1 ⟨rfl, b1⟩; obtain ⟨y1, y2⟩ := EB.out _ (⟨b1.os, b1.tape, b1.output, b1.size, b1.block⟩); have B1 := hid y2; clear b1 y2)
    | (go_at_call 280; refine (HP.out _).mono ?_; rintro r w2 ⟨rfl, b2⟩))
  all_goals
    have B2 := hid (up_trans B1.out b2); clear b2; go_wp2; go_ret; exact ⟨rfl, B2.out⟩
theorem rbegin_of (m : Bool) (c : Int) (hc : 0 ≤ c ∧ c ≤ 4294967295) (w : World) : Calls Tryz.prog 277 #[.agg #[.bool m, .int .i64 c]] w fun r w' => r = .returned (.string ⟨(cntPk m c.toNat).toArray⟩) ∧ Below w.heap.size w w' := by
  obtain ⟨n, rfl⟩ : ∃ n : Nat, c = n := ⟨c.toNat, by omega⟩
  rw [Int.toNat_natCast]; cases m
  · exact rbegin_f n (by omega) w
  · exact rbegin_t n (by omega) w
theorem rvalue_of (e : Ev) (hk : e.k = 0 ∨ e.k = 1 ∨ e.k = 2 ∨ e.k = 3 ∨ e.k = 4) (hm : e.m < 18446744073709551616) (hr : ¬ rangeP e) (ht : e.t.size ≤ 100000) (w : World) :
    Calls Tryz.prog 278 #[valE e] w fun r w' => r = .returned (.string ⟨(writeP e).toArray⟩) ∧ Below w.heap.size w w' := by
  have a1 := is_bool; have a2 := is_whole; have a3 := is_word; have a4 := is_blob; have b1 := fun d h => not_bool d h
  have b2 := fun d h => not_whole d h
  have b3 := fun d h => not_word d h
  have b4 := fun d h => not_blob d h
  have hB := hid (Below.refl w.heap.size w); obtain ⟨k, y, m, t, c⟩ := e; simp only at hk hm ht; rcases hk with rfl | rfl | rfl | rfl | rfl
  · have ho : writeP ⟨0, y, m, t, c⟩ = [192] := by simp [writeP]
    rw [ho]; have p1 : ∀ W, (Instr.typeAssert .nilIface 20 4 true).run Tryz.prog W = .ok (.tuple #[.bool false, .bool false]) W := fun W => by kernel_rfl
    have p2 : ∀ W, (Instr.typeAssert .nilIface 20 123 true).run Tryz.prog W = .ok (.tuple #[.agg #[.bool false, .int .u64 0], .bool false]) W := fun W => by kernel_rfl
    have p3 : ∀ W, (Instr.typeAssert .nilIface 20 176 true).run Tryz.prog W = .ok (.tuple #[.string ⟨#[]⟩, .bool false]) W := fun W => by kernel_rfl
    have p4 : ∀ W, (Instr.typeAssert .nilIface 20 178 true).run Tryz.prog W = .ok (.tuple #[.string ⟨#[]⟩, .bool false]) W := fun W => by kernel_rfl
    clear ho hm ht hr; simp only [valE]; go_enter Tryz.func278, Tryz.ntmps278; go_wp2; go_ret; exact ⟨rfl, by repeat (first | exact Below.refl _ _ | refine up_alloc ?_ _)⟩
  · have ho : writeP ⟨1, y, m, t, c⟩ = [if y = true then 195 else 194] := by simp [writeP]
    rw [ho]; have HQ := hid (fun W => rbool_of y W); have hZ : (⟨[if y = true then (195 : UInt8) else 194].toArray⟩ : ByteArray) = ⟨#[if y = true then 195 else 194]⟩ := rfl; rw [hZ]; clear ho hm ht hZ hr; generalize (⟨#[if y = true then (195 : UInt8) else 194]⟩ : ByteArray) = Z at *
    simp only [valE]; go_enter Tryz.func278, Tryz.ntmps278; (go_wp2_with fail); refine (HQ.out _).mono ?_; rintro r w1 ⟨rfl, rfl⟩; go_wp2; go_ret; exact ⟨rfl, hB.out⟩
  · have ho : writeP ⟨2, y, m, t, c⟩ = intPk y m := by simp [writeP]
    rw [ho]; have HP := hid (fun W => rwhole_of y m hm (fun hy => by
      refine Classical.byContradiction fun h => hr (.inl ⟨rfl, hy, by show 9223372036854775808 ≤ m; omega⟩)) W)
    generalize (⟨(intPk y m).toArray⟩ : ByteArray) = Z at *
    clear ho ht hr; simp only [valE]; go_enter Tryz.func278, Tryz.ntmps278; (go_wp2_with fail); refine (HP.out _).mono ?_; rintro r w1 ⟨rfl, hb⟩; have HB1 := hid (up_trans (up_alloc hB.out _) hb); clear hb; go_wp2; go_ret; exact ⟨rfl, HB1.out⟩
  · have ho : writeP ⟨3, y, m, t, c⟩ = txPk true t.data.toList.length ++ t.data.toList := by simp [writeP]
    rw [ho]; have hl : t.data.toList.length = t.size := Array.length_toList; have HS := hid (fun W => rwords_any W); have HP := hid (fun W => rput_text true t.size (by omega) _ _ _ _ rfl W); have hcat : (⟨(txPk true t.data.toList.length ++ t.data.toList).toArray⟩ : ByteArray) = ⟨(txPk true t.size).toArray⟩ ++ t := by
      rw [hl, ← cat_of]
    have hsz : (⟨(txPk true t.size).toArray⟩ : ByteArray).size ≤ 9 := by rw [size_of]; exact txPk_len _ _
    rw [hcat]; generalize (⟨(txPk true t.size).toArray⟩ : ByteArray) = Z at *
    have z1 : ¬ 9223372036854775807 < Z.size + t.size := by omega
    have hw : IntKind.u64.wrap (t.size : Int) = (t.size : Int) := by simp only [IntKind.wrap_u64]; omega
    clear ho hl hcat hsz hm hr; simp only [valE]; go_enter Tryz.func278, Tryz.ntmps278; (go_wp2_with fail); refine (HS.out _).mono ?_; rintro r w1 ⟨rfl, hb⟩; have HB1 := hid (up_trans (up_alloc hB.out _) hb); clear hb; (go_wp2_with fail); refine (HP.out _).mono ?_; rintro r w2 ⟨rfl, hb⟩; have HB2 := hid (up_trans HB1.out hb); clear hb; go_wp2; go_ret; exact ⟨rfl, HB2.out⟩
  · have ho : writeP ⟨4, y, m, t, c⟩ = txPk false t.data.toList.length ++ t.data.toList := by simp [writeP]
    rw [ho]; have hl : t.data.toList.length = t.size := Array.length_toList; have HS := hid (fun W => rblobs_any W); have HP := hid (fun W => rput_text false t.size (by omega) _ _ _ _ rfl W); have hcat : (⟨(txPk false t.data.toList.length ++ t.data.toList).toArray⟩ : ByteArray) = ⟨(txPk false t.size).toArray⟩ ++ t := by
      rw [hl, ← cat_of]
    have hsz : (⟨(txPk false t.size).toArray⟩ : ByteArray).size ≤ 9 := by rw [size_of]; exact txPk_len _ _
    rw [hcat]; generalize (⟨(txPk false t.size).toArray⟩ : ByteArray) = Z at *
    have z1 : ¬ 9223372036854775807 < Z.size + t.size := by omega
    have hw : IntKind.u64.wrap (t.size : Int) = (t.size : Int) := by simp only [IntKind.wrap_u64]; omega
    clear ho hl hcat hsz hm hr; simp only [valE]; go_enter Tryz.func278, Tryz.ntmps278; (go_wp2_with fail); refine (HS.out _).mono ?_; rintro r w1 ⟨rfl, hb⟩; have HB1 := hid (up_trans (up_alloc hB.out _) hb); clear hb; (go_wp2_with fail); refine (HP.out _).mono ?_; rintro r w2 ⟨rfl, hb⟩; have HB2 := hid (up_trans HB1.out hb); clear hb; go_wp2; go_ret; exact ⟨rfl, HB2.out⟩
end
end Go.Proofs.YtkgconbdmnmbnaaGreat
