/-
  THE DOCUMENT'S OWN READER OF MESSAGEPACK (truchmanref1.Pack), of one whole number.
-/
import Derived.Test.YtonjdnahplphhaaHPoRe
/-
  THE DOCUMENT'S OWN READER OF MESSAGEPACK (truchmanref1.Pack), of one whole number.
-/
namespace Go.Proofs.Ytonjdnahplphhaa
open Go.RowKit
open Go.Lib
theorem and_mask (x k : Nat) (hx : x < 18446744073709551616) (hk : k ≤ 64) (M : Int) (hM : M = ((2 ^ k - 1 : Nat) : Int)) : bits BinOp.and IntKind.u64 (x : Int) M = ((x % 2 ^ k : Nat) : Int) := by
  subst hM
  have hp : 2 ^ k ≤ 2 ^ 64 := Nat.pow_le_pow_right (by decide) hk
  have hp1 : 1 ≤ 2 ^ k := Nat.pow_pos (by decide)
  have e1 : (BitVec.ofInt 64 (x : Int)).toNat = x := by rw [BitVec.toNat_ofInt]; omega
  have e2 : (BitVec.ofInt 64 ((2 ^ k - 1 : Nat) : Int)).toNat = 2 ^ k - 1 := by rw [BitVec.toNat_ofInt]; omega
  have h1 : x % 2 ^ k ≤ x := Nat.mod_le _ _
  show IntKind.u64.wrap ((BitVec.ofInt 64 (x : Int) &&& BitVec.ofInt 64 ((2 ^ k - 1 : Nat) : Int)).toNat : Nat) = _
  rw [BitVec.toNat_and, e1, e2, Nat.and_two_pow_sub_one_eq_mod, IntKind.wrap_u64]
  omega
set_option maxRecDepth 100000 in
set_option maxHeartbeats 4000000 in
theorem rd_pack_lo {w0 w : World} {p r : Nat} {S : ByteArray} {d : Nat} (b : Nat) (hb : b < 128) (h : RdAt w0 w p r S 0 d (.slice none 0 0) [] false) (hix : ∀ W, (Instr.index 9 (.string S) (.int .i64 0)).run Try.prog W = .ok (.int .u8 (b : Int)) W) :
    Calls Try.prog 37 #[.pointer (some ⟨p, 0, none⟩)] w fun e w' => e = .returned (.bool true) ∧ ∃ a c, RdAt w0 w' p r S 1 d (.slice a 1 c) [⟨2, false, b, ⟨#[]⟩, 0⟩] true := by
  obtain ⟨⟨c0, c1, c2, c3, c4⟩, g1, ⟨r0, r1, r2, r3⟩, ⟨g0, g2, g3⟩⟩ := h.cells
  have H := Lib.hid h
  clear h
  have t0 : ((160 : Int) ≤ (b : Int)) = False := by simp only [eq_iff_iff, iff_false]; omega
  have t1 : ((217 : Int) ≤ (b : Int)) = False := by simp only [eq_iff_iff, iff_false]; omega
  have t2 : ((128 : Int) ≤ (b : Int)) = False := by simp only [eq_iff_iff, iff_false]; omega
  have t3 : ((220 : Int) ≤ (b : Int)) = False := by simp only [eq_iff_iff, iff_false]; omega
  have t4 : ((199 : Int) ≤ (b : Int)) = False := by simp only [eq_iff_iff, iff_false]; omega
  have t5 : ((212 : Int) ≤ (b : Int)) = False := by simp only [eq_iff_iff, iff_false]; omega
  have t6 : ((b : Int) < 128) = True := by simp only [eq_iff_iff, iff_true]; omega
  have u193 : ((b : Int) == 193) = false := by rw [beq_eq_false_iff_ne]; omega
  have u202 : ((b : Int) == 202) = false := by rw [beq_eq_false_iff_ne]; omega
  have u203 : ((b : Int) == 203) = false := by rw [beq_eq_false_iff_ne]; omega
  have hw : IntKind.u64.wrap (b : Int) = (b : Int) := by simp only [IntKind.wrap_u64]; omega
  clear hb
  go_enter Try.func37, Try.ntmps37
  go_wp2_with fail
  go_quiet (fail)
  have H1 := Lib.hid (H.out.drewN nq)
  clear c0 c1 c2 c3 c4 g1 r0 r1 r2 r3 g0 g2 g3 H
  generalize w.drewN nq = w1 at *
  obtain ⟨⟨c0, c1, c2, c3, c4⟩, g1, ⟨r0, r1, r2, r3⟩, ⟨g0, g2, g3⟩⟩ := H1.out.cells
  have HK := Lib.hid (rd_key H1.out)
  go_wp2_with fail
  refine HK.out.mono ?_
  rintro q w2 ⟨rfl, rfl⟩
  go_wp2_with fail
  go_quiet (fail)
  have H2 := Lib.hid (H1.out.drewN nq)
  clear c0 c1 c2 c3 c4 g1 r0 r1 r2 r3 g0 g2 g3 H1 HK
  generalize w1.drewN nq = w3 at *
  obtain ⟨⟨c0, c1, c2, c3, c4⟩, g1, _, _⟩ := H2.out.cells
  have H3 := Lib.hid (H2.out.to 1)
  have HP := Lib.hid (rd_put ⟨2, false, b, ⟨#[]⟩, 0⟩ H3.out)
  simp only [evV] at HP
  clear H3
  go_wp2_with fail
  refine HP.out.mono ?_
  rintro q w9 ⟨rfl, a, c, h9⟩
  have H9 := Lib.hid h9
  clear h9
  go_wp2
  go_ret
  exact ⟨rfl, a, c, H9.out⟩
set_option maxRecDepth 100000 in
set_option maxHeartbeats 4000000 in
theorem rd_pack_hi {w0 w : World} {p r : Nat} {S : ByteArray} {d : Nat} (b m : Nat) (hb : 224 ≤ b ∧ b < 256) (hm : m = 255 - b) (h : RdAt w0 w p r S 0 d (.slice none 0 0) [] false) (hix : ∀ W, (Instr.index 9 (.string S) (.int .i64 0)).run Try.prog W = .ok (.int .u8 (b : Int)) W) :
    Calls Try.prog 37 #[.pointer (some ⟨p, 0, none⟩)] w fun e w' => e = .returned (.bool true) ∧ ∃ a c, RdAt w0 w' p r S 1 d (.slice a 1 c) [⟨2, true, m, ⟨#[]⟩, 0⟩] true := by
  obtain ⟨⟨c0, c1, c2, c3, c4⟩, g1, ⟨r0, r1, r2, r3⟩, ⟨g0, g2, g3⟩⟩ := h.cells
  have H := Lib.hid h
  clear h
  have t0 : ((160 : Int) ≤ (b : Int)) = True := by simp only [eq_iff_iff, iff_true]; omega
  have t1 : ((b : Int) ≤ 191) = False := by simp only [eq_iff_iff, iff_false]; omega
  have t2 : ((217 : Int) ≤ (b : Int)) = True := by simp only [eq_iff_iff, iff_true]; omega
  have t3 : ((b : Int) ≤ 219) = False := by simp only [eq_iff_iff, iff_false]; omega
  have t4 : ((128 : Int) ≤ (b : Int)) = True := by simp only [eq_iff_iff, iff_true]; omega
  have t5 : ((b : Int) ≤ 159) = False := by simp only [eq_iff_iff, iff_false]; omega
  have t6 : ((220 : Int) ≤ (b : Int)) = True := by simp only [eq_iff_iff, iff_true]; omega
  have t7 : ((b : Int) ≤ 223) = False := by simp only [eq_iff_iff, iff_false]; omega
  have t8 : ((199 : Int) ≤ (b : Int)) = True := by simp only [eq_iff_iff, iff_true]; omega
  have t9 : ((b : Int) ≤ 201) = False := by simp only [eq_iff_iff, iff_false]; omega
  have t10 : ((212 : Int) ≤ (b : Int)) = True := by simp only [eq_iff_iff, iff_true]; omega
  have t11 : ((b : Int) ≤ 216) = False := by simp only [eq_iff_iff, iff_false]; omega
  have t12 : ((b : Int) < 128) = False := by simp only [eq_iff_iff, iff_false]; omega
  have t13 : ((224 : Int) ≤ (b : Int)) = True := by simp only [eq_iff_iff, iff_true]; omega
  have u193 : ((b : Int) == 193) = false := by rw [beq_eq_false_iff_ne]; omega
  have u202 : ((b : Int) == 202) = false := by rw [beq_eq_false_iff_ne]; omega
  have u203 : ((b : Int) == 203) = false := by rw [beq_eq_false_iff_ne]; omega
  have hs : (255 - (b : Int)) = (m : Int) := by omega
  have hw0 : IntKind.u8.wrap (255 - (b : Int)) = (m : Int) := by rw [hs]; simp only [IntKind.wrap_u8]; omega
  have hw : IntKind.u64.wrap (m : Int) = (m : Int) := by simp only [IntKind.wrap_u64]; omega
  clear hb hm hs
  go_enter Try.func37, Try.ntmps37
  go_wp2_with fail
  go_quiet (fail)
  have H1 := Lib.hid (H.out.drewN nq)
  clear c0 c1 c2 c3 c4 g1 r0 r1 r2 r3 g0 g2 g3 H
  generalize w.drewN nq = w1 at *
  obtain ⟨⟨c0, c1, c2, c3, c4⟩, g1, ⟨r0, r1, r2, r3⟩, ⟨g0, g2, g3⟩⟩ := H1.out.cells
  have HK := Lib.hid (rd_key H1.out)
  go_wp2_with fail
  refine HK.out.mono ?_
  rintro q w2 ⟨rfl, rfl⟩
  go_wp2_with fail
  go_quiet (fail)
  have H2 := Lib.hid (H1.out.drewN nq)
  clear c0 c1 c2 c3 c4 g1 r0 r1 r2 r3 g0 g2 g3 H1 HK
  generalize w1.drewN nq = w3 at *
  obtain ⟨⟨c0, c1, c2, c3, c4⟩, g1, _, _⟩ := H2.out.cells
  have H3 := Lib.hid (H2.out.to 1)
  have HP := Lib.hid (rd_put ⟨2, true, m, ⟨#[]⟩, 0⟩ H3.out)
  simp only [evV] at HP
  clear H3
  go_wp2_with fail
  refine HP.out.mono ?_
  rintro q w9 ⟨rfl, a, c, h9⟩
  have H9 := Lib.hid h9
  clear h9
  go_wp2
  go_ret
  exact ⟨rfl, a, c, H9.out⟩
set_option maxRecDepth 100000 in
set_option maxHeartbeats 4000000 in
theorem rd_pack_u1 {w0 w : World} {p r : Nat} {S : ByteArray} {d : Nat} (l : List UInt8) (hl : l.length = 1) (V : Nat) (hV : valB 0 l = V) (hsz : 2 ≤ S.size) (hx : S.extract 1 (1 + 1) = ⟨l.toArray⟩) (h : RdAt w0 w p r S 0 d (.slice none 0 0) [] false) (hix : ∀ W, (Instr.index 9 (.string S) (.int .i64 0)).run Try.prog W = .ok (.int .u8 204) W) :
    Calls Try.prog 37 #[.pointer (some ⟨p, 0, none⟩)] w fun e w' => e = .returned (.bool true) ∧ ∃ a c, RdAt w0 w' p r S 2 d (.slice a 1 c) [⟨2, false, V, ⟨#[]⟩, 0⟩] true := by
  obtain ⟨⟨c0, c1, c2, c3, c4⟩, g1, ⟨r0, r1, r2, r3⟩, ⟨g0, g2, g3⟩⟩ := h.cells
  have H := Lib.hid h
  clear h
  go_enter Try.func37, Try.ntmps37
  go_wp2_with fail
  go_quiet (fail)
  have H1 := Lib.hid (H.out.drewN nq)
  clear c0 c1 c2 c3 c4 g1 r0 r1 r2 r3 g0 g2 g3 H
  generalize w.drewN nq = w1 at *
  obtain ⟨⟨c0, c1, c2, c3, c4⟩, g1, ⟨r0, r1, r2, r3⟩, ⟨g0, g2, g3⟩⟩ := H1.out.cells
  have HK := Lib.hid (rd_key H1.out)
  go_wp2_with fail
  refine HK.out.mono ?_
  rintro q w2 ⟨rfl, rfl⟩
  go_wp2_with fail
  go_quiet (fail)
  have H2 := Lib.hid (H1.out.drewN nq)
  clear c0 c1 c2 c3 c4 g1 r0 r1 r2 r3 g0 g2 g3 H1 HK
  generalize w1.drewN nq = w3 at *
  obtain ⟨⟨c0, c1, c2, c3, c4⟩, g1, _, _⟩ := H2.out.cells
  have H3 := Lib.hid (H2.out.to 1)
  have HZ := Lib.hid (rd_size H3.out 1 l hl (by omega) (by omega) (by omega) hx)
  rw [hV] at HZ
  clear hl hx hV hsz H3
  go_wp2_with fail
  refine HZ.out.mono ?_
  rintro q w5 ⟨rfl, h5⟩
  have H5 := Lib.hid h5
  clear h5
  have HP := Lib.hid (rd_put ⟨2, false, V, ⟨#[]⟩, 0⟩ H5.out)
  simp only [evV] at HP
  clear H5
  go_wp2_with fail
  refine HP.out.mono ?_
  rintro q w9 ⟨rfl, a, c, h9⟩
  have H9 := Lib.hid h9
  clear h9
  go_wp2
  go_ret
  exact ⟨rfl, a, c, H9.out⟩
set_option maxRecDepth 100000 in
set_option maxHeartbeats 4000000 in
theorem rd_pack_s1 {w0 w : World} {p r : Nat} {S : ByteArray} {d : Nat} (l : List UInt8) (hl : l.length = 1) (V : Nat) (hV : valB 0 l = V) (hsz : 2 ≤ S.size) (hx : S.extract 1 (1 + 1) = ⟨l.toArray⟩) (m : Nat) (hm : m < 128) (hVm : V = 255 - m) (h : RdAt w0 w p r S 0 d (.slice none 0 0) [] false) (hix : ∀ W, (Instr.index 9 (.string S) (.int .i64 0)).run Try.prog W = .ok (.int .u8 208) W) :
    Calls Try.prog 37 #[.pointer (some ⟨p, 0, none⟩)] w fun e w' => e = .returned (.bool true) ∧ ∃ a c, RdAt w0 w' p r S 2 d (.slice a 1 c) [⟨2, true, m, ⟨#[]⟩, 0⟩] true := by
  obtain ⟨⟨c0, c1, c2, c3, c4⟩, g1, ⟨r0, r1, r2, r3⟩, ⟨g0, g2, g3⟩⟩ := h.cells
  have H := Lib.hid h
  clear h
  have hq : ((V : Int) / 128 == 1) = true := by rw [beq_iff_eq]; omega
  have hmk := and_mask (18446744073709551615 - V) 8 (by omega) (by omega) 255 (by decide)
  have hmd : (18446744073709551615 - V) % 2 ^ 8 = m := by omega
  rw [hmd] at hmk
  have hc : ((18446744073709551615 - V : Nat) : Int) = 18446744073709551615 - (V : Int) := by omega
  rw [hc] at hmk
  have hws : IntKind.u64.wrap (18446744073709551615 - (V : Int)) = 18446744073709551615 - (V : Int) := by simp only [IntKind.wrap_u64]; omega
  clear hm hVm hmd hc
  go_enter Try.func37, Try.ntmps37
  go_wp2_with fail
  go_quiet (fail)
  have H1 := Lib.hid (H.out.drewN nq)
  clear c0 c1 c2 c3 c4 g1 r0 r1 r2 r3 g0 g2 g3 H
  generalize w.drewN nq = w1 at *
  obtain ⟨⟨c0, c1, c2, c3, c4⟩, g1, ⟨r0, r1, r2, r3⟩, ⟨g0, g2, g3⟩⟩ := H1.out.cells
  have HK := Lib.hid (rd_key H1.out)
  go_wp2_with fail
  refine HK.out.mono ?_
  rintro q w2 ⟨rfl, rfl⟩
  go_wp2_with fail
  go_quiet (fail)
  have H2 := Lib.hid (H1.out.drewN nq)
  clear c0 c1 c2 c3 c4 g1 r0 r1 r2 r3 g0 g2 g3 H1 HK
  generalize w1.drewN nq = w3 at *
  obtain ⟨⟨c0, c1, c2, c3, c4⟩, g1, _, _⟩ := H2.out.cells
  have H3 := Lib.hid (H2.out.to 1)
  have HZ := Lib.hid (rd_size H3.out 1 l hl (by omega) (by omega) (by omega) hx)
  rw [hV] at HZ
  clear hl hx hV hsz H3
  go_wp2_with fail
  refine HZ.out.mono ?_
  rintro q w5 ⟨rfl, h5⟩
  have H5 := Lib.hid h5
  clear h5
  have HP := Lib.hid (rd_put ⟨2, true, m, ⟨#[]⟩, 0⟩ H5.out)
  simp only [evV] at HP
  clear H5
  go_wp2_with fail
  refine HP.out.mono ?_
  rintro q w9 ⟨rfl, a, c, h9⟩
  have H9 := Lib.hid h9
  clear h9
  go_wp2
  go_ret
  exact ⟨rfl, a, c, H9.out⟩
set_option maxRecDepth 100000 in
set_option maxHeartbeats 4000000 in
theorem rd_pack_u2 {w0 w : World} {p r : Nat} {S : ByteArray} {d : Nat} (l : List UInt8) (hl : l.length = 2) (V : Nat) (hV : valB 0 l = V) (hsz : 3 ≤ S.size) (hx : S.extract 1 (1 + 2) = ⟨l.toArray⟩) (h : RdAt w0 w p r S 0 d (.slice none 0 0) [] false) (hix : ∀ W, (Instr.index 9 (.string S) (.int .i64 0)).run Try.prog W = .ok (.int .u8 205) W) :
    Calls Try.prog 37 #[.pointer (some ⟨p, 0, none⟩)] w fun e w' => e = .returned (.bool true) ∧ ∃ a c, RdAt w0 w' p r S 3 d (.slice a 1 c) [⟨2, false, V, ⟨#[]⟩, 0⟩] true := by
  obtain ⟨⟨c0, c1, c2, c3, c4⟩, g1, ⟨r0, r1, r2, r3⟩, ⟨g0, g2, g3⟩⟩ := h.cells
  have H := Lib.hid h
  clear h
  go_enter Try.func37, Try.ntmps37
  go_wp2_with fail
  go_quiet (fail)
  have H1 := Lib.hid (H.out.drewN nq)
  clear c0 c1 c2 c3 c4 g1 r0 r1 r2 r3 g0 g2 g3 H
  generalize w.drewN nq = w1 at *
  obtain ⟨⟨c0, c1, c2, c3, c4⟩, g1, ⟨r0, r1, r2, r3⟩, ⟨g0, g2, g3⟩⟩ := H1.out.cells
  have HK := Lib.hid (rd_key H1.out)
  go_wp2_with fail
  refine HK.out.mono ?_
  rintro q w2 ⟨rfl, rfl⟩
  go_wp2_with fail
  go_quiet (fail)
  have H2 := Lib.hid (H1.out.drewN nq)
  clear c0 c1 c2 c3 c4 g1 r0 r1 r2 r3 g0 g2 g3 H1 HK
  generalize w1.drewN nq = w3 at *
  obtain ⟨⟨c0, c1, c2, c3, c4⟩, g1, _, _⟩ := H2.out.cells
  have H3 := Lib.hid (H2.out.to 1)
  have HZ := Lib.hid (rd_size H3.out 2 l hl (by omega) (by omega) (by omega) hx)
  rw [hV] at HZ
  clear hl hx hV hsz H3
  go_wp2_with fail
  refine HZ.out.mono ?_
  rintro q w5 ⟨rfl, h5⟩
  have H5 := Lib.hid h5
  clear h5
  have HP := Lib.hid (rd_put ⟨2, false, V, ⟨#[]⟩, 0⟩ H5.out)
  simp only [evV] at HP
  clear H5
  go_wp2_with fail
  refine HP.out.mono ?_
  rintro q w9 ⟨rfl, a, c, h9⟩
  have H9 := Lib.hid h9
  clear h9
  go_wp2
  go_ret
  exact ⟨rfl, a, c, H9.out⟩
set_option maxRecDepth 100000 in
set_option maxHeartbeats 4000000 in
theorem rd_pack_s2 {w0 w : World} {p r : Nat} {S : ByteArray} {d : Nat} (l : List UInt8) (hl : l.length = 2) (V : Nat) (hV : valB 0 l = V) (hsz : 3 ≤ S.size) (hx : S.extract 1 (1 + 2) = ⟨l.toArray⟩) (m : Nat) (hm : m < 32768) (hVm : V = 65535 - m) (h : RdAt w0 w p r S 0 d (.slice none 0 0) [] false) (hix : ∀ W, (Instr.index 9 (.string S) (.int .i64 0)).run Try.prog W = .ok (.int .u8 209) W) :
    Calls Try.prog 37 #[.pointer (some ⟨p, 0, none⟩)] w fun e w' => e = .returned (.bool true) ∧ ∃ a c, RdAt w0 w' p r S 3 d (.slice a 1 c) [⟨2, true, m, ⟨#[]⟩, 0⟩] true := by
  obtain ⟨⟨c0, c1, c2, c3, c4⟩, g1, ⟨r0, r1, r2, r3⟩, ⟨g0, g2, g3⟩⟩ := h.cells
  have H := Lib.hid h
  clear h
  have hq : ((V : Int) / 32768 == 1) = true := by rw [beq_iff_eq]; omega
  have hmk := and_mask (18446744073709551615 - V) 16 (by omega) (by omega) 65535 (by decide)
  have hmd : (18446744073709551615 - V) % 2 ^ 16 = m := by omega
  rw [hmd] at hmk
  have hc : ((18446744073709551615 - V : Nat) : Int) = 18446744073709551615 - (V : Int) := by omega
  rw [hc] at hmk
  have hws : IntKind.u64.wrap (18446744073709551615 - (V : Int)) = 18446744073709551615 - (V : Int) := by simp only [IntKind.wrap_u64]; omega
  clear hm hVm hmd hc
  go_enter Try.func37, Try.ntmps37
  go_wp2_with fail
  go_quiet (fail)
  have H1 := Lib.hid (H.out.drewN nq)
  clear c0 c1 c2 c3 c4 g1 r0 r1 r2 r3 g0 g2 g3 H
  generalize w.drewN nq = w1 at *
  obtain ⟨⟨c0, c1, c2, c3, c4⟩, g1, ⟨r0, r1, r2, r3⟩, ⟨g0, g2, g3⟩⟩ := H1.out.cells
  have HK := Lib.hid (rd_key H1.out)
  go_wp2_with fail
  refine HK.out.mono ?_
  rintro q w2 ⟨rfl, rfl⟩
  go_wp2_with fail
  go_quiet (fail)
  have H2 := Lib.hid (H1.out.drewN nq)
  clear c0 c1 c2 c3 c4 g1 r0 r1 r2 r3 g0 g2 g3 H1 HK
  generalize w1.drewN nq = w3 at *
  obtain ⟨⟨c0, c1, c2, c3, c4⟩, g1, _, _⟩ := H2.out.cells
  have H3 := Lib.hid (H2.out.to 1)
  have HZ := Lib.hid (rd_size H3.out 2 l hl (by omega) (by omega) (by omega) hx)
  rw [hV] at HZ
  clear hl hx hV hsz H3
  go_wp2_with fail
  refine HZ.out.mono ?_
  rintro q w5 ⟨rfl, h5⟩
  have H5 := Lib.hid h5
  clear h5
  have HP := Lib.hid (rd_put ⟨2, true, m, ⟨#[]⟩, 0⟩ H5.out)
  simp only [evV] at HP
  clear H5
  go_wp2_with fail
  refine HP.out.mono ?_
  rintro q w9 ⟨rfl, a, c, h9⟩
  have H9 := Lib.hid h9
  clear h9
  go_wp2
  go_ret
  exact ⟨rfl, a, c, H9.out⟩
set_option maxRecDepth 100000 in
set_option maxHeartbeats 4000000 in
theorem rd_pack_u4 {w0 w : World} {p r : Nat} {S : ByteArray} {d : Nat} (l : List UInt8) (hl : l.length = 4) (V : Nat) (hV : valB 0 l = V) (hsz : 5 ≤ S.size) (hx : S.extract 1 (1 + 4) = ⟨l.toArray⟩) (h : RdAt w0 w p r S 0 d (.slice none 0 0) [] false) (hix : ∀ W, (Instr.index 9 (.string S) (.int .i64 0)).run Try.prog W = .ok (.int .u8 206) W) :
    Calls Try.prog 37 #[.pointer (some ⟨p, 0, none⟩)] w fun e w' => e = .returned (.bool true) ∧ ∃ a c, RdAt w0 w' p r S 5 d (.slice a 1 c) [⟨2, false, V, ⟨#[]⟩, 0⟩] true := by
  obtain ⟨⟨c0, c1, c2, c3, c4⟩, g1, ⟨r0, r1, r2, r3⟩, ⟨g0, g2, g3⟩⟩ := h.cells
  have H := Lib.hid h
  clear h
  go_enter Try.func37, Try.ntmps37
  go_wp2_with fail
  go_quiet (fail)
  have H1 := Lib.hid (H.out.drewN nq)
  clear c0 c1 c2 c3 c4 g1 r0 r1 r2 r3 g0 g2 g3 H
  generalize w.drewN nq = w1 at *
  obtain ⟨⟨c0, c1, c2, c3, c4⟩, g1, ⟨r0, r1, r2, r3⟩, ⟨g0, g2, g3⟩⟩ := H1.out.cells
  have HK := Lib.hid (rd_key H1.out)
  go_wp2_with fail
  refine HK.out.mono ?_
  rintro q w2 ⟨rfl, rfl⟩
  go_wp2_with fail
  go_quiet (fail)
  have H2 := Lib.hid (H1.out.drewN nq)
  clear c0 c1 c2 c3 c4 g1 r0 r1 r2 r3 g0 g2 g3 H1 HK
  generalize w1.drewN nq = w3 at *
  obtain ⟨⟨c0, c1, c2, c3, c4⟩, g1, _, _⟩ := H2.out.cells
  have H3 := Lib.hid (H2.out.to 1)
  have HZ := Lib.hid (rd_size H3.out 4 l hl (by omega) (by omega) (by omega) hx)
  rw [hV] at HZ
  clear hl hx hV hsz H3
  go_wp2_with fail
  refine HZ.out.mono ?_
  rintro q w5 ⟨rfl, h5⟩
  have H5 := Lib.hid h5
  clear h5
  have HP := Lib.hid (rd_put ⟨2, false, V, ⟨#[]⟩, 0⟩ H5.out)
  simp only [evV] at HP
  clear H5
  go_wp2_with fail
  refine HP.out.mono ?_
  rintro q w9 ⟨rfl, a, c, h9⟩
  have H9 := Lib.hid h9
  clear h9
  go_wp2
  go_ret
  exact ⟨rfl, a, c, H9.out⟩
set_option maxRecDepth 100000 in
set_option maxHeartbeats 4000000 in
theorem rd_pack_s4 {w0 w : World} {p r : Nat} {S : ByteArray} {d : Nat} (l : List UInt8) (hl : l.length = 4) (V : Nat) (hV : valB 0 l = V) (hsz : 5 ≤ S.size) (hx : S.extract 1 (1 + 4) = ⟨l.toArray⟩) (m : Nat) (hm : m < 2147483648) (hVm : V = 4294967295 - m) (h : RdAt w0 w p r S 0 d (.slice none 0 0) [] false) (hix : ∀ W, (Instr.index 9 (.string S) (.int .i64 0)).run Try.prog W = .ok (.int .u8 210) W) :
    Calls Try.prog 37 #[.pointer (some ⟨p, 0, none⟩)] w fun e w' => e = .returned (.bool true) ∧ ∃ a c, RdAt w0 w' p r S 5 d (.slice a 1 c) [⟨2, true, m, ⟨#[]⟩, 0⟩] true := by
  obtain ⟨⟨c0, c1, c2, c3, c4⟩, g1, ⟨r0, r1, r2, r3⟩, ⟨g0, g2, g3⟩⟩ := h.cells
  have H := Lib.hid h
  clear h
  have hq : ((V : Int) / 2147483648 == 1) = true := by rw [beq_iff_eq]; omega
  have hmk := and_mask (18446744073709551615 - V) 32 (by omega) (by omega) 4294967295 (by decide)
  have hmd : (18446744073709551615 - V) % 2 ^ 32 = m := by omega
  rw [hmd] at hmk
  have hc : ((18446744073709551615 - V : Nat) : Int) = 18446744073709551615 - (V : Int) := by omega
  rw [hc] at hmk
  have hws : IntKind.u64.wrap (18446744073709551615 - (V : Int)) = 18446744073709551615 - (V : Int) := by simp only [IntKind.wrap_u64]; omega
  clear hm hVm hmd hc
  go_enter Try.func37, Try.ntmps37
  go_wp2_with fail
  go_quiet (fail)
  have H1 := Lib.hid (H.out.drewN nq)
  clear c0 c1 c2 c3 c4 g1 r0 r1 r2 r3 g0 g2 g3 H
  generalize w.drewN nq = w1 at *
  obtain ⟨⟨c0, c1, c2, c3, c4⟩, g1, ⟨r0, r1, r2, r3⟩, ⟨g0, g2, g3⟩⟩ := H1.out.cells
  have HK := Lib.hid (rd_key H1.out)
  go_wp2_with fail
  refine HK.out.mono ?_
  rintro q w2 ⟨rfl, rfl⟩
  go_wp2_with fail
  go_quiet (fail)
  have H2 := Lib.hid (H1.out.drewN nq)
  clear c0 c1 c2 c3 c4 g1 r0 r1 r2 r3 g0 g2 g3 H1 HK
  generalize w1.drewN nq = w3 at *
  obtain ⟨⟨c0, c1, c2, c3, c4⟩, g1, _, _⟩ := H2.out.cells
  have H3 := Lib.hid (H2.out.to 1)
  have HZ := Lib.hid (rd_size H3.out 4 l hl (by omega) (by omega) (by omega) hx)
  rw [hV] at HZ
  clear hl hx hV hsz H3
  go_wp2_with fail
  refine HZ.out.mono ?_
  rintro q w5 ⟨rfl, h5⟩
  have H5 := Lib.hid h5
  clear h5
  have HP := Lib.hid (rd_put ⟨2, true, m, ⟨#[]⟩, 0⟩ H5.out)
  simp only [evV] at HP
  clear H5
  go_wp2_with fail
  refine HP.out.mono ?_
  rintro q w9 ⟨rfl, a, c, h9⟩
  have H9 := Lib.hid h9
  clear h9
  go_wp2
  go_ret
  exact ⟨rfl, a, c, H9.out⟩
set_option maxRecDepth 100000 in
set_option maxHeartbeats 4000000 in
theorem rd_pack_u8 {w0 w : World} {p r : Nat} {S : ByteArray} {d : Nat} (l : List UInt8) (hl : l.length = 8) (V : Nat) (hV : valB 0 l = V) (hsz : 9 ≤ S.size) (hx : S.extract 1 (1 + 8) = ⟨l.toArray⟩) (h : RdAt w0 w p r S 0 d (.slice none 0 0) [] false) (hix : ∀ W, (Instr.index 9 (.string S) (.int .i64 0)).run Try.prog W = .ok (.int .u8 207) W) :
    Calls Try.prog 37 #[.pointer (some ⟨p, 0, none⟩)] w fun e w' => e = .returned (.bool true) ∧ ∃ a c, RdAt w0 w' p r S 9 d (.slice a 1 c) [⟨2, false, V, ⟨#[]⟩, 0⟩] true := by
  obtain ⟨⟨c0, c1, c2, c3, c4⟩, g1, ⟨r0, r1, r2, r3⟩, ⟨g0, g2, g3⟩⟩ := h.cells
  have H := Lib.hid h
  clear h
  go_enter Try.func37, Try.ntmps37
  go_wp2_with fail
  go_quiet (fail)
  have H1 := Lib.hid (H.out.drewN nq)
  clear c0 c1 c2 c3 c4 g1 r0 r1 r2 r3 g0 g2 g3 H
  generalize w.drewN nq = w1 at *
  obtain ⟨⟨c0, c1, c2, c3, c4⟩, g1, ⟨r0, r1, r2, r3⟩, ⟨g0, g2, g3⟩⟩ := H1.out.cells
  have HK := Lib.hid (rd_key H1.out)
  go_wp2_with fail
  refine HK.out.mono ?_
  rintro q w2 ⟨rfl, rfl⟩
  go_wp2_with fail
  go_quiet (fail)
  have H2 := Lib.hid (H1.out.drewN nq)
  clear c0 c1 c2 c3 c4 g1 r0 r1 r2 r3 g0 g2 g3 H1 HK
  generalize w1.drewN nq = w3 at *
  obtain ⟨⟨c0, c1, c2, c3, c4⟩, g1, _, _⟩ := H2.out.cells
  have H3 := Lib.hid (H2.out.to 1)
  have HZ := Lib.hid (rd_size H3.out 8 l hl (by omega) (by omega) (by omega) hx)
  rw [hV] at HZ
  clear hl hx hV hsz H3
  go_wp2_with fail
  refine HZ.out.mono ?_
  rintro q w5 ⟨rfl, h5⟩
  have H5 := Lib.hid h5
  clear h5
  have HP := Lib.hid (rd_put ⟨2, false, V, ⟨#[]⟩, 0⟩ H5.out)
  simp only [evV] at HP
  clear H5
  go_wp2_with fail
  refine HP.out.mono ?_
  rintro q w9 ⟨rfl, a, c, h9⟩
  have H9 := Lib.hid h9
  clear h9
  go_wp2
  go_ret
  exact ⟨rfl, a, c, H9.out⟩
set_option maxRecDepth 100000 in
set_option maxHeartbeats 4000000 in
theorem rd_pack_s8 {w0 w : World} {p r : Nat} {S : ByteArray} {d : Nat} (l : List UInt8) (hl : l.length = 8) (V : Nat) (hV : valB 0 l = V) (hsz : 9 ≤ S.size) (hx : S.extract 1 (1 + 8) = ⟨l.toArray⟩) (m : Nat) (hm : m < 9223372036854775808) (hVm : V = 18446744073709551615 - m) (h : RdAt w0 w p r S 0 d (.slice none 0 0) [] false) (hix : ∀ W, (Instr.index 9 (.string S) (.int .i64 0)).run Try.prog W = .ok (.int .u8 211) W) :
    Calls Try.prog 37 #[.pointer (some ⟨p, 0, none⟩)] w fun e w' => e = .returned (.bool true) ∧ ∃ a c, RdAt w0 w' p r S 9 d (.slice a 1 c) [⟨2, true, m, ⟨#[]⟩, 0⟩] true := by
  obtain ⟨⟨c0, c1, c2, c3, c4⟩, g1, ⟨r0, r1, r2, r3⟩, ⟨g0, g2, g3⟩⟩ := h.cells
  have H := Lib.hid h
  clear h
  have hq : ((V : Int) / 9223372036854775808 == 1) = true := by rw [beq_iff_eq]; omega
  have hmk := and_mask (18446744073709551615 - V) 64 (by omega) (by omega) 18446744073709551615 (by decide)
  have hmd : (18446744073709551615 - V) % 2 ^ 64 = m := by omega
  rw [hmd] at hmk
  have hc : ((18446744073709551615 - V : Nat) : Int) = 18446744073709551615 - (V : Int) := by omega
  rw [hc] at hmk
  have hws : IntKind.u64.wrap (18446744073709551615 - (V : Int)) = 18446744073709551615 - (V : Int) := by simp only [IntKind.wrap_u64]; omega
  clear hm hVm hmd hc
  go_enter Try.func37, Try.ntmps37
  go_wp2_with fail
  go_quiet (fail)
  have H1 := Lib.hid (H.out.drewN nq)
  clear c0 c1 c2 c3 c4 g1 r0 r1 r2 r3 g0 g2 g3 H
  generalize w.drewN nq = w1 at *
  obtain ⟨⟨c0, c1, c2, c3, c4⟩, g1, ⟨r0, r1, r2, r3⟩, ⟨g0, g2, g3⟩⟩ := H1.out.cells
  have HK := Lib.hid (rd_key H1.out)
  go_wp2_with fail
  refine HK.out.mono ?_
  rintro q w2 ⟨rfl, rfl⟩
  go_wp2_with fail
  go_quiet (fail)
  have H2 := Lib.hid (H1.out.drewN nq)
  clear c0 c1 c2 c3 c4 g1 r0 r1 r2 r3 g0 g2 g3 H1 HK
  generalize w1.drewN nq = w3 at *
  obtain ⟨⟨c0, c1, c2, c3, c4⟩, g1, _, _⟩ := H2.out.cells
  have H3 := Lib.hid (H2.out.to 1)
  have HZ := Lib.hid (rd_size H3.out 8 l hl (by omega) (by omega) (by omega) hx)
  rw [hV] at HZ
  clear hl hx hV hsz H3
  go_wp2_with fail
  refine HZ.out.mono ?_
  rintro q w5 ⟨rfl, h5⟩
  have H5 := Lib.hid h5
  clear h5
  have HP := Lib.hid (rd_put ⟨2, true, m, ⟨#[]⟩, 0⟩ H5.out)
  simp only [evV] at HP
  clear H5
  go_wp2_with fail
  refine HP.out.mono ?_
  rintro q w9 ⟨rfl, a, c, h9⟩
  have H9 := Lib.hid h9
  clear h9
  go_wp2
  go_ret
  exact ⟨rfl, a, c, H9.out⟩
end Go.Proofs.Ytonjdnahplphhaa
