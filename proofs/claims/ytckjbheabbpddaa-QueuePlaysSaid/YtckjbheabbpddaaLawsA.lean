/-
  WALKS of chapter 3s laws QueueKeeps, QueueCuts, QueueBytes: each returns true, and nothing that was there has turned. No condition but the sizes that a row gives.
-/
import Derived.Test.YtckjbheabbpddaaQueue
import Derived.Deep.RegionHeld3
namespace Go.Proofs.Ytckjbheabbpddaa
open Go.RowKit
open Go.Lib
/-- THE QUEUE at block b, all its blocks from B on. -/
def QIs (B : Nat) (w : World) (b : Nat) (bs : List UInt8) (ns : List Nat) : Prop := ∃ F, QAt w b F bs ns ∧ ∀ k ∈ F, B ≤ k
theorem QIs.lt {B : Nat} {w : World} {b : Nat} {bs : List UInt8} {ns : List Nat} (h : QIs B w b bs ns) : B ≤ w.heap.size := by
  obtain ⟨F, ⟨vb, vs, hb, h1, h2, hF, hs, hp⟩, hB⟩ := h
  have := hB b (by rw [hF]; simp)
  have := (Array.getElem?_eq_some_iff.1 hb).1
  omega
theorem QIs.drewN {B : Nat} {w : World} {b : Nat} {bs : List UInt8} {ns : List Nat} (h : QIs B w b bs ns) (q : Nat) : QIs B (w.drewN q) b bs ns := h
theorem QIs.drew {B : Nat} {w : World} {b : Nat} {bs : List UInt8} {ns : List Nat} (h : QIs B w b bs ns) : QIs B w.drew b bs ns := h
theorem QIs.len_le {B : Nat} {w : World} {b : Nat} {bs : List UInt8} {ns : List Nat} (h : QIs B w b bs ns) : ns.length ≤ bs.length := by
  obtain ⟨F, h, hB⟩ := h
  exact h.len_le
theorem QPost.is {B : Nat} {w w' : World} {b : Nat} {F : List Nat} {bs : List UInt8} {ns : List Nat} (h : QPost w b F bs ns w') (hF : ∀ k ∈ F, B ≤ k) (hB : B ≤ w.heap.size) : QIs B w' b bs ns ∧ Below B w w' := by
  obtain ⟨F', h1, h2⟩ := h
  exact ⟨⟨F', h1, h2.low hF hB⟩, h2.below hF hB⟩
theorem q_new (B : Nat) (w : World) (hB : B ≤ w.heap.size) : QIs B (w.alloc (.cells #[.slice none 0 0, .slice none 0 0] 28)) w.heap.size [] [] :=
  ⟨[w.heap.size], ⟨.slice none 0 0, .slice none 0 0, heap_alloc_new w _, Win.nil_ _ _ _, Win.nil_ _ _ _, rfl, rfl, by simp⟩, by simpa using hB⟩
def more (x : ByteArray) : List Nat := if x.size = 0 then [] else [x.size]
theorem q_add {B : Nat} {w : World} {b : Nat} {bs : List UInt8} {ns : List Nat} (h : QIs B w b bs ns) (x : ByteArray) (hb : bs.length + x.size ≤ 1000000) :
    Calls Try.prog 11 #[.pointer (some ⟨b, 0, none⟩), .string x] w fun e w' => e = .returned (.tuple #[]) ∧ QIs B w' b (bs ++ x.data.toList) (ns ++ more x) ∧ Below B w w' := by
  by_cases h0 : x.size = 0
  · have hx : x = ⟨#[]⟩ := by
      apply ByteArray.ext
      exact Array.eq_empty_of_size_eq_zero h0
    subst hx
    refine (add_none b w).mono ?_
    rintro e w' ⟨rfl, rfl⟩
    exact ⟨rfl, by
      show QIs B w b (bs ++ []) (ns ++ [])
      rw [List.append_nil, List.append_nil]
      exact h, Below.refl _ _⟩
  · have hl := h.lt
    have hn := h.len_le
    obtain ⟨F, h, hF⟩ := h
    refine (add_some h x (by omega) hb (by omega)).mono ?_
    rintro e w' ⟨rfl, hq⟩
    have := hq.is hF hl
    rw [more, if_neg h0]
    exact ⟨rfl, this⟩
theorem q_len {B : Nat} {w : World} {b : Nat} {bs : List UInt8} {ns : List Nat} (h : QIs B w b bs ns) :
    Calls Try.prog 16 #[.pointer (some ⟨b, 0, none⟩)] w fun e w' => e = .returned (.int .i64 bs.length) ∧ w = w' := len_any h.choose_spec.1
theorem q_chunks {B : Nat} {w : World} {b : Nat} {bs : List UInt8} {ns : List Nat} (h : QIs B w b bs ns) :
    Calls Try.prog 17 #[.pointer (some ⟨b, 0, none⟩)] w fun e w' => e = .returned (.int .i64 ns.length) ∧ w = w' := chunks_any h.choose_spec.1
theorem q_all {B : Nat} {w : World} {b : Nat} {bs : List UInt8} {ns : List Nat} (h : QIs B w b bs ns) :
    Calls Try.prog 15 #[.pointer (some ⟨b, 0, none⟩)] w fun e w' => e = .returned (.string ⟨bs.toArray⟩) ∧ w = w' := all_any h.choose_spec.1
theorem q_take {B : Nat} {w : World} {b : Nat} {bs : List UInt8} {ns : List Nat} (h : QIs B w b bs ns) (n : Int) (k : Nat) (hk : min (max n 0) (bs.length : Int) = k) (hbig : bs.length ≤ 1000000) :
    Calls Try.prog 13 #[.pointer (some ⟨b, 0, none⟩), .int .i64 n] w fun e w' => e = .returned (.string ⟨(bs.take k).toArray⟩) ∧ QIs B w' b (bs.drop k) (dropN k ns) ∧ Below B w w' := by
  have hl := h.lt
  obtain ⟨F, h, hF⟩ := h
  exact (take_any h n k hk hbig).mono fun e w' ⟨he, hq⟩ => ⟨he, hq.is hF hl⟩
theorem q_next {B : Nat} {w : World} {b : Nat} {c : UInt8} {bs : List UInt8} {ns : List Nat} (h : QIs B w b (c :: bs) ns) (hbig : bs.length < 1000000) :
    Calls Try.prog 12 #[.pointer (some ⟨b, 0, none⟩)] w fun e w' => e = .returned (.tuple #[.int .u8 (c.toNat : Int), .bool true]) ∧ QIs B w' b bs (dropN 1 ns) ∧ Below B w w' := by
  have hl := h.lt
  obtain ⟨F, h, hF⟩ := h
  exact (next_some h hbig).mono fun e w' ⟨he, hq⟩ => ⟨he, hq.is hF hl⟩
theorem q_none {B : Nat} {w : World} {b : Nat} {ns : List Nat} (h : QIs B w b [] ns) :
    Calls Try.prog 12 #[.pointer (some ⟨b, 0, none⟩)] w fun e w' => e = .returned (.tuple #[.int .u8 0, .bool false]) ∧ w = w' := next_none h.choose_spec.1
theorem q_cut {B : Nat} {w : World} {b : Nat} {bs : List UInt8} {ns : List Nat} (h : QIs B w b bs ns) (n : Int) (k : Nat) (hk : min (max n 0) (bs.length : Int) = k) (hbig : bs.length ≤ 1000000) (hn : n ≤ 9223372036854775807) :
    Calls Try.prog 14 #[.pointer (some ⟨b, 0, none⟩), .int .i64 n] w fun e w' => e = .returned (.int .i64 ((bs.length : Int) - k)) ∧ QIs B w' b (bs.take k) (cutN (bs.length - k) ns) ∧ Below B w w' := by
  have hl := h.lt
  obtain ⟨F, h, hF⟩ := h
  exact (cut_any h n k hk hbig hn).mono fun e w' ⟨he, hq⟩ => ⟨he, hq.is hF hl⟩
theorem QIs.low {B B' : Nat} {w : World} {b : Nat} {bs : List UInt8} {ns : List Nat} (h : QIs B w b bs ns) (hB : B' ≤ B) : QIs B' w b bs ns := by
  obtain ⟨F, h, hF⟩ := h
  exact ⟨F, h, fun k hk => Nat.le_trans hB (hF k hk)⟩
set_option maxHeartbeats 1000000 in
theorem alive_yes (w : World) :
    Calls Try.prog 8 #[] w fun e w' => e = .returned (.bool true) ∧ Below w.heap.size w w' := by
  obtain ⟨B, hB⟩ : ∃ B, B = w.heap.size := ⟨_, rfl⟩
  have HB := Lib.hid hB
  have Q0 := Lib.hid (q_new B w (by omega))
  have HC := Lib.hid ((Below.refl B w).alloc (by omega) (.cells #[.slice none 0 0, .slice none 0 0] 28))
  obtain ⟨p, hp⟩ : ∃ p, p = w.heap.size := ⟨_, rfl⟩
  clear hB
  go_enter Try.func8, Try.ntmps8
  go_wp2_with fail
  refine (q_add Q0.out _ (by decide)).mono ?_
  rintro e w1 ⟨rfl, r1, b1⟩
  rw [← hp] at r1 ⊢
  have R1 : QIs B w1 p [97, 98] [2] := r1
  have HC1 := Lib.hid (HC.out.trans b1)
  clear r1 b1 HC hp Q0
  go_wp2_with fail
  refine (q_add R1 _ (by decide)).mono ?_
  rintro e w2 ⟨rfl, r2, b2⟩
  have R2 : QIs B w2 p [97, 98, 99] [2, 1] := r2
  have HC2 := Lib.hid (HC1.out.trans b2)
  clear r2 b2 HC1 R1
  go_wp2_with fail
  refine (q_next R2 (by decide)).mono ?_
  rintro e w3 ⟨rfl, r3, b3⟩
  have R3 : QIs B w3 p [98, 99] [1, 1] := r3
  have HC3 := Lib.hid (HC2.out.trans b3)
  clear r3 b3 HC2 R2
  go_wp2_with fail
  refine (q_chunks R3).mono ?_
  rintro e w4 ⟨rfl, rfl⟩
  go_wp2_with fail
  refine (q_take R3 1 1 (by decide) (by decide)).mono ?_
  rintro e w4 ⟨rfl, r4, b4⟩
  have R4 : QIs B w4 p [99] [1] := r4
  have HC4 := Lib.hid (HC3.out.trans b4)
  clear r4 b4 HC3 R3
  go_wp2_with fail
  refine (q_chunks R4).mono ?_
  rintro e w5 ⟨rfl, rfl⟩
  go_wp2_with fail
  refine (q_all R4).mono ?_
  rintro e w5 ⟨rfl, rfl⟩
  go_wp2_with fail
  refine (q_len R4).mono ?_
  rintro e w5 ⟨rfl, rfl⟩
  go_wp2
  go_ret
  refine ⟨rfl, ?_⟩
  rw [← HB.out]
  exact HC4.out

theorem join_take (l : List UInt8) (k : Nat) : ((⟨(l.take k).toArray⟩ : ByteArray) ++ (⟨(l.drop k).toArray⟩ : ByteArray)) = ⟨l.toArray⟩ := by
  rw [ba_append, List.take_append_drop]
theorem join_two (a b : ByteArray) : (⟨(a.data.toList ++ b.data.toList).toArray⟩ : ByteArray) = a ++ b := by
  apply ByteArray.ext
  simp
set_option maxHeartbeats 1000000 in
theorem keeps_any (a b : ByteArray) (n : Int) (w : World) (ha : a.size ≤ 140737488351232) (hb : b.size ≤ 140737488351232) :
    Calls Try.prog 7 #[.string a, .string b, .int .i64 n] w fun e w' => e = .returned (.bool true) ∧ Below w.heap.size w w' := by
  by_cases h200 : 200 < a.size + b.size
  · go_enter Try.func7, Try.ntmps7
    go_wp2_with fail
    refine (alive_yes _).mono ?_
    rintro e w1 ⟨rfl, hb⟩
    go_wp2
    go_ret
    exact ⟨rfl, hb⟩
  · obtain ⟨B, hB⟩ : ∃ B, B = w.heap.size := ⟨_, rfl⟩
    have HB := Lib.hid hB
    have HC := Lib.hid (Below.refl B w)
    have hal : a.data.toList.length = a.size := size_list a
    have hbl : b.data.toList.length = b.size := size_list b
    obtain ⟨k, hk⟩ : ∃ k : Nat, min (max n 0) ((a.size + b.size : Nat) : Int) = (k : Int) := ⟨(min (max n 0) ((a.size + b.size : Nat) : Int)).toNat, by omega⟩
    have HK := Lib.hid hk
    have HAL := Lib.hid hal
    have HBL := Lib.hid hbl
    obtain ⟨T, hT⟩ : ∃ T : ByteArray, T = ⟨((a.data.toList ++ b.data.toList).take k).toArray⟩ := ⟨_, rfl⟩
    obtain ⟨R, hR⟩ : ∃ R : ByteArray, R = ⟨((a.data.toList ++ b.data.toList).drop k).toArray⟩ := ⟨_, rfl⟩
    have hTR : T ++ R = a ++ b := by rw [hT, hR, join_take, join_two]
    have HT := Lib.hid hT
    have HR := Lib.hid hR
    have HTR := Lib.hid hTR
    have hTs : T.size ≤ 200 := by
      have := congrArg ByteArray.size hTR
      simp at this
      omega
    have hRs : R.size ≤ 200 := by
      have := congrArg ByteArray.size hTR
      simp at this
      omega
    clear hB hk hal hbl hT hR hTR
    go_enter Try.func7, Try.ntmps7
    go_wp2_with fail
    refine (alive_yes _).mono ?_
    rintro e w1 ⟨rfl, b1⟩
    have HC1 := HC.out.trans (b1.mono (by rw [HB.out]; exact Nat.le_refl _))
    have HZ : B ≤ w1.heap.size := by rw [HB.out]; exact b1.size
    have Q0 := Lib.hid (q_new B w1 HZ)
    have HC2 := Lib.hid (HC1.alloc HZ (.cells #[.slice none 0 0, .slice none 0 0] 28))
    obtain ⟨p, hp⟩ : ∃ p, p = w1.heap.size := ⟨_, rfl⟩
    rw [← hp] at Q0
    have HP := Lib.hid hp
    clear b1 HC HC1 hp
    go_wp2_with fail
    rw [← HP.out]
    refine (q_add Q0.out a (by simp; omega)).mono ?_
    rintro e w2 ⟨rfl, r1, b1⟩
    rw [List.nil_append] at r1
    have HC3 := Lib.hid (HC2.out.trans b1)
    clear b1 HC2 Q0
    go_wp2_with fail
    refine (q_all r1).mono ?_
    rintro e w3 ⟨rfl, rfl⟩
    rw [list_bytes]
    go_wp2_with fail
    refine (q_add r1 b (by rw [HAL.out]; omega)).mono ?_
    rintro e w4 ⟨rfl, r2, b2⟩
    have HC4 := Lib.hid (HC3.out.trans b2)
    clear b2 HC3 r1
    go_wp2_with fail
    refine (q_take r2 n k (by rw [List.length_append, HAL.out, HBL.out]; exact HK.out) (by rw [List.length_append, HAL.out, HBL.out]; omega)).mono ?_
    rintro e w5 ⟨rfl, r3, b3⟩
    rw [← HT.out]
    have HC5 := Lib.hid (HC4.out.trans b3)
    clear b3 HC4 r2
    go_wp2_with fail
    refine (q_all r3).mono ?_
    rintro e w6 ⟨rfl, rfl⟩
    rw [← HR.out]
    go_wp2_with fail
    refine (q_cut r3 0 0 (by omega) (by rw [List.length_drop, List.length_append, HAL.out, HBL.out]; omega) (by omega)).mono ?_
    rintro e w7 ⟨rfl, r4, b4⟩
    have HC6 := Lib.hid (HC5.out.trans b4)
    clear b4 HC5 r3
    rw [List.take_zero] at r4
    have hTR : (T ++ R).toList = (a ++ b).toList := by rw [HTR.out]
    go_wp2_with fail
    refine (q_len r4).mono ?_
    rintro e w8 ⟨rfl, rfl⟩
    go_wp2_with fail
    refine (q_all r4).mono ?_
    rintro e w8 ⟨rfl, rfl⟩
    go_wp2
    go_ret
    refine ⟨rfl, ?_⟩
    rw [← HB.out]
    exact HC6.out
theorem all_str {B : Nat} {w : World} {b : Nat} {x : ByteArray} {ns : List Nat} (h : QIs B w b x.data.toList ns) :
    Calls Try.prog 15 #[.pointer (some ⟨b, 0, none⟩)] w fun e w' => e = .returned (.string x) ∧ w = w' := by
  have := q_all h
  rw [list_bytes] at this
  exact this
theorem take_str {B : Nat} {w : World} {b : Nat} {x : ByteArray} {ns : List Nat} (h : QIs B w b x.data.toList ns) (n : Int) (hn : (x.size : Int) ≤ n) (hx : x.size ≤ 1000000) :
    Calls Try.prog 13 #[.pointer (some ⟨b, 0, none⟩), .int .i64 n] w fun e w' => e = .returned (.string x) ∧ QIs B w' b [] [] ∧ Below B w w' := by
  have hs := size_list x
  refine (q_take h n x.size (by omega) (by omega)).mono ?_
  rintro e w' ⟨rfl, r, hb⟩
  rw [List.drop_of_length_le (by omega)] at r
  rw [List.take_of_length_le (by omega), list_bytes]
  have hl := r.len_le
  have : dropN x.size ns = [] := List.eq_nil_of_length_eq_zero (by simpa using hl)
  rw [this] at r
  exact ⟨rfl, r, hb⟩
theorem len_zero {B : Nat} {w : World} {b : Nat} {ns : List Nat} (h : QIs B w b [] ns) :
    Calls Try.prog 16 #[.pointer (some ⟨b, 0, none⟩)] w fun e w' => e = .returned (.int .i64 0) ∧ w = w' := q_len h
theorem chunks_zero {B : Nat} {w : World} {b : Nat} (h : QIs B w b [] []) :
    Calls Try.prog 17 #[.pointer (some ⟨b, 0, none⟩)] w fun e w' => e = .returned (.int .i64 0) ∧ w = w' := q_chunks h
set_option maxHeartbeats 8000000 in
theorem cuts_any (a b c : ByteArray) (n : Int) (w : World) (ha : a.size ≤ 140737488351232) (hb : b.size ≤ 140737488351232) (hc : c.size ≤ 140737488351232) (hn : n ≤ 9223372036854775807) :
    Calls Try.prog 5 #[.string a, .string b, .string c, .int .i64 n] w fun e w' => e = .returned (.bool true) ∧ Below w.heap.size w w' := by
  by_cases h300 : 300 < a.size + b.size + c.size
  · go_enter Try.func5, Try.ntmps5
    go_wp2_with fail
    refine (alive_yes _).mono ?_
    rintro e w1 ⟨rfl, hb⟩
    go_wp2
    go_ret
    exact ⟨rfl, hb⟩
  · obtain ⟨B, hB⟩ : ∃ B, B = w.heap.size := ⟨_, rfl⟩
    have HB := Lib.hid hB
    have HC := Lib.hid (Below.refl B w)
    have hal : a.data.toList.length = a.size := size_list a
    have hbl : b.data.toList.length = b.size := size_list b
    have hcl : c.data.toList.length = c.size := size_list c
    obtain ⟨k, hk⟩ : ∃ k : Nat, min (max n 0) ((a.size : Int) + (b.size : Int)) = (k : Int) := ⟨(min (max n 0) ((a.size + b.size : Nat) : Int)).toNat, by omega⟩
    have hkab : k ≤ a.size + b.size := by omega
    have HK := Lib.hid hk
    have HAL := Lib.hid hal
    have HBL := Lib.hid hbl
    have HCL := Lib.hid hcl
    obtain ⟨T, hT⟩ : ∃ T : ByteArray, T = (a ++ b).extract 0 k := ⟨_, rfl⟩
    have hTl : T.data.toList = (a.data.toList ++ b.data.toList).take k := by rw [hT, ext_list]; simp
    have hTs : T.size = k := by rw [hT]; simp; omega
    have hX : ∀ W, (Instr.slice 9 (.string (a ++ b)) none (some (.int .i64 (k : Int))) none).run Try.prog W = .ok (.string T) W := by
      rw [hT]
      exact fun W => slice_str_hi (a ++ b) k (by simp; omega) W
    have HTL := Lib.hid hTl
    have HTS := Lib.hid hTs
    have hTS2 : T.size ≤ 300 := by omega
    clear hB hal hbl hcl hT hTl hTs
    go_enter Try.func5, Try.ntmps5
    clear hk
    go_wp2_with fail
    refine (alive_yes _).mono ?_
    rintro e w1 ⟨rfl, b1⟩
    have HC1 := HC.out.trans (b1.mono (by rw [HB.out]; exact Nat.le_refl _))
    have HZ : B ≤ w1.heap.size := by rw [HB.out]; exact b1.size
    have Q0 := Lib.hid (q_new B w1 HZ)
    have HC2 := Lib.hid (HC1.alloc HZ (.cells #[.slice none 0 0, .slice none 0 0] 28))
    obtain ⟨p, hp⟩ : ∃ p, p = w1.heap.size := ⟨_, rfl⟩
    rw [← hp] at Q0
    have HP := Lib.hid hp
    clear b1 HC HC1 hp
    go_wp2_with fail
    rw [← HP.out]
    refine (q_add Q0.out a (by simp; omega)).mono ?_
    rintro e w2 ⟨rfl, r1, b1⟩
    rw [List.nil_append] at r1
    have HC3 := Lib.hid (HC2.out.trans b1)
    clear b1 HC2 Q0
    go_wp2_with fail
    refine (q_add r1 b (by rw [HAL.out]; omega)).mono ?_
    rintro e w4 ⟨rfl, r2, b2⟩
    have HC4 := Lib.hid (HC3.out.trans b2)
    clear b2 HC3 r1
    have hk := HK.out
    go_wp2_with fail
    clear hk
    refine (q_cut r2 n k (by rw [List.length_append, HAL.out, HBL.out]; exact HK.out) (by rw [List.length_append, HAL.out, HBL.out]; omega) hn).mono ?_
    rintro e w5 ⟨rfl, r3, b3⟩
    rw [← HTL.out] at r3
    have HC5 := Lib.hid (HC4.out.trans b3)
    rw [List.length_append, HAL.out, HBL.out] at r3 ⊢
    rw [show (((a.size + b.size : Nat) : Int) - (k : Int)) = (a.size : Int) + b.size - k by omega]
    clear b3 HC4 r2
    go_wp2_with fail
    refine (q_add r3 c (by rw [size_list, HTS.out]; omega)).mono ?_
    rintro e w6 ⟨rfl, r4, b4⟩
    have HC6 := Lib.hid (HC5.out.trans b4)
    have R4 : QIs B w6 p (T ++ c).data.toList (cutN (a.size + b.size - k) (more a ++ more b) ++ more c) := by
      rw [ByteArray.data_append, Array.toList_append]
      exact r4
    clear b4 HC5 r3 r4
    generalize cutN (a.size + b.size - k) (more a ++ more b) ++ more c = N at R4
    have hTC : (T ++ c).size ≤ 600 := by simp; omega
    go_wp2_with fail
    obtain ⟨Y, hY⟩ : ∃ Y, T ++ c = Y := ⟨_, rfl⟩
    rw [hY] at R4 hTC
    have hE : (Y.toList == Y.toList) = true := by simp
    have hl1 : ¬ 9223372036854775807 < a.size + b.size := by omega
    have hl2 : ¬ 9223372036854775807 < T.size + c.size := by omega
    have hw0 : IntKind.i64.wrap 0 = 0 := by decide
    go_region_held3 (fun w' => True) (first | exact trivial) (first
      | ((go_at_call 15); (with_reducible refine (all_str (QIs.drew R4)).mono ?_); rintro e v1 ⟨rfl, rfl⟩)
      | ((go_at_call 13); (with_reducible refine (take_str (QIs.drew R4) 1000 (by omega) (by omega)).mono ?_); rintro e v1 ⟨rfl, r5, b5⟩)
      | ((go_at_call 16); (with_reducible refine (len_zero r5).mono ?_); rintro e v2 ⟨rfl, rfl⟩)
      | ((go_at_call 17); (with_reducible refine (chunks_zero r5).mono ?_); rintro e v2 ⟨rfl, rfl⟩))
    go_wp2
    go_ret
    refine ⟨rfl, ?_⟩
    rw [← HB.out]
    exact HC6.out.drew.trans b5

/-- How many of the first strings are not empty; all their bytes. -/
def cnt (S : Nat → ByteArray) : Nat → List Nat
  | 0 => []
  | k + 1 => cnt S k ++ more (S k)
def cat (S : Nat → ByteArray) : Nat → ByteArray
  | 0 => ⟨#[]⟩
  | k + 1 => cat S k ++ S k
/-- A slice of strings that came in. -/
def StrsAt (w : World) (B : Nat) (A : Option Addr) (n : Nat) (S : Nat → ByteArray) : Prop :=
  0 < n → ∃ b off, A = some ⟨b, off, none⟩ ∧ b < B ∧ ∀ i, i < n → w.cell? ⟨b, off + i, none⟩ = some (.string (S i))
theorem cat_size (S : Nat → ByteArray) : ∀ k, (∀ i, i < k → (S i).size ≤ 100) → (cat S k).size ≤ 100 * k
  | 0, _ => by simp [cat]; rfl
  | k + 1, h => by
    have := cat_size S k (fun i hi => h i (by omega))
    have := h k (by omega)
    simp [cat]
    omega
set_option maxHeartbeats 1000000 in
theorem bytes_any (A : Option Addr) (n c : Nat) (S : Nat → ByteArray) (w : World) (hm : n ≤ 9223372036854775807) (hS : StrsAt w w.heap.size A n S) (hz : ∀ i, i < n → (S i).size ≤ 9223372036854775807) :
    Calls Try.prog 6 #[.slice A n c] w fun e w' => e = .returned (.bool true) ∧ Below w.heap.size w w' := by
  by_cases h30 : 30 < n
  · go_enter Try.func6, Try.ntmps6
    go_wp2_with fail
    refine (alive_yes _).mono ?_
    rintro e w1 ⟨rfl, hb⟩
    go_wp2
    go_ret
    exact ⟨rfl, hb⟩
  · obtain ⟨B, hB⟩ : ∃ B, B = w.heap.size := ⟨_, rfl⟩
    rw [← hB] at hS
    have HB := Lib.hid hB
    have HC := Lib.hid (Below.refl B w)
    have HS := Lib.hid hS
    have HZs := Lib.hid hz
    clear hB hS hz
    go_enter Try.func6, Try.ntmps6
    go_wp2_with fail
    refine (alive_yes _).mono ?_
    rintro e w1 ⟨rfl, b1⟩
    have HC1 := HC.out.trans (b1.mono (by rw [HB.out]; exact Nat.le_refl _))
    have HZ : B ≤ w1.heap.size := by rw [HB.out]; exact b1.size
    have Q0 := q_new B w1 HZ
    have HC2 := Lib.hid (HC1.alloc HZ (.cells #[.slice none 0 0, .slice none 0 0] 28))
    obtain ⟨p, hp⟩ : ∃ p, p = w1.heap.size := ⟨_, rfl⟩
    rw [← hp] at Q0
    have HP := Lib.hid hp
    clear b1 HC HC1 hp
    go_wp2
    rw [← HP.out]
    go_loopw [4, 5, 7, 25] (fun all m _ i wr => ∃ k : Nat, k ≤ n ∧ i = .int .i64 k ∧ all = .string (cat S k) ∧ m = .int .i64 ((cnt S k).length : Nat) ∧ (∀ i, i < k → (S i).size ≤ 100) ∧ QIs B wr p (cat S k).data.toList (cnt S k) ∧ Hid (Below B w wr)) (fun _ _ _ i _ => n - (RowKit.intOf i).toNat)
    case atStart => exact ⟨0, Nat.zero_le _, rfl, rfl, rfl, by omega, Q0, HC2⟩
    case round =>
      obtain ⟨k, hk, rfl, rfl, rfl, hz, r, hw⟩ := hrel
      clear Q0 HC2
      have hcat := cat_size S k hz
      have hcl : (cnt S k).length ≤ 3000 := by have := r.len_le; rw [size_list] at this; omega
      by_cases hlt : k < n
      · obtain ⟨b, off, rfl, hbB, hcells⟩ := HS.out (by omega)
        have c0 := (hw.out.cell (p := ⟨b, off + k, none⟩) hbB).trans (hcells k hlt)
        have hzk := HZs.out k hlt
        have HZ2 := Lib.hid hz
        have hca : cat S (k + 1) = cat S k ++ S k := rfl
        have hcn : cnt S (k + 1) = cnt S k ++ more (S k) := rfl
        have HCA := Lib.hid hca
        have HCN := Lib.hid hcn
        clear hcells hca hcn hz
        generalize cat S k = X at *
        generalize cnt S k = N at *
        obtain ⟨s, hs⟩ : ∃ s, s = S k := ⟨_, rfl⟩
        rw [← hs] at c0 hzk HCA HCN
        have hS := Lib.hid hs
        clear hs
        by_cases h100 : 100 < s.size
        · go_wp2
          go_ret
          refine ⟨rfl, ?_⟩
          rw [← HB.out]
          exact hw.out
        · go_wp2_with fail
          refine (q_add r s (by rw [size_list]; omega)).mono ?_
          rintro e w2 ⟨rfl, r2, b2⟩
          have hw2 := Lib.hid (hw.out.trans b2)
          have r3 : QIs B w2 p (cat S (k + 1)).data.toList (cnt S (k + 1)) := by
            rw [HCA.out, HCN.out, ByteArray.data_append, Array.toList_append]
            exact r2
          clear r2 b2 r c0
          by_cases h0 : s.size = 0
          · have hse : s.toList = [] := toList_nil h0
            have hse2 : s.toList.isEmpty = true := by rw [hse]; rfl
            go_wp2
            go_roundw
            case rel => exact ⟨k + 1, by omega, by go_num, by rw [HCA.out], by rw [HCN.out]; simp [more, h0], fun i hi => by
              rcases Nat.lt_or_ge i k with h | h
              · exact HZ2.out i h
              · rw [show i = k by omega, ← hS.out]; omega, r3, hw2⟩
            case measure => simp [RowKit.intOf]; omega
          · have hse : ¬ s.toList = [] := fun e => h0 (size_nil e)
            have hse2 : s.toList.isEmpty = false := by rw [List.isEmpty_eq_false_iff]; exact hse
            go_wp2
            go_roundw
            case rel => exact ⟨k + 1, by omega, by go_num, by rw [HCA.out], by rw [HCN.out]; simp [more, h0], fun i hi => by
              rcases Nat.lt_or_ge i k with h | h
              · exact HZ2.out i h
              · rw [show i = k by omega, ← hS.out]; omega, r3, hw2⟩
            case measure => simp [RowKit.intOf]; omega
      · obtain rfl : k = n := by omega
        generalize cat S k = X at *
        generalize cnt S k = N at *
        clear hz
        go_wp2_with fail
        refine (q_chunks r).mono ?_
        rintro e w2 ⟨rfl, rfl⟩
        go_wp2
        have hX : X.size ≤ 3000 := by omega
        clear hcat hcl HS HZs hlt hk h30
        go_loopw [8, 9, 10] (fun i _ _ wr => ∃ (j : Nat) (N : List Nat), j ≤ X.size ∧ i = .int .i64 j ∧ QIs B wr p (X.data.toList.drop j) N ∧ Hid (Below B w wr)) (fun i _ _ _ => X.size - (RowKit.intOf i).toNat)
        case atStart => exact ⟨0, N, Nat.zero_le _, rfl, r, hw⟩
        case round =>
          obtain ⟨j, N2, hj, rfl, r2, hw2⟩ := hrel
          clear r hw
          have hsz := size_list X
          by_cases hjl : j < X.size
          · have hd : X.data.toList.drop j = X[j] :: X.data.toList.drop (j + 1) := by
              rw [List.drop_eq_getElem_cons (by omega)]
              rfl
            rw [hd] at r2
            have hlen : (X.data.toList.drop (j + 1)).length = X.size - j - 1 := by rw [List.length_drop]; omega
            have hleni : ((X.data.toList.drop (j + 1)).length : Int) = (X.size : Int) - j - 1 := by omega
            have HL := Lib.hid hlen
            have HLI := Lib.hid hleni
            clear hd hsz hlen hleni
            go_wp2_with fail
            refine (q_next r2 (by rw [HL.out]; omega)).mono ?_
            rintro e w3 ⟨rfl, r3, b3⟩
            have hw3 := Lib.hid (hw2.out.trans b3)
            clear b3 r2
            go_wp2_with fail
            refine (q_len r3).mono ?_
            rintro e w4 ⟨rfl, rfl⟩
            rw [HLI.out]
            go_wp2
            go_roundw
            case rel => exact ⟨j + 1, _, by omega, by go_num, r3, hw3⟩
            case measure => simp [RowKit.intOf]; omega
          · obtain rfl : j = X.size := by omega
            rw [List.drop_of_length_le (by omega)] at r2
            clear hsz
            go_wp2_with fail
            refine (q_none r2).mono ?_
            rintro e w3 ⟨rfl, rfl⟩
            go_wp2
            go_ret
            refine ⟨rfl, ?_⟩
            rw [← HB.out]
            exact hw2.out
end Go.Proofs.Ytckjbheabbpddaa
