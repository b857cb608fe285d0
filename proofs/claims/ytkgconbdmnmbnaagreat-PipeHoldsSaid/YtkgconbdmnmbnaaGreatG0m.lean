/-
  Parts: EscG, EscH, BaseMach, Sb, BasePut, OutLen, JoutD, Isb, JoutE.
-/
import Derived.Test.YtkgconbdmnmbnaaGreatG0b
import Derived.Test.YtkgconbdmnmbnaaGreatG0a
import Derived.Test.YtkgconbdmnmbnaaGreatG0l
import Derived.Lib.RuneBytes
import Derived.Deep.QuietTactic
import Derived.OwnWalk
import Derived.Laws.RangeAny
import Derived.Test.YtkgconbdmnmbnaaGreatG0k
import Derived.Shelf.Strings.Builder2
import Derived.Shelf.Strings.BuilderF
import Derived.Shelf.Strings.BuilderK
import Derived.Below
set_option maxRecDepth 100000
set_option maxHeartbeats 16000000
open Go.Lib (hid)
namespace Go.Proofs.YtkgconbdmnmbnaaGreat
section
open Go.RowKit
open Go.Lib
def escO (r : Nat) : List UInt8 :=
  if r = 34 then [92, 34] else if r = 92 then [92, 92] else if r = 8 then [92, 98] else if r = 12 then [92, 102] else if r = 10 then [92, 110] else if r = 13 then [92, 114] else if r = 9 then [92, 116]
  else if r < 32 then [92, 117, 48, 48, hexD (r / 16), hexD (r % 16)] else []
theorem escO_byte (b : UInt8) : escB b = if escO b.toNat = [] then [b] else escO b.toNat := by
  unfold escB escO; by_cases h1 : b.toNat = 34
  · have : b = 34 := UInt8.toNat_inj.1 h1
    subst this; rfl
  by_cases h2 : b.toNat = 92
  · have : b = 92 := UInt8.toNat_inj.1 h2
    subst this; rfl
  rw [if_neg (by omega), if_neg h1, if_neg h2]
  repeat' split
  all_goals first | rfl | simp_all
theorem escO_high {r : Nat} (h : 128 ≤ r) : escO r = [] := by
  unfold escO; rw [if_neg (by omega), if_neg (by omega), if_neg (by omega), if_neg (by omega), if_neg (by omega), if_neg (by omega), if_neg (by omega), if_neg (by omega)]
def hexS : ByteArray := ⟨#[48, 49, 50, 51, 52, 53, 54, 55, 56, 57, 97, 98, 99, 100, 101, 102]⟩
theorem hexS_at : ∀ n : Fin 16, hexS.extract n.val (n.val + 1) = ⟨#[hexD n.val]⟩ := by decide +kernel
theorem slice_hex (n : Nat) (h : n < 16) (W : World) : (Instr.slice 9 (.string hexS) (some (.int .i32 (n : Int))) (some (.int .i32 ((n : Int) + 1))) none).run Tryz.prog W = .ok (.string ⟨#[hexD n]⟩) W := by
  rw [run_slice_string W 9 hexS .i32 .i32 _ _ Tryz.underlying9 (by omega) (by omega) (by show ((n : Int) + 1) ≤ 16; omega)]; have := hexS_at ⟨n, h⟩; simp only [] at this; rw [← this]; congr 3
theorem and15 (r : Nat) (h : r < 2147483648) : bits .and .i32 (r : Int) 15 = ((r % 16 : Nat) : Int) := by
  have h1 : (BitVec.ofInt 32 (r : Int)).toNat = r := by
    rw [BitVec.ofInt_natCast, BitVec.toNat_ofNat]; exact Nat.mod_eq_of_lt (by omega)
  have h2 : (BitVec.ofInt 32 (15 : Int)).toNat = 15 := by decide
  show IntKind.i32.wrap ((BitVec.ofInt 32 (r : Int) &&& BitVec.ofInt 32 (15 : Int)).toNat : Int) = _; rw [BitVec.toNat_and, h1, h2, show 15 = 2 ^ 4 - 1 by decide, Nat.and_two_pow_sub_one_eq_mod, IntKind.wrap_i32]; omega
theorem escOf_ctl (r : Nat) (hr : r < 32) (h1 : r ≠ 8) (h2 : r ≠ 9) (h3 : r ≠ 10) (h4 : r ≠ 12) (h5 : r ≠ 13) (w : World) :
    Calls Tryz.prog 224 #[.int .i32 r] w fun e w' => e = .returned (.string ⟨#[92, 117, 48, 48, hexD (r / 16), hexD (r % 16)]⟩) ∧ ∃ q, w' = w.drewN q := by
  have z1 : ((r : Int) == 34) = false := by rw [beq_eq_false_iff_ne]; omega
  have z2 : ((r : Int) == 92) = false := by rw [beq_eq_false_iff_ne]; omega
  have z3 : ((r : Int) == 8) = false := by rw [beq_eq_false_iff_ne]; omega
  have z4 : ((r : Int) == 12) = false := by rw [beq_eq_false_iff_ne]; omega
  have z5 : ((r : Int) == 10) = false := by rw [beq_eq_false_iff_ne]; omega
  have z6 : ((r : Int) == 13) = false := by rw [beq_eq_false_iff_ne]; omega
  have z7 : ((r : Int) == 9) = false := by rw [beq_eq_false_iff_ne]; omega
  have z8 : ((r : Int) < 32) = True := by simp only [eq_iff_iff, iff_true]; omega
  have hS1 := slice_hex (r / 16) (by omega); have hS2 := slice_hex (r % 16) (by omega); have hb := and15 r (by omega); have hw1 : IntKind.i32.wrap ((r : Int) / 16 + 1) = (r : Int) / 16 + 1 := wrap32 _ (by omega) (by omega); have hw2 : IntKind.i32.wrap (((r % 16 : Nat) : Int) + 1) = ((r % 16 : Nat) : Int) + 1 := wrap32 _ (by omega) (by omega); rw [show ((r / 16 : Nat) : Int) = (r : Int) / 16 by omega] at hS1; obtain ⟨m, hm⟩ : ∃ m : Int, ((r % 16 : Nat) : Int) = m := ⟨_, rfl⟩
  rw [hm] at hS2 hb hw2; have hX : (⟨#[92, 117, 48, 48, hexD (r / 16), hexD (r % 16)]⟩ : ByteArray) = (⟨#[92, 117, 48, 48]⟩ ++ ⟨#[hexD (r / 16)]⟩) ++ ⟨#[hexD (r % 16)]⟩ := rfl; rw [hX]; obtain ⟨X1, hx1⟩ : ∃ X1 : ByteArray, (⟨#[hexD (r / 16)]⟩ : ByteArray) = X1 := ⟨_, rfl⟩
  obtain ⟨X2, hx2⟩ : ∃ X2 : ByteArray, (⟨#[hexD (r % 16)]⟩ : ByteArray) = X2 := ⟨_, rfl⟩
  have s1 : X1.size = 1 := by rw [← hx1]; rfl
  have s2 : X2.size = 1 := by rw [← hx2]; rfl
  rw [hx1] at hS1; rw [hx2] at hS2; rw [hx1, hx2]; unfold hexS at hS1 hS2; clear hx1 hx2 hX hm h1 h2 h3 h4 h5 hr; go_enter Tryz.func224, Tryz.ntmps224; (go_wp2_with fail)
  go_quiet (fail)
  go_wp2; go_ret; exact ⟨rfl, nq, rfl⟩
theorem escOf_any (r : Nat) (w : World) :
    Calls Tryz.prog 224 #[.int .i32 r] w fun e w' => e = .returned (.string ⟨(escO r).toArray⟩) ∧ ∃ q, w' = w.drewN q := by
  by_cases c0 : r = 34
  · subst c0
    go_enter Tryz.func224, Tryz.ntmps224; go_wp2; go_ret; exact ⟨rfl, 0, rfl⟩
  by_cases c1 : r = 92
  · subst c1
    go_enter Tryz.func224, Tryz.ntmps224; go_wp2; go_ret; exact ⟨rfl, 0, rfl⟩
  by_cases c2 : r = 8
  · subst c2
    go_enter Tryz.func224, Tryz.ntmps224; go_wp2; go_ret; exact ⟨rfl, 0, rfl⟩
  by_cases c3 : r = 12
  · subst c3
    go_enter Tryz.func224, Tryz.ntmps224; go_wp2; go_ret; exact ⟨rfl, 0, rfl⟩
  by_cases c4 : r = 10
  · subst c4
    go_enter Tryz.func224, Tryz.ntmps224; go_wp2; go_ret; exact ⟨rfl, 0, rfl⟩
  by_cases c5 : r = 13
  · subst c5
    go_enter Tryz.func224, Tryz.ntmps224; go_wp2; go_ret; exact ⟨rfl, 0, rfl⟩
  by_cases c6 : r = 9
  · subst c6
    go_enter Tryz.func224, Tryz.ntmps224; go_wp2; go_ret; exact ⟨rfl, 0, rfl⟩
  by_cases c8 : r < 32
  · have he : escO r = [92, 117, 48, 48, hexD (r / 16), hexD (r % 16)] := by
      unfold escO; rw [if_neg c0, if_neg c1, if_neg c2, if_neg c3, if_neg c4, if_neg c5, if_neg c6, if_pos c8]
    rw [he]; exact escOf_ctl r c8 c2 c6 c4 c3 c5 w
  have he : escO r = [] := by
    unfold escO; rw [if_neg c0, if_neg c1, if_neg c2, if_neg c3, if_neg c4, if_neg c5, if_neg c6, if_neg c8]
  rw [he]; have z1 : ((r : Int) == 34) = false := by rw [beq_eq_false_iff_ne]; omega
  have z2 : ((r : Int) == 92) = false := by rw [beq_eq_false_iff_ne]; omega
  have z3 : ((r : Int) == 8) = false := by rw [beq_eq_false_iff_ne]; omega
  have z4 : ((r : Int) == 12) = false := by rw [beq_eq_false_iff_ne]; omega
  have z5 : ((r : Int) == 10) = false := by rw [beq_eq_false_iff_ne]; omega
  have z6 : ((r : Int) == 13) = false := by rw [beq_eq_false_iff_ne]; omega
  have z7 : ((r : Int) == 9) = false := by rw [beq_eq_false_iff_ne]; omega
  have z8 : ((r : Int) < 32) = False := by simp only [eq_iff_iff, iff_false]; omega
  clear c0 c1 c2 c3 c4 c5 c6 c8 he; go_enter Tryz.func224, Tryz.ntmps224; go_wp2; go_ret; exact ⟨rfl, 0, rfl⟩
theorem head_take {l : List UInt8} {n : Nat} {a : UInt8} {rest : List UInt8} (h : a :: rest = l.take n) : l.getD 0 0 = a := by
  match l, n, h with
  | [], n, h => simp at h
  | x :: t, 0, h => simp at h
  | x :: t, n + 1, h =>
    rw [List.take_succ_cons] at h
    injection h with h1 _
    exact h1.symm
theorem hi_bytes (l : List UInt8) (hne : l ≠ []) (h0 : 128 ≤ (l.getD 0 0).toNat) : ∀ b ∈ l.take (decodeL l).2, 128 ≤ b.toNat := by
  by_cases hg : (decodeL l).1 = 65533 ∧ (decodeL l).2 = 1
  · rw [hg.2]
    match l, hne with
    | a :: t, _ =>
      intro b hb; simp only [List.take_succ_cons, List.take_zero, List.mem_singleton] at hb; subst hb; exact h0
  · obtain ⟨hr, he, hl⟩ := enc_dec l hne hg
    rw [← he]; obtain ⟨a, rest, hf, h⟩ := enc_form hr; rw [hf] at he ⊢; have ha : l.getD 0 0 = a := head_take he; rw [ha] at h0; rcases h with ⟨hr0, hn, hlt⟩ | ⟨hge, lo, hi, h1, h2, h3, h4, h5, h6, h7⟩
    · omega
    · intro b hb
      clear he hf ha; rcases List.mem_cons.1 hb with e | hb
      · rw [e]; exact h0
      · exact (h7 b hb).1
theorem escW_high (l : List UInt8) (h : ∀ b ∈ l, 128 ≤ b.toNat) : escW l = l := by
  induction l with
  | nil => rfl
  | cons b t ih =>
    rw [escW_cons, esc_high (h b (by simp)), ih (fun c hc => h c (by simp [hc]))]; rfl
end
section
open Go.RowKit
open Go.Lib
structure WrS (s : ByteArray) (B : Nat) (w0 wr : World) (kb bb pos at_ : Nat) (acc : List UInt8) : Prop where
  bld : IsB B bb acc wr
  it : wr.heap[kb]? = some (.stringIter s pos)
  below : Below B w0 wr
  hle : at_ ≤ pos
  hsz : at_ ≤ s.size
  eq : acc ++ (s.data.toList.take pos).drop at_ = escW (s.data.toList.take pos)
  hB : B ≤ bb
  hkb : bb < kb
theorem WrS.len {s : ByteArray} {B : Nat} {w0 wr : World} {kb bb pos at_ : Nat} {acc : List UInt8} (h : WrS s B w0 wr kb bb pos at_ acc) : acc.length ≤ 6 * s.size := by
  have h1 := congrArg List.length h.eq; have h2 := escW_len (s.data.toList.take pos); rw [List.length_append] at h1; have h3 : (s.data.toList.take pos).length ≤ s.size := by
    rw [List.length_take, size_list]; omega
  omega
theorem WrS.sz {s : ByteArray} {B : Nat} {w0 wr : World} {kb bb pos at_ : Nat} {acc : List UInt8} (h : WrS s B w0 wr kb bb pos at_ acc) : B ≤ wr.heap.size := by
  have := (Array.getElem?_eq_some_iff.1 h.it).1; have := h.hB; have := h.hkb; omega
theorem take_add' (l : List UInt8) (p n : Nat) : l.take (p + n) = l.take p ++ (l.drop p).take n := by rw [List.take_add]
theorem getD_at (s : ByteArray) (pos : Nat) (h : pos < s.size) : (s.data.toList.drop pos).getD 0 0 = s[pos]'h := by
  have hl : s.data.toList.length = s.size := size_list s; rw [List.getD_eq_getElem?_getD, List.getElem?_drop, Nat.add_zero, List.getElem?_eq_getElem (by omega)]; rfl
theorem drop_ne (s : ByteArray) (pos : Nat) (h : pos < s.size) : s.data.toList.drop pos ≠ [] := by
  intro e; have := congrArg List.length e; rw [List.length_drop, size_list] at this; simp at this; omega
theorem drop_head (s : ByteArray) (pos : Nat) (h : pos < s.size) : (s.data.toList.drop pos).take 1 = [s[pos]'h] := by
  have h1 := getD_at s pos h; have h2 := drop_ne s pos h
  match hh : s.data.toList.drop pos, h2 with
  | x :: t, _ =>
    rw [hh] at h1; simp only [List.getD_cons_zero] at h1; rw [h1]; rfl
theorem dec_keep (s : ByteArray) (pos : Nat) (h : pos < s.size) (he : escO (Utf8.decode s pos).1 = []) : escW ((s.data.toList.drop pos).take (Utf8.decode s pos).2) = (s.data.toList.drop pos).take (Utf8.decode s pos).2 := by
  by_cases ha : (s[pos]'h).toNat < 128
  · rw [decode_ascii s pos h ha] at he ⊢
    simp only [] at he ⊢; rw [drop_head s pos h, escW_cons, escO_byte, if_pos he]; rfl
  · refine escW_high _ ?_
    have := hi_bytes (s.data.toList.drop pos) (drop_ne s pos h) (by rw [getD_at s pos h]; omega); rw [decodeL_drop s pos] at this; exact this
theorem dec_esc (s : ByteArray) (pos : Nat) (h : pos < s.size) (he : escO (Utf8.decode s pos).1 ≠ []) : Utf8.decode s pos = ((s[pos]'h).toNat, 1) ∧ escB (s[pos]'h) = escO (Utf8.decode s pos).1 := by
  by_cases ha : (s[pos]'h).toNat < 128
  · have := decode_ascii s pos h ha
    rw [this] at he ⊢; simp only [] at he ⊢; exact ⟨trivial, by rw [escO_byte, if_neg he]⟩
  · have := decode_high s pos h (by omega)
    exact absurd (escO_high this.1) he
theorem wid_pos (s : ByteArray) (pos : Nat) (h : pos < s.size) : 1 ≤ (Utf8.decode s pos).2 := by
  by_cases ha : (s[pos]'h).toNat < 128
  · rw [decode_ascii s pos h ha]
    exact Nat.le_refl _
  · exact (decode_high s pos h (by omega)).2
theorem ext_l (s : ByteArray) (a k : Nat) : (s.extract a k).data.toList = (s.data.toList.take k).drop a := ext_list s a k
theorem drop_app (a b : List UInt8) (k : Nat) (h : k ≤ a.length) : (a ++ b).drop k = a.drop k ++ b := by
  rw [List.drop_append_of_le_length h]
theorem str_ne {z : ByteArray} {l : List UInt8} (hz : z = ⟨l.toArray⟩) (hl : l ≠ []) : z.toList.isEmpty = false ∧ (z.toList = []) = False := by
  have : z.toList = l := by rw [hz, ByteArray.toList_eq]
  rw [this]; exact ⟨by cases l with | nil => exact absurd rfl hl | cons => rfl, by simp [hl]⟩
theorem write_any (s : ByteArray) (w : World) (hs : s.size ≤ 1000000) :
    Calls Tryz.prog 219 #[.string s] w fun e w' => e = .returned (.string ⟨(escW s.data.toList).toArray⟩) ∧ Below w.heap.size w w' := by
  have hl : s.data.toList.length = s.size := size_list s; obtain ⟨B, hB⟩ : ∃ B, B = w.heap.size := ⟨_, rfl⟩
  have H0 : Hid (WrS s w.heap.size w ((w.alloc (.cells #[.pointer none, .slice none 0 0] 72)).iter s 0) (w.heap.size + 1) w.heap.size 0 0 []) := hid {
    bld := (Lib.IsBuilderF.of (Lib.fresh_isBuilder 72 5 w)).alloc _
    it := by
      have := World.iter_heap (w.alloc (.cells #[.pointer none, .slice none 0 0] 72)) s 0; simpa using this
    below := ((Below.refl _ w).alloc (Nat.le_refl _) _).alloc (by simp) _
    hle := Nat.le_refl _
    hsz := Nat.zero_le _
    eq := by simp [escW]
    hB := Nat.le_refl _
    hkb := by omega }
  have HB := hid hB; rw [← hB]; rw [← hB] at H0; clear hB; obtain ⟨Z, hZ⟩ : ∃ Z : ByteArray, Z = ⟨(escW s.data.toList).toArray⟩ := ⟨_, rfl⟩
  rw [← hZ]; have HZ := hid hZ; clear hZ; go_enter Tryz.func219, Tryz.ntmps219; (go_wp2_with fail); rw [← HB.out]; generalize (w.alloc (.cells #[.pointer none, .slice none 0 0] 72)).iter s 0 = W at H0 ⊢; generalize hkb : B + 1 = kb at H0 ⊢; clear hkb HB
  go_loopw [4] (fun a wr => ∃ (pos at_ : Nat) (acc : List UInt8), a = .int .i64 at_ ∧ Hid (WrS s B w wr kb B pos at_ acc)) (fun _ wr => s.size - wr.iterPos kb)
  case atStart => exact ⟨0, 0, [], rfl, H0⟩
  case round =>
    obtain ⟨pos, at_, acc, rfl, HC⟩ := hrel; clear H0; have hit := HC.out.it; have hipos : wr.iterPos kb = pos := by simp only [World.iterPos, hit]
    by_cases hp : pos < s.size
    · have hnx : ∀ ty, (Instr.next (.pointer (some ⟨kb, 0, none⟩)) true ty).run Tryz.prog wr = _ := fun ty => Lib.run_next_any_at wr kb s pos ty hit hp
      have F1 := wid_pos s pos hp; have F2 := dec_keep s pos hp; have F3 : escO (Utf8.decode s pos).1 ≠ [] → (Utf8.decode s pos).2 = 1 ∧ escW (s.data.toList.take (pos + 1)) = escW (s.data.toList.take pos) ++ escO (Utf8.decode s pos).1 := by
        intro h; obtain ⟨h1, h2⟩ := dec_esc s pos hp h; refine ⟨by rw [h1], ?_⟩; rw [take_add', drop_head s pos hp, escW_append, ← h2]; simp [escW]
      have hE := escOf_any (Utf8.decode s pos).1; generalize (Utf8.decode s pos).1 = r at *
      generalize (Utf8.decode s pos).2 = n at *
      have hit2 := Lib.iterAt_heap wr kb s pos (pos + n) hit; have h1 : WrS s B w (wr.iterAt kb s (pos + n)) kb B pos at_ acc → False ∨ True := fun _ => .inr trivial
      have hI2 : IsB B B acc (wr.iterAt kb s (pos + n)) := HC.out.bld.iterAt hit (pos + n); have hb2 : Below B w (wr.iterAt kb s (pos + n)) := Lib.below_iterAt HC.out.below (Nat.le_of_lt HC.out.hkb) s (pos + n); have hsz2 : B ≤ (wr.iterAt kb s (pos + n)).heap.size := by rw [Lib.iterAt_size]; exact HC.out.sz
      have H2 := hid (And.intro hit2 (And.intro hI2 (And.intro hb2 hsz2))); have HE := hid hE; have hat : at_ ≤ (s.data.toList.take pos).length := by
        have := HC.out.hle; have := HC.out.hsz; rw [List.length_take, hl]; omega
      clear h1 hit2 hI2 hb2 hsz2 hE; generalize wr.iterAt kb s (pos + n) = W1 at H2 hnx ⊢; by_cases h0 : escO r = []
      · have F := F2 h0
        have HN : ∀ q, Hid (WrS s B w (W1.drewN q) kb B (pos + n) at_ acc) := fun q => hid {
          bld := H2.out.2.1
          it := H2.out.1
          below := below_drewN H2.out.2.2.1 q
          hle := by have := HC.out.hle; omega
          hsz := HC.out.hsz
          eq := by rw [take_add', drop_app _ _ _ hat, escW_append, F, ← HC.out.eq, List.append_assoc]
          hB := HC.out.hB
          hkb := HC.out.hkb }
        rw [h0] at HE; clear F F2 F3 h0 hat; (go_wp2_with fail); refine (HE.out _).mono ?_; rintro e w2 ⟨rfl, q, rfl⟩; have HM := HN q; go_wp2
        go_roundw
        case rel => exact ⟨pos + n, at_, acc, rfl, HM⟩
        case measure =>
          have := HM.out.it; simp only [World.iterPos, this, hit]; omega
      · obtain ⟨rfl, F⟩ := F3 h0
        obtain ⟨z, hz⟩ : ∃ z : ByteArray, z = ⟨(escO r).toArray⟩ := ⟨_, rfl⟩
        have hzl : z.data.toList = escO r := by rw [hz]
        obtain ⟨hz1, hz2⟩ := str_ne hz h0; rw [← hz] at HE; have hls := escW_len (s.data.toList.take pos); have hts : (s.data.toList.take pos).length ≤ s.size := by rw [List.length_take, hl]; omega
        have hel : (escO r).length ≤ 6 := by
          unfold escO
          repeat' split
          all_goals simp
        have hS := slice_str_lh s at_ pos HC.out.hle (Nat.le_of_lt hp); obtain ⟨y, hy⟩ : ∃ y, s.extract at_ pos = y := ⟨_, rfl⟩
        rw [hy] at hS; have hyl : y.data.toList = (s.data.toList.take pos).drop at_ := by rw [← hy]; exact ext_l s at_ pos
        have heq := HC.out.eq; rw [← hyl] at heq; have hyz : y.size ≤ s.size := by
          rw [← size_list y, hyl, List.length_drop]; omega
        have hzz : z.size ≤ 6 := by rw [← size_list z, hzl]; exact hel
        have HL := hid (And.intro heq (And.intro hzl (And.intro F (And.intro hls (And.intro hts (And.intro hyz hzz)))))); have hyz' : (y.size : Int) ≤ 2000000 := by omega
        have hzz' : (z.size : Int) ≤ 6 := by omega
        clear heq hzl F hls hts hel hy hyl hz F2 F3 h0 hat hyz hzz; (go_wp2_with fail); refine (HE.out _).mono ?_; rintro e w2 ⟨rfl, q, rfl⟩; have H3 : Hid ((W1.drewN q).heap[kb]? = some (.stringIter s (pos + 1)) ∧ IsB B B acc (W1.drewN q) ∧ Below B w (W1.drewN q) ∧ B ≤ (W1.drewN q).heap.size) := hid ⟨H2.out.1, H2.out.2.1, below_drewN H2.out.2.2.1 q, H2.out.2.2.2⟩; generalize W1.drewN q = W2 at H3 ⊢; clear H2 HE; (go_wp2_with fail); refine (sb_write B B acc y W2 H3.out.2.1 (by have := HC.out.len; have := HL.out; omega) H3.out.2.2.2).mono ?_; rintro e w3 ⟨rfl, i3, b3, k3⟩; have hk3 := k3.iter H3.out.1 (by have := HC.out.hkb; omega); rw [HL.out.1] at i3; have H4 : Hid (w3.heap[kb]? = some (.stringIter s (pos + 1)) ∧ IsB B B (escW (s.data.toList.take pos)) w3 ∧ Below B w w3 ∧ B ≤ w3.heap.size) := hid ⟨hk3, i3, H3.out.2.2.1.trans b3, Nat.le_trans H3.out.2.2.2 (by
          have := (Array.getElem?_eq_some_iff.1 H3.out.1).1; have := (Array.getElem?_eq_some_iff.1 hk3).1; have := HC.out.hkb; have := b3.size; omega)⟩
        clear hk3 i3 b3 k3 H3; (go_wp2_with fail); refine (sb_write B B _ z w3 H4.out.2.1 (by have := HL.out; omega) H4.out.2.2.2).mono ?_; rintro e w4 ⟨rfl, i4, b4, k4⟩; have hk4 := k4.iter H4.out.1 (by have := HC.out.hkb; omega); rw [HL.out.2.1, ← HL.out.2.2.1] at i4; have HM : Hid (WrS s B w w4 kb B (pos + 1) (pos + 1) (escW (s.data.toList.take (pos + 1)))) := hid {
          bld := i4
          it := hk4
          below := H4.out.2.2.1.trans b4
          hle := Nat.le_refl _
          hsz := by omega
          eq := by rw [List.drop_of_length_le (by rw [List.length_take]; omega), List.append_nil]
          hB := HC.out.hB
          hkb := HC.out.hkb }
        clear hk4 i4 b4 k4 H4; go_wp2
        go_roundw
        case rel => exact ⟨pos + 1, pos + 1, _, by go_num, HM⟩
        case measure =>
          have := HM.out.it; simp only [World.iterPos, this, hit]; omega
    · have hnx : ∀ ty, (Instr.next (.pointer (some ⟨kb, 0, none⟩)) true ty).run Tryz.prog wr = _ := fun ty => Lib.run_next_end_at wr kb s pos ty hit hp
      have hS := slice_str_lo s at_ HC.out.hsz; obtain ⟨y, hy⟩ : ∃ y, s.extract at_ s.size = y := ⟨_, rfl⟩
      rw [hy] at hS; have hyl : y.data.toList = (s.data.toList.take s.size).drop at_ := by rw [← hy]; exact ext_l s at_ s.size
      have heq := HC.out.eq; rw [List.take_of_length_le (by omega)] at heq; rw [List.take_of_length_le (by omega)] at hyl; rw [← hyl] at heq; have hyz : y.size ≤ s.size := by rw [← size_list y, hyl, List.length_drop]; omega
      have HL := hid heq; clear heq hyl hy; (go_wp2_with fail); refine (sb_write B B acc y wr HC.out.bld (by have := HC.out.len; omega) HC.out.sz).mono ?_; rintro e w3 ⟨rfl, i3, b3, k3⟩; have hk3 := k3.iter hit (by have := HC.out.hkb; omega); rw [HL.out] at i3; have hZ := HZ.out; have hs3 : B ≤ w3.heap.size := by
        have := (Array.getElem?_eq_some_iff.1 hk3).1; have := HC.out.hkb; omega
      have hS3 := sb_string B B _ w3 i3 hs3; rw [← hZ] at hS3; have H3 := hid hS3; have H4 := hid (HC.out.below.trans b3); clear hk3 i3 b3 k3 hZ hS3; (go_wp2_with fail); refine H3.out.mono ?_; rintro e w4 ⟨rfl, _, b4, _⟩; have H5 := hid (H4.out.trans b4); clear b4; go_wp2; go_ret; exact ⟨rfl, H5.out⟩
end
section
open Go.Lib
def flushP (h : Nat) : Nat → List UInt8 → Nat × List UInt8
  | m, a => if m < 6 then (m, a) else flushP h (m - 6) (a ++ [sgn (h / 2 ^ (m - 6) % 64)])
termination_by m => m
theorem flush_lt (h m : Nat) (a : List UInt8) (hm : m < 6) : flushP h m a = (m, a) := by rw [flushP, if_pos hm]
theorem flush_ge (h m : Nat) (a : List UInt8) (hm : 6 ≤ m) : flushP h m a = flushP h (m - 6) (a ++ [sgn (h / 2 ^ (m - 6) % 64)]) := by rw [flushP, if_neg (by omega)]
def heldP (h : Nat) (b : UInt8) : Nat := h * 256 % 18446744073709551616 + b.toNat
def stepP (s : Nat × Nat × List UInt8) (b : UInt8) : Nat × Nat × List UInt8 := (heldP s.1 b, flushP (heldP s.1 b) (s.2.1 + 8) s.2.2)
def runP (s : Nat × Nat × List UInt8) (l : List UInt8) : Nat × Nat × List UInt8 := l.foldl stepP s
def endP (s : Nat × Nat × List UInt8) : List UInt8 := if 0 < s.2.1 then s.2.2 ++ [sgn (s.1 * 2 ^ (6 - s.2.1) % 64)] else s.2.2
theorem runP_snoc (s : Nat × Nat × List UInt8) (l : List UInt8) (b : UInt8) : runP s (l ++ [b]) = stepP (runP s l) b := by simp [runP]
theorem stepP0 (h : Nat) (a : List UInt8) (b : UInt8) : stepP (h, 0, a) b = (heldP h b, 2, a ++ [sgn (heldP h b / 4 % 64)]) := by
  show (heldP h b, flushP (heldP h b) 8 a) = _; rw [flush_ge _ _ _ (by decide), flush_lt _ _ _ (by decide)]
theorem stepP2 (h : Nat) (a : List UInt8) (b : UInt8) : stepP (h, 2, a) b = (heldP h b, 4, a ++ [sgn (heldP h b / 16 % 64)]) := by
  show (heldP h b, flushP (heldP h b) 10 a) = _; rw [flush_ge _ _ _ (by decide), flush_lt _ _ _ (by decide)]
theorem stepP4 (h : Nat) (a : List UInt8) (b : UInt8) : stepP (h, 4, a) b = (heldP h b, 0, a ++ [sgn (heldP h b / 64 % 64)] ++ [sgn (heldP h b / 1 % 64)]) := by
  show (heldP h b, flushP (heldP h b) 12 a) = _; rw [flush_ge _ _ _ (by decide), flush_ge _ _ _ (by decide), flush_lt _ _ _ (by decide)]
theorem endP_run (l : List UInt8) : ∀ h a, endP (runP (h, 0, a) l) = a ++ putS l := by
  refine three_ind (P := fun l => ∀ h a, endP (runP (h, 0, a) l) = a ++ putS l) ?_ ?_ ?_ ?_ l
  · intro h a
    simp [runP, endP, putS]
  · intro x h a
    have hx := u8_lt x; have e1 : heldP h x / 4 % 64 = x.toNat / 4 := by unfold heldP; omega
    have e2 : heldP h x * 2 ^ (6 - 2) % 64 = x.toNat % 4 * 16 := by unfold heldP; omega
    simp only [runP, List.foldl, stepP0, endP, putS, e1, e2]; simp
  · intro x y h a
    have hx := u8_lt x; have hy := u8_lt y; have e1 : heldP h x / 4 % 64 = x.toNat / 4 := by unfold heldP; omega
    have e2 : heldP (heldP h x) y / 16 % 64 = x.toNat % 4 * 16 + y.toNat / 16 := by unfold heldP; omega
    have e3 : heldP (heldP h x) y * 2 ^ (6 - 4) % 64 = y.toNat % 16 * 4 := by unfold heldP; omega
    simp only [runP, List.foldl, stepP0, stepP2, endP, putS, e1, e2, e3]; simp
  · intro x y z r ih h a
    have hx := u8_lt x; have hy := u8_lt y; have hz := u8_lt z; have e1 : heldP h x / 4 % 64 = x.toNat / 4 := by unfold heldP; omega
    have e2 : heldP (heldP h x) y / 16 % 64 = x.toNat % 4 * 16 + y.toNat / 16 := by unfold heldP; omega
    have e3 : heldP (heldP (heldP h x) y) z / 64 % 64 = y.toNat % 16 * 4 + z.toNat / 64 := by unfold heldP; omega
    have e4 : heldP (heldP (heldP h x) y) z / 1 % 64 = z.toNat % 64 := by unfold heldP; omega
    have ih' := ih (heldP (heldP (heldP h x) y) z); simp only [runP] at ih'; simp only [runP, List.foldl, stepP0, stepP2, stepP4, e1, e2, e3, e4, ih', putS]; simp
end
section
open Go.Shelf
open Go.RowKit
def lays165_ren : Go.Shelf.Ren := ⟨fun | 165 => 225 | 240 => 41 | 241 => 230 | 276 => 47 | 277 => 236 | n => n,
  fun | 0 => 0 | 3 => 3 | 4 => 4 | 5 => 5 | 9 => 9 | 20 => 20 | 37 => 51 | 70 => 70 | 72 => 72 | 164 => 153 | n => n, fun | n => n⟩
theorem lays165 : Go.Proofs.Lays.n165 Tryz.prog lays165_ren := {
  mixed := by kernel_rfl
  f165 := Tryz.func225.trans (congrArg some (by kernel_rfl))
  f240 := Tryz.func41.trans (congrArg some (by kernel_rfl))
  f241 := Tryz.func230.trans (congrArg some (by kernel_rfl))
  f276 := Tryz.func47.trans (congrArg some (by kernel_rfl))
  f277 := Tryz.func236.trans (congrArg some (by kernel_rfl))
  t0 := Tryz.underlying0
  a0 := Tryz.isAgg0
  z0 := Tryz.sizeOf0
  v0 := Tryz.zeroValue0
  t3 := Tryz.underlying3
  a3 := Tryz.isAgg3
  z3 := Tryz.sizeOf3
  v3 := Tryz.zeroValue3
  t4 := Tryz.underlying4
  a4 := Tryz.isAgg4
  z4 := Tryz.sizeOf4
  v4 := Tryz.zeroValue4
  t9 := Tryz.underlying9
  a9 := Tryz.isAgg9
  z9 := Tryz.sizeOf9
  v9 := Tryz.zeroValue9
  t20 := Tryz.underlying20
  a20 := Tryz.isAgg20
  z20 := Tryz.sizeOf20
  v20 := Tryz.zeroValue20
  t37 := Tryz.underlying51
  a37 := Tryz.isAgg51
  z37 := Tryz.sizeOf51
  v37 := Tryz.zeroValue51
  t70 := Tryz.underlying70
  a70 := Tryz.isAgg70
  z70 := Tryz.sizeOf70
  v70 := Tryz.zeroValue70
  t72 := Tryz.underlying72
  a72 := Tryz.isAgg72
  z72 := Tryz.sizeOf72
  v72 := Tryz.zeroValue72
  t164 := Tryz.underlying153
  a164 := Tryz.isAgg153
  z164 := Tryz.sizeOf153
  v164 := Tryz.zeroValue153 }
theorem builder_Extra165 : Builder.Extra Tryz.prog lays165_ren where
  sizeBuilder := by kernel_rfl
  liesBuilder := by kernel_rfl
  t5 := Tryz.underlying5
  a5 := Tryz.isAgg5
  z5 := Tryz.sizeOf5
  v5 := Tryz.zeroValue5
  infoByte := by kernel_rfl
  cellsByte := by kernel_rfl
  sizeByte := by kernel_rfl
  neB5 := by decide
def lays167_ren : Go.Shelf.Ren := ⟨fun | 167 => 227 | 240 => 41 | 276 => 47 | n => n,
  fun | 0 => 0 | 4 => 4 | 5 => 5 | 9 => 9 | 20 => 20 | 37 => 51 | 70 => 70 | 72 => 72 | 75 => 74 | 80 => 77 | 164 => 153 | n => n, fun | n => n⟩
theorem lays167 : Go.Proofs.Lays.n167 Tryz.prog lays167_ren := {
  mixed := by kernel_rfl
  f167 := Tryz.func227.trans (congrArg some (by kernel_rfl))
  f240 := Tryz.func41.trans (congrArg some (by kernel_rfl))
  f276 := Tryz.func47.trans (congrArg some (by kernel_rfl))
  t0 := Tryz.underlying0
  a0 := Tryz.isAgg0
  z0 := Tryz.sizeOf0
  v0 := Tryz.zeroValue0
  t4 := Tryz.underlying4
  a4 := Tryz.isAgg4
  z4 := Tryz.sizeOf4
  v4 := Tryz.zeroValue4
  t5 := Tryz.underlying5
  a5 := Tryz.isAgg5
  z5 := Tryz.sizeOf5
  v5 := Tryz.zeroValue5
  t9 := Tryz.underlying9
  a9 := Tryz.isAgg9
  z9 := Tryz.sizeOf9
  v9 := Tryz.zeroValue9
  t20 := Tryz.underlying20
  a20 := Tryz.isAgg20
  z20 := Tryz.sizeOf20
  v20 := Tryz.zeroValue20
  t37 := Tryz.underlying51
  a37 := Tryz.isAgg51
  z37 := Tryz.sizeOf51
  v37 := Tryz.zeroValue51
  t70 := Tryz.underlying70
  a70 := Tryz.isAgg70
  z70 := Tryz.sizeOf70
  v70 := Tryz.zeroValue70
  t72 := Tryz.underlying72
  a72 := Tryz.isAgg72
  z72 := Tryz.sizeOf72
  v72 := Tryz.zeroValue72
  t75 := Tryz.underlying74
  a75 := Tryz.isAgg74
  z75 := Tryz.sizeOf74
  v75 := Tryz.zeroValue74
  t164 := Tryz.underlying153
  a164 := Tryz.isAgg153
  z164 := Tryz.sizeOf153
  v164 := Tryz.zeroValue153 }
theorem builder_Extra167 : Builder.Extra Tryz.prog lays167_ren where
  sizeBuilder := by kernel_rfl
  liesBuilder := by kernel_rfl
  t5 := Tryz.underlying5
  a5 := Tryz.isAgg5
  z5 := Tryz.sizeOf5
  v5 := Tryz.zeroValue5
  infoByte := by kernel_rfl
  cellsByte := by kernel_rfl
  sizeByte := by kernel_rfl
  neB5 := by decide
theorem sb_grow (B b n : Nat) (w : World) (hB : B ≤ b) (hbk : w.heap[b]? = some (.cells #[.pointer none, .slice none 0 0] 72 (0, 0))) (hBw : B ≤ w.heap.size) (hn : n ≤ 281474976710656) :
    Calls Tryz.prog 225 #[.pointer (some ⟨b, 0, none⟩), .int .i64 n] w fun e w' => e = .returned (.tuple #[]) ∧ (IsB B b [] w' ∧ Below B w w') := by
  refine (Any.Builder_Grow_fresh lays165 builder_Extra165 B b n w hB hbk hBw hn).mono ?_; rintro e w' ⟨rfl, h1, h2⟩; obtain ⟨a, v, h3, h4, h5⟩ := h1; exact ⟨rfl, .inr ⟨a, v, h3, World.ownsRowF_of h4, h5⟩, h2⟩
theorem sb_byte (B b : Nat) (bs : List UInt8) (c : UInt8) (w : World) (h : IsB B b bs w) (hlen : bs.length + 1 ≤ 140737488355328) (hBw : B ≤ w.heap.size) :
    Calls Tryz.prog 227 #[.pointer (some ⟨b, 0, none⟩), .int .u8 c.toNat] w fun e w' => e = .returned .nilIface ∧ (IsB B b (bs ++ [c]) w' ∧ Below B w w' ∧ Lib.OthersKept 5 (some b) w w') := by
  refine (Any.Builder_WriteByte_k lays167 builder_Extra167 B b (Lib.byteCells bs) c.toNat w h (by rw [Lib.byteCells_length]; exact hlen) hBw).mono ?_; rintro e w' ⟨rfl, h1, h2, h3⟩; refine ⟨rfl, ?_, h2, h3⟩; have : Lib.byteCells (bs ++ [c]) = Lib.byteCells bs ++ [.int .u8 c.toNat] := by
    rw [Lib.byteCells_append]; rfl
  unfold IsB; rw [this]; exact .inr h1
end
section
open Go.RowKit
open Go.Lib
def lenS (n : Int) : Int := if n < 0 ∨ 1000000 < n then 0 else (4 * n + 2) / 3
theorem lenS_no (n : Int) (h : n < 0 ∨ 1000000 < n) : lenS n = 0 := by unfold lenS; rw [if_pos h]
theorem lenS_is (n : Int) (h0 : 0 ≤ n) (h1 : n ≤ 1000000) : lenS n = (n * 8 + 6 - 1) / 6 := by unfold lenS; rw [if_neg (by omega)]; omega
theorem len_any (n : Int) (w : World) :
    Calls Tryz.prog 226 #[.int .i64 n] w fun e w' => e = .returned (.int .i64 (lenS n)) ∧ w = w' := by
  have H1 := hid (lenS_no n); have H2 := hid (lenS_is n); generalize lenS n = z at *
  go_enter Tryz.func226, Tryz.ntmps226; go_wp2
  all_goals go_ret
  all_goals first
    | exact ⟨by rw [H1.out (by omega)]; rfl, rfl⟩
    | exact ⟨by rw [H2.out (by omega) (by omega)]; rfl, rfl⟩
theorem len_nat (n : Nat) (h : n ≤ 1000000) (w : World) :
    Calls Tryz.prog 226 #[.int .i64 (n : Int)] w fun e w' => e = .returned (.int .i64 (((4 * n + 2) / 3 : Nat) : Int)) ∧ w = w' := by
  have h := len_any (n : Int) w; rw [show lenS (n : Int) = (((4 * n + 2) / 3 : Nat) : Int) by unfold lenS; rw [if_neg (by omega)]; omega] at h; exact h
structure PutI (B : Nat) (w wr : World) (m : Nat) (k : Nat) (a : List UInt8) : Prop where
  bld : IsB B B a wr
  below : Below B w wr
  sz : B ≤ wr.heap.size
  len : 6 * a.length + m = 8 * k
structure PutR (l : List UInt8) (h m k : Nat) (a : List UInt8) : Prop where
  eq : runP (0, 0, []) (l.take k) = (h, m, a)
  lt : m < 6
  u : h < 18446744073709551616
theorem wrapB_u64 (n : Nat) : IntKind.u64.wrap (n : Int) = ((n % 18446744073709551616 : Nat) : Int) := by
  simp [IntKind.wrap, IntKind.bits, IntKind.signed]
theorem and_lowk (x k : Nat) (h : x < 18446744073709551616) (hk : k ≤ 63) : bits .and .u64 (x : Int) ((2 ^ k - 1 : Nat) : Int) = ((x % 2 ^ k : Nat) : Int) := by
  have hp : 2 ^ k ≤ 2 ^ 63 := Nat.pow_le_pow_right (by decide) hk; have h1 : (BitVec.ofInt 64 (x : Int)).toNat = x := by
    rw [BitVec.ofInt_natCast, BitVec.toNat_ofNat]; exact Nat.mod_eq_of_lt (by omega)
  have h2 : (BitVec.ofInt 64 ((2 ^ k - 1 : Nat) : Int)).toNat = 2 ^ k - 1 := by
    rw [BitVec.ofInt_natCast, BitVec.toNat_ofNat]; exact Nat.mod_eq_of_lt (by omega)
  show IntKind.u64.wrap ((BitVec.ofInt 64 (x : Int) &&& BitVec.ofInt 64 ((2 ^ k - 1 : Nat) : Int)).toNat : Int) = _; rw [BitVec.toNat_and, h1, h2, Nat.and_two_pow_sub_one_eq_mod, wrapB_u64, Nat.mod_eq_of_lt (a := x % 2 ^ k) (Nat.lt_of_le_of_lt (Nat.mod_le _ _) h)]
theorem and63 (x : Nat) (h : x < 18446744073709551616) : bits .and .u64 (x : Int) 63 = ((x % 64 : Nat) : Int) := and_lowk x 6 h (by decide)
theorem or_low (a c k : Nat) (ha : 2 ^ k * a + c < 18446744073709551616) (hc : c < 2 ^ k) : bits .or .u64 ((2 ^ k * a : Nat) : Int) (c : Int) = ((2 ^ k * a + c : Nat) : Int) := by
  have h1 : (BitVec.ofInt 64 ((2 ^ k * a : Nat) : Int)).toNat = 2 ^ k * a := by
    rw [BitVec.ofInt_natCast, BitVec.toNat_ofNat]; exact Nat.mod_eq_of_lt (by omega)
  have h2 : (BitVec.ofInt 64 (c : Int)).toNat = c := by
    rw [BitVec.ofInt_natCast, BitVec.toNat_ofNat]; exact Nat.mod_eq_of_lt (by omega)
  show IntKind.u64.wrap ((BitVec.ofInt 64 ((2 ^ k * a : Nat) : Int) ||| BitVec.ofInt 64 (c : Int)).toNat : Int) = _; rw [BitVec.toNat_or, h1, h2, ← Nat.two_pow_add_eq_or_of_lt hc, wrapB_u64, Nat.mod_eq_of_lt ha]
theorem shl8 (h : Nat) (b : UInt8) : bits .or .u64 (IntKind.u64.wrap ((h : Int) * 256)) (IntKind.u64.wrap (b.toNat : Int)) = ((heldP h b : Nat) : Int) := by
  have hb := u8_lt b; have e1 : IntKind.u64.wrap ((h : Int) * 256) = ((2 ^ 8 * (h % 72057594037927936) : Nat) : Int) := by
    rw [show (h : Int) * 256 = ((h * 256 : Nat) : Int) by omega, wrapB_u64]; congr 1; omega
  rw [e1, wrapB_u64, Nat.mod_eq_of_lt (a := b.toNat) (by omega), or_low _ _ 8 (by omega) (by omega)]; unfold heldP; congr 1; omega
theorem heldP_lt (h : Nat) (b : UInt8) : heldP h b < 18446744073709551616 := by
  have hb := u8_lt b; unfold heldP; omega
theorem sign_at (d : Nat) (h : d < 64) (W : World) : (Instr.index 9 (.string ⟨#[65, 66, 67, 68, 69, 70, 71, 72, 73, 74, 75, 76, 77, 78, 79, 80, 81, 82, 83, 84, 85, 86, 87, 88, 89, 90, 97, 98, 99, 100, 101, 102, 103, 104, 105, 106, 107, 108, 109, 110, 111, 112, 113, 114, 115, 116, 117, 118, 119, 120, 121, 122, 48, 49, 50, 51, 52, 53, 54, 55, 56, 57, 45, 95]⟩) (.int .u64 (d : Int))).run Tryz.prog W = .ok (.int .u8 (((sgn d).toNat : Nat) : Int)) W := by
  have h2 := signs64_at ⟨d, h⟩; obtain ⟨h3, h4⟩ := List.getElem?_eq_some_iff.1 h2; show (Instr.index 9 (.string signs64) (.int .u64 (d : Int))).run Tryz.prog W = _; rw [run_index_string W 9 signs64 .u64 (d : Int) Tryz.underlying9, dif_pos (by exact ⟨by omega, by show (d : Int) < 64; omega⟩)]; rw [← h4]; rfl
theorem and_sh (H m : Nat) (h : H < 18446744073709551616) : bits .and .u64 ((H : Int) / 2 ^ (m - 6)) 63 = ((H / 2 ^ (m - 6) % 64 : Nat) : Int) := by
  have hc : ((H : Int) / 2 ^ (m - 6)) = ((H / 2 ^ (m - 6) : Nat) : Int) := by simp
  rw [hc, and63 _ (Nat.lt_of_le_of_lt (Nat.div_le_self _ _) h)]
theorem and_end (h n : Nat) : bits .and .u64 (IntKind.u64.wrap ((h : Int) * 2 ^ (6 - n))) 63 = ((h * 2 ^ (6 - n) % 64 : Nat) : Int) := by
  have hc : ((h : Int) * 2 ^ (6 - n)) = ((h * 2 ^ (6 - n) : Nat) : Int) := by simp
  rw [hc, wrapB_u64, and63 _ (Nat.mod_lt _ (by decide))]; congr 1; exact Nat.mod_mod_of_dvd _ (by decide)
theorem bput_any (s : ByteArray) (w : World) (hs : s.size ≤ 1000000) :
    Calls Tryz.prog 220 #[.string s] w fun e w' => e = .returned (.string ⟨(putS s.data.toList).toArray⟩) ∧ Below w.heap.size w w' := by
  have hl : s.data.toList.length = s.size := size_list s; obtain ⟨B, hB⟩ : ∃ B, B = w.heap.size := ⟨_, rfl⟩
  have hnew : (w.alloc (.cells #[.pointer none, .slice none 0 0] 72)).heap[w.heap.size]? = some (.cells #[.pointer none, .slice none 0 0] 72 (0, 0)) := by rw [World.alloc]; exact Array.getElem?_push_size
  have hbel : Below w.heap.size w (w.alloc (.cells #[.pointer none, .slice none 0 0] 72)) := (Below.refl _ w).alloc (Nat.le_refl _) _; have HG := hid (sb_grow w.heap.size w.heap.size ((4 * s.size + 2) / 3) (w.alloc (.cells #[.pointer none, .slice none 0 0] 72)) (Nat.le_refl _) hnew (by simp) (by omega)); have HB := hid hB; have HE := hid hbel; clear hnew hbel; rw [← hB] at HG HE ⊢; clear hB; obtain ⟨Z, hZ⟩ : ∃ Z : ByteArray, Z = ⟨(putS s.data.toList).toArray⟩ := ⟨_, rfl⟩
  rw [← hZ]; have HZ := hid hZ; clear hZ; go_enter Tryz.func220, Tryz.ntmps220
  go_wp2_with (go_at_call 226; refine (len_nat _ (by assumption) _).mono ?_; rintro e w1 ⟨rfl, rfl⟩)
  rw [← HB.out]; refine HG.out.mono ?_; rintro e w1 ⟨rfl, i1, b1⟩; have HI : Hid (PutI B w w1 0 0 []) := hid { bld := i1, below := HE.out.trans b1, sz := by have := HB.out; have := b1.size; have h2 := HE.out.size; simp at this ⊢; omega, len := rfl }; have HR : Hid (PutR s.data.toList 0 0 0 []) := hid { eq := rfl, lt := by decide, u := by decide }; clear i1 b1 HG HE; (go_wp2_with fail)
  go_loopw [4, 5, 13] (fun x y z wr => ∃ (k h n : Nat) (acc : List UInt8), x = .int .u64 h ∧ y = .int .i64 n ∧ z = .int .i64 k ∧ k ≤ s.size ∧ Hid (PutI B w wr n k acc) ∧ Hid (PutR s.data.toList h n k acc)) (fun _ _ z _ => s.size - (RowKit.intOf z).toNat)
  case atStart => exact ⟨0, 0, 0, [], rfl, rfl, rfl, Nat.zero_le _, HI, HR⟩
  case round =>
    clear HI HR; obtain ⟨k, h, n, acc, rfl, rfl, rfl, hk, HI, HR⟩ := hrel; have hn : n < 6 := HR.out.lt; by_cases hp : k < s.size
    · have hsh := shl8 h (s[k]'hp)
      have hHl := heldP_lt h (s[k]'hp); have HP : Hid (runP (0, 0, []) (s.data.toList.take (k + 1)) = (heldP h (s[k]'hp), flushP (heldP h (s[k]'hp)) (n + 8) acc)) := hid (by
        rw [List.take_add_one, show s.data.toList[k]? = some (s[k]'hp) by rw [List.getElem?_eq_getElem (by omega)]; rfl, Option.toList_some, runP_snoc, HR.out.eq]; rfl)
      generalize heldP h (s[k]'hp) = H at hsh hHl HP; have HHl := hid hHl; clear hHl; (go_wp2_with fail); clear hsh
      go_loopw [5] (fun y wr => ∃ (m : Nat) (a : List UInt8), m ≤ n + 8 ∧ y = .int .i64 m ∧ Hid (PutI B w wr m (k + 1) a) ∧ Hid (flushP H m a = flushP H (n + 8) acc)) (fun y _ => (RowKit.intOf y).toNat)
      case atStart => exact ⟨n + 8, acc, Nat.le_refl _, by go_num, hid { bld := HI.out.bld, below := HI.out.below, sz := HI.out.sz, len := by have := HI.out.len; omega }, hid rfl⟩
      case round =>
        obtain ⟨m, a, hm, rfl, HJ, HF⟩ := hrel; by_cases h6 : m < 6
        · go_wp2_with fail
          have HK : Hid (PutR s.data.toList H m (k + 1) a) := hid { eq := by rw [HP.out, ← HF.out, flush_lt _ _ _ h6], lt := h6, u := HHl.out }
          go_roundw
          case rel => exact ⟨k + 1, H, m, a, rfl, rfl, by go_num, by omega, HJ, HK⟩
          case measure =>
            simp only [RowKit.intOf]; omega
        · have ha := and_sh H m HHl.out
          have hD : H / 2 ^ (m - 6) % 64 < 64 := Nat.mod_lt _ (by decide); have hi := sign_at _ hD; have HF2 : Hid (flushP H (m - 6) (a ++ [sgn (H / 2 ^ (m - 6) % 64)]) = flushP H (n + 8) acc) := hid (by rw [← HF.out, flush_ge H m a (by omega)]); generalize H / 2 ^ (m - 6) % 64 = D at ha hD hi HF2; have hDi : (D : Int) < 64 := by omega
          (go_wp2_with fail); refine (sb_byte B B a (sgn D) wr HJ.out.bld (by have := HJ.out.len; omega) HJ.out.sz).mono ?_; rintro e w3 ⟨rfl, i3, b3, _⟩; have HN : Hid (PutI B w w3 (m - 6) (k + 1) (a ++ [sgn D])) := hid { bld := i3, below := HJ.out.below.trans b3, sz := by have := b3.size; have := HJ.out.sz; omega, len := by have := HJ.out.len; simp; omega }; clear i3 b3; go_wp2
          go_roundw
          case rel => exact ⟨m - 6, _, by omega, by go_num, HN, HF2⟩
          case measure =>
            simp only [RowKit.intOf]; omega
    · obtain rfl : k = s.size := by omega
      have HEq : Hid (endP (h, n, acc) = putS s.data.toList) := hid (by
        have h1 := endP_run s.data.toList 0 []; have h2 := HR.out.eq; rw [List.take_of_length_le (by omega)] at h2; rw [h2] at h1; exact h1)
      by_cases h0 : 0 < n
      · have ha := and_end h n
        have hD : h * 2 ^ (6 - n) % 64 < 64 := Nat.mod_lt _ (by decide); have hi := sign_at _ hD; have HEr : Hid (acc ++ [sgn (h * 2 ^ (6 - n) % 64)] = putS s.data.toList) := hid (by rw [← HEq.out]; show _ = if 0 < n then _ else _; rw [if_pos h0]); generalize h * 2 ^ (6 - n) % 64 = D at ha hD hi HEr; have hDi : (D : Int) < 64 := by omega
        clear HR HEq; (go_wp2_with fail); refine (sb_byte B B acc (sgn D) wr HI.out.bld (by have := HI.out.len; omega) HI.out.sz).mono ?_; rintro e w3 ⟨rfl, i3, b3, _⟩; rw [HEr.out] at i3; have hs3 := sb_string B B _ w3 i3 (by have := b3.size; have := HI.out.sz; omega); have hZ := HZ.out; rw [← hZ] at hs3; have HS := hid hs3; have HB3 := hid (HI.out.below.trans b3); clear i3 b3 hs3 hZ; (go_wp2_with fail); refine HS.out.mono ?_; rintro e w4 ⟨rfl, _, b4, _⟩; have HB4 := hid (HB3.out.trans b4); clear b4; go_wp2; go_ret; exact ⟨rfl, HB4.out⟩
      · have HEr : Hid (acc = putS s.data.toList) := hid (by rw [← HEq.out]; show _ = if 0 < n then _ else _; rw [if_neg h0])
        obtain rfl : n = 0 := by omega
        have hi := HI.out.bld; rw [HEr.out] at hi; have hs3 := sb_string B B _ wr hi HI.out.sz; have hZ := HZ.out; rw [← hZ] at hs3; have HS := hid hs3; clear hi hs3 hZ HR HEq; (go_wp2_with fail); refine HS.out.mono ?_; rintro e w4 ⟨rfl, _, b4, _⟩; have HB4 := hid (HI.out.below.trans b4); clear b4; go_wp2; go_ret; exact ⟨rfl, HB4.out⟩
end
section
open Go.Lib
theorem outW_length (e : Ev) (hk : e.k = 0 ∨ e.k = 1 ∨ e.k = 2 ∨ e.k = 3) (hm : e.m < 18446744073709551616) (ht : e.t.size ≤ 1000) : (outW e).length ≤ 100000 := by
  unfold outW; by_cases h0 : e.k = 0
  · rw [if_pos h0]
    simp
  · by_cases h1 : e.k = 1
    · rw [if_neg h0, if_pos h1]
      split <;> simp
    · by_cases h2 : e.k = 2
      · rw [if_neg h0, if_neg h1, if_pos h2]
        have := print_len (e.y, e.m) hm; omega
      · rw [if_neg h0, if_neg h1, if_neg h2, if_pos (by omega)]
        have := escW_len e.t.data.toList; have h3 : e.t.data.toList.length = e.t.size := Array.length_toList; simp only [List.length_append, List.length_cons, List.length_nil]; omega
theorem outB_length (e : Ev) (hk : e.k = 0 ∨ e.k = 1 ∨ e.k = 2 ∨ e.k = 3 ∨ e.k = 4) (hm : e.m < 18446744073709551616) (ht : e.t.size ≤ 1000) : (outB e).length ≤ 100000 := by
  unfold outB; by_cases h4 : e.k = 4
  · rw [if_pos h4]
    have h1 : e.t.data.toList.length = e.t.size := Array.length_toList; have h2 := putS_length e.t.data.toList; simp only [List.length_append, List.length_cons, List.length_nil]; omega
  · rw [if_neg h4]
    exact outW_length e (by omega) hm ht
end
section
open Go.RowKit
open Go.Lib
theorem quote_of (l : List UInt8) : ((⟨#[34]⟩ : ByteArray) ++ ⟨l.toArray⟩) ++ ⟨#[34]⟩ = ⟨(34 :: l ++ [34]).toArray⟩ := by
  have e1 := cat_of [34] l; have e2 := cat_of ([34] ++ l) [34]; rw [show (⟨#[34]⟩ : ByteArray) = ⟨[(34 : UInt8)].toArray⟩ from rfl, e1, e2]; rfl
theorem quotedO (X : ByteArray) (hX : X.size ≤ 10000000) (w : World) :
    Calls Tryz.prog 218 #[.string X] w fun r w' => r = .returned (.string (((⟨#[34]⟩ : ByteArray) ++ X) ++ ⟨#[34]⟩)) ∧ w = w' := by
  obtain ⟨U, hU⟩ : ∃ U, (⟨#[34]⟩ : ByteArray) ++ X = U := ⟨_, rfl⟩
  have hUs : U.size ≤ 10000001 := by rw [← hU, ByteArray.size_append]; show 1 + X.size ≤ _; omega
  rw [hU]; have z1 : ¬ 9223372036854775807 < 1 + X.size := by omega
  have z2 : ¬ 9223372036854775807 < U.size + 1 := by omega
  go_enter Tryz.func218, Tryz.ntmps218; go_wp2; go_ret; exact ⟨rfl, rfl⟩
end
section
open Go.RowKit
open Go.Lib
theorem isB_off {B b : Nat} {bs : List UInt8} {w w' : World} {ts : List Nat} (h : IsB B b bs w) (k : Off ts w w') (h1 : 72 ∉ ts) (h2 : 5 ∉ ts) : IsB B b bs w' := by
  have one : ∀ p, Lib.BuilderAtF 72 5 B b p (Lib.byteCells bs) w → Lib.BuilderAtF 72 5 B b p (Lib.byteCells bs) w' := by
    rintro p ⟨hB, v, hb, ⟨hl, hown⟩, hv⟩; refine ⟨hB, v, k _ _ _ _ hb h1, ⟨hl, ?_⟩, hv⟩; rcases hown with h0 | ⟨g, cap, cur, fz, hv', hg, hc, r⟩
    · exact .inl h0
    · exact .inr ⟨g, cap, cur, fz, hv', hg, k _ _ _ _ hc h2, r⟩
  rcases h with h | h
  · exact .inl (one _ h)
  · exact .inr (one _ h)
theorem IsB.typ {B b : Nat} {bs : List UInt8} {w : World} (h : IsB B b bs w) : ∃ cs fr, w.heap[b]? = some (.cells cs 72 fr) := by
  rcases h with ⟨_, v, hb, _⟩ | ⟨_, v, hb, _⟩ <;> exact ⟨_, _, hb⟩
theorem off_kept {B b : Nat} {bs : List UInt8} {w w' : World} (h : IsB B b bs w) (k : Lib.OthersKept 5 (some b) w w') : Off [72, 5] w w' := by
  intro i c t fr hi ht; refine k i _ hi ?_ ?_
  · intro e
    cases e; obtain ⟨cs, fr', hc⟩ := h.typ; rw [hi] at hc; cases hc; exact ht (by simp)
  · intro c' fz e
    cases e; exact ht (by simp)
end
section
open Go.RowKit
open Go.Lib
theorem sepW_size (s : List Bx) : (⟨(sepW s).toArray⟩ : ByteArray).size ≤ 1 := by
  rw [size_of]; unfold sepW
  repeat' split
  all_goals simp
theorem write_end {w : World} {b o : Nat} {F : List Nat} {x : Bx} {r : List Bx} (h : JAt w b o F ⟨x :: r, false⟩) (hs : r.length ≤ 999) (v : Value)
    (hC : ∀ W, (Instr.typeAssert v 20 166 true).run Tryz.prog W = .ok (.tuple #[.agg #[], .bool true]) W) :
    Calls Tryz.prog 208 #[.pointer (some ⟨b, o, none⟩), v] w fun q w' => q = .returned (.string ⟨#[if x.map = true then 125 else 93]⟩) ∧ JAt w' b o F ⟨r, r.isEmpty⟩ ∧ Jf b o F F w w' := by
  have HE : Hid (∀ X, Calls Tryz.prog 211 #[.pointer (some ⟨b, o, none⟩)] (w.alloc X) fun q w' => q = .returned (.string ⟨#[if x.map = true then 125 else 93]⟩) ∧ JAt w' b o F ⟨r, r.isEmpty⟩ ∧ Jf b o F F w w') := hid (fun X => by
    refine (endO (h.alloc X) hs).mono ?_; rintro q w' ⟨h1, h2, h3⟩; exact ⟨h1, h2, (Jf.of (up_alloc (Below.refl _ _) X) h.lt).trans h3⟩)
  obtain ⟨Z, hZ⟩ : ∃ Z : ByteArray, (⟨#[if x.map = true then 125 else 93]⟩ : ByteArray) = Z := ⟨_, rfl⟩
  rw [hZ] at HE ⊢; clear h hZ; go_enter Tryz.func208, Tryz.ntmps208; (go_wp2_with fail); refine (HE.out _).mono ?_; rintro q w1 ⟨rfl, hj⟩; have HJ := hid hj; clear hj; go_wp2; go_ret; exact ⟨rfl, HJ.out⟩
theorem write_open {w : World} {b o : Nat} {F : List Nat} {q : Os} (h : JAt w b o F q) (hd : q.dn = false) (hs : q.s.length ≤ 1000) (hk : keyB q.s = false) (v : Value) (m : Bool) (c : Int)
    (hC : ∀ W, (Instr.typeAssert v 20 166 true).run Tryz.prog W = .ok (.tuple #[.agg #[], .bool false]) W)
    (hB : ∀ W, (Instr.typeAssert v 20 163 true).run Tryz.prog W = .ok (.tuple #[.agg #[.bool m, .int .i64 c], .bool true]) W) :
    Calls Tryz.prog 208 #[.pointer (some ⟨b, o, none⟩), v] w fun r w' => r = .returned (.string (⟨(sepW q.s).toArray⟩ ++ ⟨#[if m = true then 123 else 91]⟩)) ∧ ∃ F', JAt w' b o F' ⟨⟨m, c, 0⟩ :: incB q.s, false⟩ ∧ Jf b o F F' w w' := by
  have HS : Hid (∀ X, Calls Tryz.prog 212 #[.pointer (some ⟨b, o, none⟩)] (w.alloc X) fun r w' => r = .returned (.string ⟨(sepW q.s).toArray⟩) ∧ w.alloc X = w') := hid (fun X => signO (h.alloc X) hd); have HE : Hid (∀ X Y, Calls Tryz.prog 213 #[.pointer (some ⟨b, o, none⟩), .bool m] ((w.alloc X).alloc Y) fun r w' => r = .returned (.string ⟨#[if m = true then 123 else 91]⟩) ∧ ∃ F', JAt w' b o F' ⟨⟨m, c, 0⟩ :: incB q.s, false⟩ ∧ Jf b o F F' w w') := hid (fun X Y => by
    refine (beginO ((h.alloc X).alloc Y) hd hs hk m c).mono ?_; rintro r w' ⟨h1, F', h2, h3⟩; exact ⟨h1, F', h2, (Jf.of (up_alloc (up_alloc (Below.refl _ _) X) Y) h.lt).trans h3⟩)
  have hz1 := sepW_size q.s; obtain ⟨S, hS⟩ : ∃ S : ByteArray, (⟨(sepW q.s).toArray⟩ : ByteArray) = S := ⟨_, rfl⟩
  obtain ⟨Z, hZ⟩ : ∃ Z : ByteArray, (⟨#[if m = true then 123 else 91]⟩ : ByteArray) = Z := ⟨_, rfl⟩
  have hz2 : Z.size = 1 := by rw [← hZ]; rfl
  rw [hS] at HS hz1 ⊢; rw [hZ] at HE ⊢; have z1 : ¬ 9223372036854775807 < S.size + Z.size := by omega
  clear h hS hZ hz1 hz2; go_enter Tryz.func208, Tryz.ntmps208; (go_wp2_with fail); refine (HS.out _).mono ?_; rintro r w1 ⟨rfl, rfl⟩; (go_wp2_with fail); refine (HE.out _ _).mono ?_; rintro r w2 ⟨rfl, hj⟩; have HJ := hid hj; clear hj; go_wp2; go_ret; exact ⟨rfl, HJ.out⟩
theorem pl_val (s : List Bx) : plO ⟨incB s, s.isEmpty⟩ = if keyB s = true then 1 else 2 := by
  cases s with
  | nil => rfl
  | cons x r =>
    obtain ⟨m, c, n⟩ := x; have hp : plO ⟨incB (⟨m, c, n⟩ :: r), (⟨m, c, n⟩ :: r : List Bx).isEmpty⟩ = if m = true ∧ (n + 1) % 2 = 1 then 1 else if n + 1 = 0 then 0 else 2 := rfl
    rw [hp]; cases m with
    | false =>
      have hk : keyB (⟨false, c, n⟩ :: r) = false := rfl; rw [hk, if_neg (fun h => by cases h.1), if_neg (by omega), if_neg (by simp)]
    | true =>
      by_cases h : n % 2 = 0
      · have hk : keyB (⟨true, c, n⟩ :: r) = true := by simp [keyB, h]
        rw [hk, if_pos ⟨rfl, by omega⟩, if_pos rfl]
      · have hk : keyB (⟨true, c, n⟩ :: r) = false := by simp [keyB]; omega
        rw [hk, if_neg (fun hh => by omega), if_neg (by omega), if_neg (by simp)]
theorem write_val {w : World} {b o : Nat} {F : List Nat} {s : List Bx} (h : JAt w b o F ⟨s, false⟩) (hs : s.length ≤ 1000) (v : Value) (T : ByteArray) (hTs : T.size ≤ 100000)
    (hC : ∀ W, (Instr.typeAssert v 20 166 true).run Tryz.prog W = .ok (.tuple #[.agg #[], .bool false]) W)
    (hB : ∀ W, (Instr.typeAssert v 20 163 true).run Tryz.prog W = .ok (.tuple #[.agg #[.bool false, .int .i64 0], .bool false]) W)
    (hX : ∀ W, Below w.heap.size w W ∨ Jf b o F F w W → Calls Tryz.prog 214 #[v] W fun r w' => r = .returned (.string T) ∧ Below W.heap.size W w') :
    Calls Tryz.prog 208 #[.pointer (some ⟨b, o, none⟩), v] w fun r w' => r = .returned (.string (⟨(sepW s).toArray⟩ ++ T)) ∧ JAt w' b o F ⟨incB s, s.isEmpty⟩ ∧ Jf b o F F w w' := by
  have HS : Hid (∀ X, Calls Tryz.prog 212 #[.pointer (some ⟨b, o, none⟩)] (w.alloc X) fun r w' => r = .returned (.string ⟨(sepW s).toArray⟩) ∧ w.alloc X = w') := hid (fun X => signO (h.alloc X) rfl); obtain ⟨K, hK⟩ : ∃ K, keyB s = K := ⟨_, rfl⟩
  have HA : Hid (∀ X Y, Calls Tryz.prog 210 #[.pointer (some ⟨b, o, none⟩)] ((w.alloc X).alloc Y) fun r w' => r = .returned (.bool K) ∧ (w.alloc X).alloc Y = w') := hid (fun X Y => hK ▸ at_keyO ((h.alloc X).alloc Y) hs); have hp := pl_val s; rw [hK] at hp; have hfin : ∀ X Y, ((∃ u, ((w.alloc X).alloc Y).cell? ⟨b, o, none⟩ = some u) ∧ ((w.alloc X).alloc Y).frozen? ⟨b, o, none⟩ = false) ∧ (Jf b o F F w (((w.alloc X).alloc Y).setCell ⟨b, o, none⟩ (.int .i64 ((if K = true then 1 else 2 : Nat) : Int)))) ∧
      ∀ w', Below (((w.alloc X).alloc Y).setCell ⟨b, o, none⟩ (.int .i64 ((if K = true then 1 else 2 : Nat) : Int))).heap.size (((w.alloc X).alloc Y).setCell ⟨b, o, none⟩ (.int .i64 ((if K = true then 1 else 2 : Nat) : Int))) w' → JAt w' b o F ⟨incB s, s.isEmpty⟩ ∧ Jf b o F F w w' := by
    intro X Y; have h2 := (h.alloc X).alloc Y; obtain ⟨a, cp, hA, _, _⟩ := h2.cells; obtain ⟨⟨c0, f0⟩, _⟩ := oat_two hA; obtain ⟨p1, p2⟩ := h2.place (q' := ⟨incB s, s.isEmpty⟩) (by rw [mapsO_incB]) (fun e => by cases s <;> simp_all [incB]) h.wf.inc; rw [hp] at p1 p2; have hj : Jf b o F F w ((w.alloc X).alloc Y) := Jf.of (up_alloc (up_alloc (Below.refl _ _) X) Y) h.lt; refine ⟨⟨⟨_, c0⟩, f0⟩, hj.trans p2, fun w' k => ⟨p1.go k, (hj.trans p2).up h.lt k⟩⟩
  have HFI := hid hfin; have hz1 := sepW_size s; obtain ⟨S, hS⟩ : ∃ S : ByteArray, (⟨(sepW s).toArray⟩ : ByteArray) = S := ⟨_, rfl⟩
  rw [hS] at HS hz1 ⊢; have z1 : ¬ 9223372036854775807 < S.size + T.size := by omega
  have HX := hid hX; clear h hS hz1 hX hfin hp hK hTs; cases K with
  | true =>
    simp only [if_true] at HFI; go_enter Tryz.func208, Tryz.ntmps208; (go_wp2_with fail); refine (HS.out _).mono ?_; rintro r w1 ⟨rfl, rfl⟩; (go_wp2_with fail); refine (HA.out _ _).mono ?_; rintro r w1 ⟨rfl, rfl⟩; obtain ⟨⟨⟨u, c0⟩, f0⟩, hj, hg⟩ := HFI.out (.cells #[] 166) (.cells #[.bool false, .int .i64 0] 163); have HJ := hid hj; have HG := hid hg; clear hj hg; (go_wp2_with fail); refine (HX.out _ (.inr HJ.out)).mono ?_; rintro r w2 ⟨rfl, hb⟩; have HK := hid (HG.out _ hb); clear hb; go_wp2; go_ret; exact ⟨rfl, HK.out⟩
  | false =>
    simp only [Bool.false_eq_true, if_false] at HFI; go_enter Tryz.func208, Tryz.ntmps208; (go_wp2_with fail); refine (HS.out _).mono ?_; rintro r w1 ⟨rfl, rfl⟩; (go_wp2_with fail); refine (HA.out _ _).mono ?_; rintro r w1 ⟨rfl, rfl⟩; obtain ⟨⟨⟨u, c0⟩, f0⟩, hj, hg⟩ := HFI.out (.cells #[] 166) (.cells #[.bool false, .int .i64 0] 163); have HJ := hid hj; have HG := hid hg; clear hj hg; (go_wp2_with fail); refine (HX.out _ (.inr HJ.out)).mono ?_; rintro r w2 ⟨rfl, hb⟩; have HK := hid (HG.out _ hb); clear hb; go_wp2; go_ret; exact ⟨rfl, HK.out⟩
theorem jo_err {w : World} {b o : Nat} {F : List Nat} {q : Os} (h : JAt w b o F q) (v : Value) (n : Nat) (hn : n = 14 ∨ n = 8)
    (hR : Calls Tryz.prog 207 #[.pointer (some ⟨b, o, none⟩), v] w fun r w' => r = .returned (.int .i64 n) ∧ Below w.heap.size w w') :
    Calls Tryz.prog 206 #[.pointer (some ⟨b, o, none⟩), v] w fun r w' => r = .returned (.tuple #[.string ⟨#[]⟩, .int .i64 n]) ∧ JAt w' b o F q ∧ Jf b o F F w w' := by
  have HR := hid hR; have HF : Hid (∀ w', Below w.heap.size w w' → JAt w' b o F q ∧ Jf b o F F w w') := hid (fun w' k => ⟨h.go k, Jf.of k h.lt⟩); clear h hR; rcases hn with rfl | rfl
  all_goals
    go_enter Tryz.func206, Tryz.ntmps206; (go_wp2_with fail); refine HR.out.mono ?_; rintro r w1 ⟨rfl, b1⟩; have H1 := hid (HF.out _ b1); clear b1; go_wp2; go_ret2; exact ⟨rfl, H1.out⟩
theorem jo_ok {w : World} {b o : Nat} {F : List Nat} {q : Os} (h : JAt w b o F q) (v : Value) (T : ByteArray) (q' : Os)
    (hR : Calls Tryz.prog 207 #[.pointer (some ⟨b, o, none⟩), v] w fun r w' => r = .returned (.int .i64 0) ∧ Below w.heap.size w w')
    (hW : ∀ W, Below w.heap.size w W → Calls Tryz.prog 208 #[.pointer (some ⟨b, o, none⟩), v] W fun r w' => r = .returned (.string T) ∧ ∃ F', JAt w' b o F' q' ∧ Jf b o F F' W w') :
    Calls Tryz.prog 206 #[.pointer (some ⟨b, o, none⟩), v] w fun r w' => r = .returned (.tuple #[.string T, .int .i64 0]) ∧ ∃ F', JAt w' b o F' q' ∧ Jf b o F F' w w' := by
  have HR := hid hR; have HW := hid hW; have hb := h.lt; clear h hR hW; have HB := hid hb; clear hb; go_enter Tryz.func206, Tryz.ntmps206; (go_wp2_with fail); refine HR.out.mono ?_; rintro r w1 ⟨rfl, b1⟩; have H1 := hid b1; clear b1; (go_wp2_with fail); refine (HW.out _ H1.out).mono ?_; rintro r w2 ⟨rfl, F', hj, hf⟩; have H2 : Hid (∃ F', JAt w2 b o F' q' ∧ Jf b o F F' w w2) := hid ⟨F', hj, (Jf.of H1.out HB.out).trans hf⟩; clear hj hf; go_wp2; go_ret2; exact ⟨rfl, H2.out⟩
structure JW (w0 w : World) (b : Nat) (F : List Nat) (q : Os) : Prop where
  at_ : JAt w b 0 F q
  lo : w0.heap.size ≤ b
  row : ∀ k ∈ F, w0.heap.size ≤ k
  bel : Below w0.heap.size w0 w
  typ : ∃ cs fr, w.heap[b]? = some (.cells cs 95 fr)
theorem JW.next {w0 w w' : World} {b : Nat} {F F' : List Nat} {q q' : Os} (h : JW w0 w b F q) (hj : JAt w' b 0 F' q') (k : Jf b 0 F F' w w') : JW w0 w' b F' q' := by
  have h1 := k.step.low (B := w0.heap.size) (fun i hi => (List.mem_cons.1 hi).elim (fun e => e ▸ h.lo) (fun hi => h.row i hi)) h.bel.size; obtain ⟨cs, fr, hc⟩ := h.typ; obtain ⟨c', hc', _⟩ := k.shape _ _ _ hc; exact ⟨hj, h.lo, fun i hi => h1 i (List.mem_cons_of_mem _ hi), h.bel.trans (k.below h.lo h.row h.bel.size), c', fr, hc'⟩
theorem jw_new (w0 w : World) (hb : Below w0.heap.size w0 w) : JW w0 (w.alloc (.cells #[.int .i64 0, .slice none 0 0] 95)) w.heap.size [] ⟨[], false⟩ :=
  ⟨⟨⟨none, 0, jat_block (heap_alloc_new w _), Win.nil_ _ _ _, rfl⟩, ⟨_, _, _, heap_alloc_new w _, by decide⟩, fun e => (by cases e), trivial⟩, hb.size, fun k hk => (by simp at hk), up_alloc hb _, _, _, heap_alloc_new w _⟩
theorem JW.off {w0 w w' : World} {b : Nat} {F F' : List Nat} {q : Os} (h : JW w0 w b F q) (k : Jf b 0 F F' w w') : Off [95, 4] w w' := by
  intro i c t fr hi ht; have hlt := (Array.getElem?_eq_some_iff.1 hi).1; rw [k.step.block i hlt ?_]
  · exact hi
  · intro hm
    rcases List.mem_cons.1 hm with e | hm
    · subst e
      obtain ⟨cs, fr', hc⟩ := h.typ; rw [hi] at hc; cases hc; exact ht (by simp)
    · obtain ⟨_, _, cur, hc⟩ := h.at_.row i hm
      rw [hi] at hc; cases hc; exact ht (by simp)
end
end Go.Proofs.YtkgconbdmnmbnaaGreat
