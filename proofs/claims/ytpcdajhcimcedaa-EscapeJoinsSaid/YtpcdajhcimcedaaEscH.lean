/-
  CONTRACT of escape.Write: the inside of a text's string, by a range over it and a Builder.
-/
import Derived.Test.YtpcdajhcimcedaaEscG
import Derived.Laws.RangeAny
namespace Go.Proofs.Ytpcdajhcimcedaa
open Go.RowKit
open Go.Lib
structure WrS (s : ByteArray) (B : Nat) (w0 wr : World) (kb bb pos at_ : Nat) (acc : List UInt8) : Prop where
  bld : IsB B bb acc wr
  it : wr.heap[kb]? = some (.stringIter s pos)
  below : Below B w0 wr
  hle : at_ ≤ pos
  hsz : at_ ≤ s.size
  eq : acc ++ (s.data.toList.take pos).drop at_ = escW (s.data.toList.take pos)
  hB : B ≤ bb
  hkb : bb < kb
theorem escB_len (b : UInt8) : (escB b).length ≤ 6 := by
  unfold escB
  repeat' split
  all_goals simp
theorem escW_len (l : List UInt8) : (escW l).length ≤ 6 * l.length := by
  induction l with
  | nil => simp [escW]
  | cons b t ih =>
    rw [escW_cons, List.length_append, List.length_cons]
    have := escB_len b
    omega
theorem WrS.len {s : ByteArray} {B : Nat} {w0 wr : World} {kb bb pos at_ : Nat} {acc : List UInt8} (h : WrS s B w0 wr kb bb pos at_ acc) : acc.length ≤ 6 * s.size := by
  have h1 := congrArg List.length h.eq
  have h2 := escW_len (s.data.toList.take pos)
  rw [List.length_append] at h1
  have h3 : (s.data.toList.take pos).length ≤ s.size := by
    rw [List.length_take, size_list]
    omega
  omega
theorem WrS.sz {s : ByteArray} {B : Nat} {w0 wr : World} {kb bb pos at_ : Nat} {acc : List UInt8} (h : WrS s B w0 wr kb bb pos at_ acc) : B ≤ wr.heap.size := by
  have := (Array.getElem?_eq_some_iff.1 h.it).1
  have := h.hB
  have := h.hkb
  omega
theorem take_add' (l : List UInt8) (p n : Nat) : l.take (p + n) = l.take p ++ (l.drop p).take n := by rw [List.take_add]
theorem getD_at (s : ByteArray) (pos : Nat) (h : pos < s.size) : (s.data.toList.drop pos).getD 0 0 = s[pos]'h := by
  have hl : s.data.toList.length = s.size := size_list s
  rw [List.getD_eq_getElem?_getD, List.getElem?_drop, Nat.add_zero, List.getElem?_eq_getElem (by omega)]
  rfl
theorem drop_ne (s : ByteArray) (pos : Nat) (h : pos < s.size) : s.data.toList.drop pos ≠ [] := by
  intro e
  have := congrArg List.length e
  rw [List.length_drop, size_list] at this
  simp at this
  omega
theorem drop_head (s : ByteArray) (pos : Nat) (h : pos < s.size) : (s.data.toList.drop pos).take 1 = [s[pos]'h] := by
  have h1 := getD_at s pos h
  have h2 := drop_ne s pos h
  match hh : s.data.toList.drop pos, h2 with
  | x :: t, _ =>
    rw [hh] at h1
    simp only [List.getD_cons_zero] at h1
    rw [h1]
    rfl
/-- What is read of a rune that stays, or not. -/
theorem dec_keep (s : ByteArray) (pos : Nat) (h : pos < s.size) (he : escO (Utf8.decode s pos).1 = []) : escW ((s.data.toList.drop pos).take (Utf8.decode s pos).2) = (s.data.toList.drop pos).take (Utf8.decode s pos).2 := by
  by_cases ha : (s[pos]'h).toNat < 128
  · rw [decode_ascii s pos h ha] at he ⊢
    simp only [] at he ⊢
    rw [drop_head s pos h, escW_cons, escO_byte, if_pos he]
    rfl
  · refine escW_high _ ?_
    have := hi_bytes (s.data.toList.drop pos) (drop_ne s pos h) (by rw [getD_at s pos h]; omega)
    rw [decodeL_drop s pos] at this
    exact this
theorem dec_esc (s : ByteArray) (pos : Nat) (h : pos < s.size) (he : escO (Utf8.decode s pos).1 ≠ []) : Utf8.decode s pos = ((s[pos]'h).toNat, 1) ∧ escB (s[pos]'h) = escO (Utf8.decode s pos).1 := by
  by_cases ha : (s[pos]'h).toNat < 128
  · have := decode_ascii s pos h ha
    rw [this] at he ⊢
    simp only [] at he ⊢
    exact ⟨trivial, by rw [escO_byte, if_neg he]⟩
  · have := decode_high s pos h (by omega)
    exact absurd (escO_high this.1) he
theorem wid_pos (s : ByteArray) (pos : Nat) (h : pos < s.size) : 1 ≤ (Utf8.decode s pos).2 := by
  by_cases ha : (s[pos]'h).toNat < 128
  · rw [decode_ascii s pos h ha]
    exact Nat.le_refl _
  · exact (decode_high s pos h (by omega)).2
theorem ext_l (s : ByteArray) (a k : Nat) : (s.extract a k).data.toList = (s.data.toList.take k).drop a := ext_list s a k
theorem drop_app (a b : List UInt8) (k : Nat) (h : k ≤ a.length) : (a ++ b).drop k = a.drop k ++ b := by
  rw [List.drop_append_of_le_length h]
theorem str_ne {z : ByteArray} {l : List UInt8} (hz : z = ⟨l.toArray⟩) (hl : l ≠ []) : z.toList.isEmpty = false ∧ (z.toList = []) = False := by
  have : z.toList = l := by rw [hz, ByteArray.toList_eq]
  rw [this]
  exact ⟨by cases l with | nil => exact absurd rfl hl | cons => rfl, by simp [hl]⟩
set_option maxRecDepth 100000 in
set_option maxHeartbeats 4000000 in
/-- WRITE. -/
theorem write_any (s : ByteArray) (w : World) (hs : s.size ≤ 1000000) :
    Calls Try.prog 14 #[.string s] w fun e w' => e = .returned (.string ⟨(escW s.data.toList).toArray⟩) ∧ Below w.heap.size w w' := by
  have hl : s.data.toList.length = s.size := size_list s
  obtain ⟨B, hB⟩ : ∃ B, B = w.heap.size := ⟨_, rfl⟩
  have H0 : Hid (WrS s w.heap.size w ((w.alloc (.cells #[.pointer none, .slice none 0 0] 53)).iter s 0) (w.heap.size + 1) w.heap.size 0 0 []) := Lib.hid {
    bld := (Lib.IsBuilderF.of (Lib.fresh_isBuilder 53 5 w)).alloc _
    it := by
      have := World.iter_heap (w.alloc (.cells #[.pointer none, .slice none 0 0] 53)) s 0
      simpa using this
    below := ((Below.refl _ w).alloc (Nat.le_refl _) _).alloc (by simp) _
    hle := Nat.le_refl _
    hsz := Nat.zero_le _
    eq := by simp [escW]
    hB := Nat.le_refl _
    hkb := by omega }
  have HB := Lib.hid hB
  rw [← hB]
  rw [← hB] at H0
  clear hB
  obtain ⟨Z, hZ⟩ : ∃ Z : ByteArray, Z = ⟨(escW s.data.toList).toArray⟩ := ⟨_, rfl⟩
  rw [← hZ]
  have HZ := Lib.hid hZ
  clear hZ
  go_enter Try.func14, Try.ntmps14
  go_wp2_with fail
  rw [← HB.out]
  generalize (w.alloc (.cells #[.pointer none, .slice none 0 0] 53)).iter s 0 = W at H0 ⊢
  generalize hkb : B + 1 = kb at H0 ⊢
  clear hkb HB
  go_loopw [4] (fun a wr => ∃ (pos at_ : Nat) (acc : List UInt8), a = .int .i64 at_ ∧ Hid (WrS s B w wr kb B pos at_ acc)) (fun _ wr => s.size - wr.iterPos kb)
  case atStart => exact ⟨0, 0, [], rfl, H0⟩
  case round =>
    obtain ⟨pos, at_, acc, rfl, HC⟩ := hrel
    clear H0
    have hit := HC.out.it
    have hipos : wr.iterPos kb = pos := by simp only [World.iterPos, hit]
    by_cases hp : pos < s.size
    · have hnx : ∀ ty, (Instr.next (.pointer (some ⟨kb, 0, none⟩)) true ty).run Try.prog wr = _ := fun ty => Lib.run_next_any_at wr kb s pos ty hit hp
      have F1 := wid_pos s pos hp
      have F2 := dec_keep s pos hp
      have F3 : escO (Utf8.decode s pos).1 ≠ [] → (Utf8.decode s pos).2 = 1 ∧ escW (s.data.toList.take (pos + 1)) = escW (s.data.toList.take pos) ++ escO (Utf8.decode s pos).1 := by
        intro h
        obtain ⟨h1, h2⟩ := dec_esc s pos hp h
        refine ⟨by rw [h1], ?_⟩
        rw [take_add', drop_head s pos hp, escW_append, ← h2]
        simp [escW]
      have hE := escOf_any (Utf8.decode s pos).1
      generalize (Utf8.decode s pos).1 = r at *
      generalize (Utf8.decode s pos).2 = n at *
      have hit2 := Lib.iterAt_heap wr kb s pos (pos + n) hit
      have h1 : WrS s B w (wr.iterAt kb s (pos + n)) kb B pos at_ acc → False ∨ True := fun _ => .inr trivial
      have hI2 : IsB B B acc (wr.iterAt kb s (pos + n)) := HC.out.bld.iterAt hit (pos + n)
      have hb2 : Below B w (wr.iterAt kb s (pos + n)) := Lib.below_iterAt HC.out.below (Nat.le_of_lt HC.out.hkb) s (pos + n)
      have hsz2 : B ≤ (wr.iterAt kb s (pos + n)).heap.size := by rw [Lib.iterAt_size]; exact HC.out.sz
      have H2 := Lib.hid (And.intro hit2 (And.intro hI2 (And.intro hb2 hsz2)))
      have HE := Lib.hid hE
      have hat : at_ ≤ (s.data.toList.take pos).length := by
        have := HC.out.hle
        have := HC.out.hsz
        rw [List.length_take, hl]
        omega
      clear h1 hit2 hI2 hb2 hsz2 hE
      generalize wr.iterAt kb s (pos + n) = W1 at H2 hnx ⊢
      by_cases h0 : escO r = []
      · have F := F2 h0
        have HN : ∀ q, Hid (WrS s B w (W1.drewN q) kb B (pos + n) at_ acc) := fun q => Lib.hid {
          bld := H2.out.2.1
          it := H2.out.1
          below := below_drewN H2.out.2.2.1 q
          hle := by have := HC.out.hle; omega
          hsz := HC.out.hsz
          eq := by rw [take_add', drop_app _ _ _ hat, escW_append, F, ← HC.out.eq, List.append_assoc]
          hB := HC.out.hB
          hkb := HC.out.hkb }
        rw [h0] at HE
        clear F F2 F3 h0 hat
        go_wp2_with fail
        refine (HE.out _).mono ?_
        rintro e w2 ⟨rfl, q, rfl⟩
        have HM := HN q
        go_wp2
        go_roundw
        case rel => exact ⟨pos + n, at_, acc, rfl, HM⟩
        case measure =>
          have := HM.out.it
          simp only [World.iterPos, this, hit]
          omega
      · obtain ⟨rfl, F⟩ := F3 h0
        obtain ⟨z, hz⟩ : ∃ z : ByteArray, z = ⟨(escO r).toArray⟩ := ⟨_, rfl⟩
        have hzl : z.data.toList = escO r := by rw [hz]
        obtain ⟨hz1, hz2⟩ := str_ne hz h0
        rw [← hz] at HE
        have hls := escW_len (s.data.toList.take pos)
        have hts : (s.data.toList.take pos).length ≤ s.size := by rw [List.length_take, hl]; omega
        have hel : (escO r).length ≤ 6 := by
          unfold escO
          repeat' split
          all_goals simp
        have hS := slice_str_lh s at_ pos HC.out.hle (Nat.le_of_lt hp)
        obtain ⟨y, hy⟩ : ∃ y, s.extract at_ pos = y := ⟨_, rfl⟩
        rw [hy] at hS
        have hyl : y.data.toList = (s.data.toList.take pos).drop at_ := by rw [← hy]; exact ext_l s at_ pos
        have heq := HC.out.eq
        rw [← hyl] at heq
        have hyz : y.size ≤ s.size := by
          rw [← size_list y, hyl, List.length_drop]
          omega
        have hzz : z.size ≤ 6 := by rw [← size_list z, hzl]; exact hel
        have HL := Lib.hid (And.intro heq (And.intro hzl (And.intro F (And.intro hls (And.intro hts (And.intro hyz hzz))))))
        have hyz' : (y.size : Int) ≤ 2000000 := by omega
        have hzz' : (z.size : Int) ≤ 6 := by omega
        clear heq hzl F hls hts hel hy hyl hz F2 F3 h0 hat hyz hzz
        go_wp2_with fail
        refine (HE.out _).mono ?_
        rintro e w2 ⟨rfl, q, rfl⟩
        have H3 : Hid ((W1.drewN q).heap[kb]? = some (.stringIter s (pos + 1)) ∧ IsB B B acc (W1.drewN q) ∧ Below B w (W1.drewN q) ∧ B ≤ (W1.drewN q).heap.size) := Lib.hid ⟨H2.out.1, H2.out.2.1, below_drewN H2.out.2.2.1 q, H2.out.2.2.2⟩
        generalize W1.drewN q = W2 at H3 ⊢
        clear H2 HE
        go_wp2_with fail
        refine (sb_write B B acc y W2 H3.out.2.1 (by have := HC.out.len; have := HL.out; omega) H3.out.2.2.2).mono ?_
        rintro e w3 ⟨rfl, i3, b3, k3⟩
        have hk3 := k3.iter H3.out.1 (by have := HC.out.hkb; omega)
        rw [HL.out.1] at i3
        have H4 : Hid (w3.heap[kb]? = some (.stringIter s (pos + 1)) ∧ IsB B B (escW (s.data.toList.take pos)) w3 ∧ Below B w w3 ∧ B ≤ w3.heap.size) := Lib.hid ⟨hk3, i3, H3.out.2.2.1.trans b3, Nat.le_trans H3.out.2.2.2 (by
          have := (Array.getElem?_eq_some_iff.1 H3.out.1).1
          have := (Array.getElem?_eq_some_iff.1 hk3).1
          have := HC.out.hkb
          have := b3.size
          omega)⟩
        clear hk3 i3 b3 k3 H3
        go_wp2_with fail
        refine (sb_write B B _ z w3 H4.out.2.1 (by have := HL.out; omega) H4.out.2.2.2).mono ?_
        rintro e w4 ⟨rfl, i4, b4, k4⟩
        have hk4 := k4.iter H4.out.1 (by have := HC.out.hkb; omega)
        rw [HL.out.2.1, ← HL.out.2.2.1] at i4
        have HM : Hid (WrS s B w w4 kb B (pos + 1) (pos + 1) (escW (s.data.toList.take (pos + 1)))) := Lib.hid {
          bld := i4
          it := hk4
          below := H4.out.2.2.1.trans b4
          hle := Nat.le_refl _
          hsz := by omega
          eq := by rw [List.drop_of_length_le (by rw [List.length_take]; omega), List.append_nil]
          hB := HC.out.hB
          hkb := HC.out.hkb }
        clear hk4 i4 b4 k4 H4
        go_wp2
        go_roundw
        case rel => exact ⟨pos + 1, pos + 1, _, by go_num, HM⟩
        case measure =>
          have := HM.out.it
          simp only [World.iterPos, this, hit]
          omega
    · have hnx : ∀ ty, (Instr.next (.pointer (some ⟨kb, 0, none⟩)) true ty).run Try.prog wr = _ := fun ty => Lib.run_next_end_at wr kb s pos ty hit hp
      have hS := slice_str_lo s at_ HC.out.hsz
      obtain ⟨y, hy⟩ : ∃ y, s.extract at_ s.size = y := ⟨_, rfl⟩
      rw [hy] at hS
      have hyl : y.data.toList = (s.data.toList.take s.size).drop at_ := by rw [← hy]; exact ext_l s at_ s.size
      have heq := HC.out.eq
      rw [List.take_of_length_le (by omega)] at heq
      rw [List.take_of_length_le (by omega)] at hyl
      rw [← hyl] at heq
      have hyz : y.size ≤ s.size := by rw [← size_list y, hyl, List.length_drop]; omega
      have HL := Lib.hid heq
      clear heq hyl hy
      go_wp2_with fail
      refine (sb_write B B acc y wr HC.out.bld (by have := HC.out.len; omega) HC.out.sz).mono ?_
      rintro e w3 ⟨rfl, i3, b3, k3⟩
      have hk3 := k3.iter hit (by have := HC.out.hkb; omega)
      rw [HL.out] at i3
      have hZ := HZ.out
      have hs3 : B ≤ w3.heap.size := by
        have := (Array.getElem?_eq_some_iff.1 hk3).1
        have := HC.out.hkb
        omega
      have hS3 := sb_string B B _ w3 i3 hs3
      rw [← hZ] at hS3
      have H3 := Lib.hid hS3
      have H4 := Lib.hid (HC.out.below.trans b3)
      clear hk3 i3 b3 k3 hZ hS3
      go_wp2_with fail
      refine H3.out.mono ?_
      rintro e w4 ⟨rfl, _, b4, _⟩
      have H5 := Lib.hid (H4.out.trans b4)
      clear b4
      go_wp2
      go_ret
      exact ⟨rfl, H5.out⟩
end Go.Proofs.Ytpcdajhcimcedaa
