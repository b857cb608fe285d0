/-
  LAWS of chapter 5: EscapeBack.
-/
import Derived.Test.YtpcdajhcimcedaaEscLawsB
namespace Go.Proofs.Ytpcdajhcimcedaa
open Go.RowKit
open Go.Lib
theorem rune_or (r : Int) : (∃ n : Nat, r = n ∧ IsRune n) ∨ (r < 0 ∨ 1114111 < r ∨ (55296 ≤ r ∧ r ≤ 57343)) := by
  by_cases h : r < 0 ∨ 1114111 < r ∨ (55296 ≤ r ∧ r ≤ 57343)
  · exact .inr h
  · exact .inl ⟨r.toNat, by omega, by unfold IsRune; omega⟩
/-- A text out of runes. -/
def Enc (k : Nat) (t : ByteArray) : Prop := ∃ ns : List Nat, ns.length ≤ k ∧ (∀ n ∈ ns, IsRune n) ∧ t.data.toList = ns.flatMap encL
theorem enc_size' {k : Nat} {t : ByteArray} (h : Enc k t) : t.size ≤ 4 * k := by
  obtain ⟨ns, h1, h2, h3⟩ := h
  rw [← size_list, h3]
  have : ∀ l : List Nat, (∀ n ∈ l, IsRune n) → (l.flatMap encL).length ≤ 4 * l.length := by
    intro l hl
    induction l with
    | nil => simp
    | cons a r ih =>
      have h4 := (enc_len (hl a (by simp))).2
      have := ih (fun n hn => hl n (by simp [hn]))
      rw [List.flatMap_cons, List.length_append, List.length_cons]
      generalize encL a = x at *
      omega
  have := this ns h2
  omega
theorem app_list (t x : ByteArray) (l : List UInt8) (h : bytesL x = l) : (t ++ x).data.toList = t.data.toList ++ l := by
  subst h
  rw [ByteArray.data_append, Array.toList_append]
  rfl
theorem enc_next {k n : Nat} {t : ByteArray} (h : Enc k t) (hr : IsRune n) : Enc (k + 1) (t ++ Utf8.encode (n : Int)) := by
  obtain ⟨ns, h1, h2, h3⟩ := h
  refine ⟨ns ++ [n], by simp; omega, ?_, ?_⟩
  · intro m hm
    rcases List.mem_append.1 hm with hm | hm
    · exact h2 m hm
    · simp only [List.mem_singleton] at hm
      subst hm
      exact hr
  · have e : bytesL (Utf8.encode (n : Int)) = encL n := rfl
    rw [app_list t _ _ e, h3]
    simp
theorem enc_stay {k : Nat} {t : ByteArray} (h : Enc k t) : Enc (k + 1) (t ++ ⟨#[]⟩) := by
  obtain ⟨ns, h1, h2, h3⟩ := h
  exact ⟨ns, by omega, h2, by rw [ByteArray.data_append, Array.toList_append, h3]; simp⟩
/-- The quote behind a backslash: of each place of what is written. -/
def QOk (l : List UInt8) : Prop := ∀ i (h : i < l.length), l[i].toNat = 34 → ∃ j, i = j + 1 ∧ ∃ hj : j < l.length, l[j].toNat = 92
theorem hexD_no : ∀ n : Fin 16, (hexD n.val).toNat ≠ 34 := by decide +kernel
theorem qok_append {a b : List UInt8} (ha : QOk a) (hb : QOk b) : QOk (a ++ b) := by
  intro i hi hq
  by_cases h : i < a.length
  · rw [List.getElem_append_left h] at hq
    obtain ⟨j, e, hj, h92⟩ := ha i h hq
    refine ⟨j, e, by simp; omega, ?_⟩
    rw [List.getElem_append_left hj]
    exact h92
  · have hi' : i - a.length < b.length := by simp at hi; omega
    rw [List.getElem_append_right (by omega)] at hq
    obtain ⟨j, e, hj, h92⟩ := hb (i - a.length) hi' hq
    refine ⟨a.length + j, by omega, by simp; omega, ?_⟩
    rw [List.getElem_append_right (by omega)]
    simpa using h92
theorem qok_two (x : UInt8) : QOk [92, x] := by
  intro i hi hq
  match i, hi, hq with
  | 0, _, hq => exact absurd (show (92 : UInt8).toNat = 34 from hq) (by decide)
  | 1, _, _ => exact ⟨0, rfl, by simp, rfl⟩
theorem qok_none {l : List UInt8} (h : ∀ x ∈ l, x.toNat ≠ 34) : QOk l := fun _ hi hq => absurd hq (h _ (List.getElem_mem hi))
theorem qok_escB (b : UInt8) : QOk (escB b) := by
  have hb := b.toNat_lt
  unfold escB
  by_cases h1 : b.toNat = 34 ∨ b.toNat = 92
  · rw [if_pos h1]; exact qok_two b
  rw [if_neg h1]
  by_cases h2 : b.toNat < 32
  · have q1 := hexD_no ⟨b.toNat / 16, by omega⟩
    have q2 := hexD_no ⟨b.toNat % 16, by omega⟩
    simp only [] at q1 q2
    generalize hexD (b.toNat / 16) = d1 at *
    generalize hexD (b.toNat % 16) = d2 at *
    rw [if_pos h2]
    repeat' split
    all_goals first | exact qok_two _ | skip
    refine qok_none ?_
    intro x hx
    simp only [List.mem_cons, List.not_mem_nil, or_false] at hx
    rcases hx with rfl | rfl | rfl | rfl | rfl | rfl
    · decide
    · decide
    · decide
    · decide
    · exact q1
    · exact q2
  · rw [if_neg (by omega), if_neg (by omega), if_neg (by omega), if_neg (by omega), if_neg (by omega), if_neg h2]
    refine qok_none ?_
    intro x hx
    simp only [List.mem_singleton] at hx
    subst hx
    omega
theorem qok_escW (l : List UInt8) : QOk (escW l) := by
  induction l with
  | nil =>
    intro i hi
    simp [escW] at hi
  | cons b t ih =>
    rw [escW_cons]
    exact qok_append (qok_escB b) ih
/-- What the law meets of the text. -/
structure BackF (t y : ByteArray) : Prop where
  wr : ∀ w, Calls Try.prog 14 #[.string t] w fun e w' => e = .returned (.string y) ∧ Below w.heap.size w w'
  rd : ∀ w, Calls Try.prog 13 #[.string y] w fun e w' => e = .returned (.tuple #[.string t, .int .i64 0]) ∧ Below w.heap.size w w'
  ok : ∀ i (h : i < y.size), 32 ≤ (y[i]'h).toNat ∧ ((y[i]'h).toNat = 34 → ∃ j, i = j + 1 ∧ ∃ hj : j < y.size, (y[j]'hj).toNat = 92)
theorem back_of {k : Nat} {t : ByteArray} (h : Enc k t) (hk : k ≤ 60) : ∃ y, BackF t y ∧ y.size ≤ 2000 := by
  have hs := enc_size' h
  obtain ⟨ns, h1, h2, h3⟩ := h
  have hv : validD t.data.toList = true := by rw [h3]; exact valid_encs ns h2
  have hlen := escW_len t.data.toList
  rw [size_list] at hlen
  have hsz : ∀ y : ByteArray, y = ⟨(escW t.data.toList).toArray⟩ → y.size = (escW t.data.toList).length := fun y hy => by rw [← size_list, hy]
  obtain ⟨y, hy⟩ : ∃ y : ByteArray, y = ⟨(escW t.data.toList).toArray⟩ := ⟨_, rfl⟩
  have hys := hsz y hy
  have hyl : y.data.toList = escW t.data.toList := by rw [hy]
  refine ⟨y, ⟨fun w => write_lit t w (by omega) y hy, fun w => ?_, fun i hi => ?_⟩, by omega⟩
  · exact read_lit y w (by omega) t 0 (insT, t.data.toList) (by rw [hyl]; exact read_write _ hv) (list_bytes t).symm rfl
  · have hi' : i < (escW t.data.toList).length := by omega
    have e : ∀ (j : Nat) (hj : j < y.size) (hj' : j < (escW t.data.toList).length), y[j]'hj = (escW t.data.toList)[j]'hj' := by
      intro j hj hj'
      subst hy
      rfl
    refine ⟨?_, fun hq => ?_⟩
    · rw [e i hi hi']
      exact escW_inside _ _ (List.getElem_mem hi')
    · rw [e i hi hi'] at hq
      obtain ⟨j, e1, hj, h92⟩ := qok_escW _ i hi' hq
      exact ⟨j, e1, by omega, by rw [e j (by omega) hj]; exact h92⟩
set_option maxRecDepth 100000 in
set_option maxHeartbeats 1600000 in
theorem back_main (A : Option Addr) (n c : Nat) (zs : List Int) (w : World) (hl : zs.length = n) (hR : Reads w w.heap.size 1 A n (zs.map (Value.int .i64))) (hn : n ≤ 60) (hz : ∀ z ∈ zs, -9223372036854775808 ≤ z ∧ z ≤ 9223372036854775807) :
    Calls Try.prog 4 #[.slice A n c] w fun e w' => e = .returned (.bool true) ∧ Below w.heap.size w w' := by
  have HR := Lib.hid hR
  have HZ := Lib.hid hz
  have c1 : ¬ (60 : Int) < (n : Int) := by omega
  clear hR hz
  go_enter Try.func4, Try.ntmps4
  go_wp2_with fail
  refine (alive_any _).mono ?_
  rintro e w1 ⟨rfl, b1⟩
  have B1 := Lib.hid b1
  clear b1
  go_wp2
  go_loopw [3, 20] (fun s i wr => ∃ (k : Nat) (t : ByteArray), k ≤ n ∧ i = .int .i64 k ∧ s = .string t ∧ Hid (Enc k t) ∧ Hid (Below w.heap.size w wr)) (fun _ i _ => n - (RowKit.intOf i).toNat)
  case atStart => exact ⟨0, ⟨#[]⟩, Nat.zero_le _, rfl, rfl, Lib.hid ⟨[], by simp, by simp, by simp⟩, B1⟩
  case round =>
    obtain ⟨k, t, hk, rfl, rfl, HP, HB⟩ := hrel
    have hts := enc_size' HP.out
    by_cases hlt : k < n
    · have hkz : k < zs.length := by omega
      obtain ⟨ad, u, rfl, hb0, hu, hcell⟩ := (HR.out.below HB.out).at_ hlt
      rw [List.getElem?_map, List.getElem?_eq_getElem hkz, Option.map_some, Option.some.injEq] at hu
      subst hu
      have hzb := HZ.out _ (List.getElem_mem hkz)
      obtain ⟨z, hz⟩ : ∃ z, zs[k]'hkz = z := ⟨_, rfl⟩
      rw [hz] at hcell hzb
      clear hz
      rcases rune_or z with ⟨m, rfl, hm⟩ | hno
      · have hRef := Lib.hid (fun W => ref_ok m hm W)
        have HN := Lib.hid (enc_next HP.out hm)
        have hes : (Utf8.encode (m : Int)).size ≤ 4 := by
          have h4 := (enc_len hm).2
          rw [← size_list]
          exact h4
        generalize Utf8.encode (m : Int) = y at *
        have hbig : ¬ 9223372036854775807 < t.size + y.size := by omega
        clear hm HP hzb
        go_wp2_with fail
        refine (hRef.out _).mono ?_
        rintro e w2 ⟨rfl, b2⟩
        have HB2 := Lib.hid (HB.out.trans (b2.mono HB.out.size))
        clear b2
        go_wp2
        go_roundw
        case rel => exact ⟨k + 1, t ++ y, by omega, by go_num, rfl, HN, HB2⟩
        case measure => simp [RowKit.intOf]; omega
      · have hRef := Lib.hid (fun W => ref_no z hno W)
        have HN := Lib.hid (enc_stay HP.out)
        clear HP hno
        obtain ⟨y, hy⟩ : ∃ y : ByteArray, y = ⟨#[]⟩ := ⟨_, rfl⟩
        have hy0 : y.size = 0 := by rw [hy]; rfl
        rw [← hy] at HN hRef
        have hbig : ¬ 9223372036854775807 < t.size + y.size := by omega
        clear hy
        go_wp2_with fail
        refine (hRef.out _).mono ?_
        rintro e w2 ⟨rfl, rfl⟩
        go_wp2
        go_roundw
        case rel => exact ⟨k + 1, t ++ y, by omega, by go_num, rfl, HN, HB⟩
        case measure => simp [RowKit.intOf]; omega
    · obtain ⟨y, hF, hys⟩ := back_of HP.out (by omega)
      have HW := Lib.hid hF.wr
      have HRd := Lib.hid hF.rd
      have HO := Lib.hid hF.ok
      have hys' : (y.size : Int) ≤ 2000 := by omega
      clear hF hys HP
      go_wp2_with fail
      refine (HW.out _).mono ?_
      rintro e w2 ⟨rfl, b2⟩
      have B2 := Lib.hid (HB.out.trans (b2.mono HB.out.size))
      clear b2
      go_wp2_with fail
      refine (HRd.out _).mono ?_
      rintro e w3 ⟨rfl, b3⟩
      have B3 := Lib.hid (B2.out.trans (b3.mono B2.out.size))
      clear b3
      go_wp2
      go_loopw [9] (fun i wr => ∃ q : Nat, q ≤ y.size ∧ i = .int .i64 q ∧ wr = w3) (fun i _ => y.size - (RowKit.intOf i).toNat)
      case atStart => exact ⟨0, Nat.zero_le _, rfl, rfl⟩
      case round =>
        obtain ⟨q, hq, rfl, rfl⟩ := hrel
        by_cases hlq : q < y.size
        · obtain ⟨ho1, ho2⟩ := HO.out q hlq
          by_cases h34 : (y[q]'hlq).toNat = 34
          · obtain ⟨j, rfl, hj, h92⟩ := ho2 h34
            have z1 : ((((y[j + 1]'hlq).toNat : Nat) : Int) < 32) = False := by simp only [eq_iff_iff, iff_false]; omega
            have z2 : ((((y[j + 1]'hlq).toNat : Nat) : Int) == 34) = true := by rw [beq_iff_eq]; omega
            have z3 : ((((y[j]'hj).toNat : Nat) : Int) == 92) = true := by rw [beq_iff_eq]; omega
            have z4 : ((j : Int) + 1 == 0) = false := by rw [beq_eq_false_iff_ne]; omega
            have z6 : ((((y[j]'hj).toNat : Nat) : Int) != 92) = false := by rw [bne, z3]; rfl
            have z7 : ((j : Int) + 1 = 0) = False := by simp only [eq_iff_iff, iff_false]; omega
            have z5 : ((j + 1 : Nat) : Int) - 1 = (j : Int) := by omega
            clear ho1 ho2 h34 h92
            go_wp2
            go_roundw
            case rel => exact ⟨j + 1 + 1, by omega, by go_num, by first | rfl | trivial⟩
            case measure => simp [RowKit.intOf]; omega
          · have z1 : ((((y[q]'hlq).toNat : Nat) : Int) < 32) = False := by simp only [eq_iff_iff, iff_false]; omega
            have z2 : ((((y[q]'hlq).toNat : Nat) : Int) == 34) = false := u8z _ 34 h34
            clear ho1 ho2 h34
            go_wp2
            go_roundw
            case rel => exact ⟨q + 1, by omega, by go_num, by first | rfl | trivial⟩
            case measure => simp [RowKit.intOf]; omega
        · have ht : (t.toList == t.toList) = true := by simp
          go_wp2
          go_ret
          exact ⟨rfl, B3.out⟩
theorem back_any (A : Option Addr) (n c : Nat) (zs : List Int) (w : World) (hl : zs.length = n) (hR : Reads w w.heap.size 1 A n (zs.map (Value.int .i64))) (hz : ∀ z ∈ zs, -9223372036854775808 ≤ z ∧ z ≤ 9223372036854775807) :
    Calls Try.prog 4 #[.slice A n c] w fun e w' => e = .returned (.bool true) ∧ Below w.heap.size w w' := by
  by_cases hn : n ≤ 60
  · exact back_main A n c zs w hl hR hn hz
  · have c1 : (60 : Int) < (n : Int) := by omega
    clear hn hl hR hz
    go_enter Try.func4, Try.ntmps4
    go_wp2_with fail
    refine (alive_any _).mono ?_
    rintro e w1 ⟨rfl, b1⟩
    go_wp2
    go_ret
    exact ⟨rfl, b1⟩
end Go.Proofs.Ytpcdajhcimcedaa
