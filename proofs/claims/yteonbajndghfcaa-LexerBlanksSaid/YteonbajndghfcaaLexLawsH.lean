/-
  LAWS of chapter 10: LexerBlanks.
-/
import Derived.Test.YteonbajndghfcaaLexLawsF
import Derived.Deep.QuietTactic
namespace Go.Proofs.Yteonbajndghfcaa
open Go.RowKit
open Go.Lib
theorem word_size (j : Nat) (h : j < 11) : (⟨(wordX j).toArray⟩ : ByteArray).size ≤ 5 := by
  rw [size_of]
  exact word_len ⟨j, h⟩
/-- What the first loop has made. -/
structure BlA (w wr : World) (wb : Nat) (k : Nat) (js : List (Nat × List UInt8)) (Sa Sb : ByteArray) : Prop where
  len : js.length = k
  ok : Pairs js
  a : Sa = ⟨(textA js).toArray⟩
  b : Sb = ⟨(textB js).toArray⟩
  fr : Below w.heap.size w wr
  wd : wr.heap[wb]? = some (.cells wordsV.toArray 9 (0, 0))
theorem BlA.size {w wr : World} {wb k : Nat} {js : List (Nat × List UInt8)} {Sa Sb : ByteArray} (h : BlA w wr wb k js Sa Sb) : Sa.size ≤ 5 * k ∧ Sb.size ≤ 7 * k := by
  have := text_len js h.ok
  rw [h.a, h.b, size_of, size_of, ← h.len]
  exact this
theorem BlA.cell {w wr : World} {wb k : Nat} {js : List (Nat × List UInt8)} {Sa Sb : ByteArray} (h : BlA w wr wb k js Sa Sb) (j : Nat) (hj : j < 11) : wr.cell? ⟨wb, j, none⟩ = some (.string ⟨(wordX j).toArray⟩) := by
  rw [Joins.cell_of_block h.wd, List.getElem?_toArray]
  exact words_at j hj
theorem BlA.more {w wr wr' : World} {wb k : Nat} {js : List (Nat × List UInt8)} {Sa Sb : ByteArray} (h : BlA w wr wb k js Sa Sb) (hw : Below wr.heap.size wr wr') {j : Nat} (hj : j < 11) {bl : List UInt8} (hb : bl.length ≤ 2 ∧ ∀ b ∈ bl, isBlank b.toNat = true) {Wj : ByteArray} (hW : Wj = ⟨(wordX j).toArray⟩) :
    BlA w wr' wb (k + 1) (js ++ [(j, bl)]) (Sa ++ Wj) (Sb ++ Wj ++ ⟨bl.toArray⟩) := by
  obtain ⟨h1, h2⟩ := text_more js j bl
  refine ⟨by rw [List.length_append, h.len]; rfl, pairs_more h.ok hj hb, ?_, ?_, up_trans h.fr hw, (hw.block wb (Array.getElem?_eq_some_iff.1 h.wd).1).trans h.wd⟩
  · rw [h1, h.a, hW, cat_of]
  · rw [h2, h.b, hW, cat_of, cat_of]
theorem BlA.plain {w wr wr' : World} {wb k : Nat} {js : List (Nat × List UInt8)} {Sa Sb : ByteArray} (h : BlA w wr wb k js Sa Sb) (hw : Below wr.heap.size wr wr') {j : Nat} (hj : j < 11) {Wj : ByteArray} (hW : Wj = ⟨(wordX j).toArray⟩) :
    BlA w wr' wb (k + 1) (js ++ [(j, [])]) (Sa ++ Wj) (Sb ++ Wj) := by
  have := h.more hw hj (bl := []) ⟨by simp, by simp⟩ hW
  have e : Sb ++ Wj ++ (⟨([] : List UInt8).toArray⟩ : ByteArray) = Sb ++ Wj := by apply ByteArray.ext; simp
  rw [e] at this
  exact this
set_option maxRecDepth 100000 in
set_option maxHeartbeats 8000000 in
theorem blanks_main (A : Option Addr) (n c : Nat) (zs : List Int) (A' : Option Addr) (n' c' : Nat) (zs' : List Int) (w : World) (hl : zs.length = n) (hR : Reads w w.heap.size 1 A n (zs.map (Value.int .i64))) (hl' : zs'.length = n') (hR' : Reads w w.heap.size 1 A' n' (zs'.map (Value.int .i64)))
    (hn : n ≤ 30) (hn' : n' ≤ 60) :
    Calls Try.prog 3 #[.slice A n c, .slice A' n' c'] w fun e w' => e = .returned (.bool true) ∧ Below w.heap.size w w' := by
  have HR := Lib.hid hR
  have HR' := Lib.hid hR'
  have c1 : ¬ (30 : Int) < (n : Int) := by omega
  have c2 : ¬ (60 : Int) < (n' : Int) := by omega
  clear hR hR'
  go_enter Try.func3, Try.ntmps3
  go_wp2_with fail
  refine (alive_any _).mono ?_
  rintro e w1 ⟨rfl, b1⟩
  have h0 : BlA w (w1.alloc (.cells wordsV.toArray 9)) w1.heap.size 0 [] ⟨#[]⟩ ⟨#[]⟩ := ⟨rfl, by intro p hp; simp at hp, rfl, rfl, up_alloc b1 _, heap_alloc_new w1 _⟩
  have H0 := Lib.hid h0
  clear b1 h0
  go_wp2
  obtain ⟨wb, hwb⟩ : ∃ wb, w1.heap.size = wb := ⟨_, rfl⟩
  rw [hwb] at H0 ⊢
  have hWW : w1.alloc (.cells #[.string ⟨#[123]⟩, .string ⟨#[125]⟩, .string ⟨#[91]⟩, .string ⟨#[93]⟩, .string ⟨#[58]⟩, .string ⟨#[44]⟩, .string ⟨#[34, 97, 32, 98, 34]⟩, .string ⟨#[116, 114, 117, 101]⟩, .string ⟨#[102, 97, 108, 115, 101]⟩, .string ⟨#[110, 117, 108, 108]⟩, .string ⟨#[34, 34]⟩] 9) = w1.alloc (.cells wordsV.toArray 9) := rfl
  rw [hWW]
  generalize w1.alloc (.cells wordsV.toArray 9) = W1 at H0 ⊢
  clear hwb hWW
  go_loopw [6, 7, 8, 9, 10, 38] (fun a b _ _ _ i wr => ∃ (k : Nat) (js : List (Nat × List UInt8)) (Sa Sb : ByteArray), k ≤ n ∧ i = .int .i64 k ∧ a = .string Sa ∧ b = .string Sb ∧ Hid (BlA w wr wb k js Sa Sb)) (fun _ _ _ _ _ i _ => n - (RowKit.intOf i).toNat)
  case atStart => exact ⟨0, [], ⟨#[]⟩, ⟨#[]⟩, Nat.zero_le _, rfl, rfl, rfl, H0⟩
  case round =>
    obtain ⟨k, js, Sa, Sb, hk, rfl, rfl, rfl, HA⟩ := hrel
    clear H0
    obtain ⟨hsa, hsb⟩ := HA.out.size
    by_cases hlt : k < n
    · have hkz : k < zs.length := by omega
      obtain ⟨ad, u, rfl, hb0, hu, hcell⟩ := (HR.out.below HA.out.fr).at_ hlt
      rw [List.getElem?_map, List.getElem?_eq_getElem hkz, Option.map_some, Option.some.injEq] at hu
      subst hu
      obtain ⟨z, hz⟩ : ∃ z, zs[k]'hkz = z := ⟨_, rfl⟩
      rw [hz] at hcell
      clear hz
      obtain ⟨j, hj11, hj⟩ := rem_place z 11 (by omega) (by omega)
      have hj' : (wrap64 (z.tmod 11 + 11)).tmod 11 = (j : Int) := hj
      have hwc := HA.out.cell j hj11
      have hws := word_size j hj11
      obtain ⟨Wj, hWj⟩ : ∃ Wj : ByteArray, Wj = ⟨(wordX j).toArray⟩ := ⟨_, rfl⟩
      rw [← hWj] at hwc hws
      have z1 : ¬ 9223372036854775807 < Sa.size + Wj.size := by omega
      have z2 : ¬ 9223372036854775807 < Sb.size + Wj.size := by omega
      have HM := Lib.hid (fun wr' (hw : Below wr.heap.size wr wr') bl hb => HA.out.more (wr' := wr') hw hj11 (bl := bl) hb hWj)
      have HPL := Lib.hid (fun wr' (hw : Below wr.heap.size wr wr') => HA.out.plain (wr' := wr') hw hj11 hWj)
      obtain ⟨Sb2, hSb2⟩ : ∃ Sb2, Sb ++ Wj = Sb2 := ⟨_, rfl⟩
      rw [hSb2] at HM HPL
      have hsb2 : Sb2.size ≤ 300 := by rw [← hSb2, ByteArray.size_append]; omega
      clear hj hWj
      by_cases hbl : k < n'
      · have hbk : ((k : Int) < (n' : Int)) = True := by simp only [eq_iff_iff, iff_true]; omega
        have hkz' : k < zs'.length := by omega
        obtain ⟨ad', u', rfl, hb0', hu', hcell'⟩ := (HR'.out.below HA.out.fr).at_ hbl
        rw [List.getElem?_map, List.getElem?_eq_getElem hkz', Option.map_some, Option.some.injEq] at hu'
        subst hu'
        obtain ⟨z', hz'⟩ : ∃ z, zs'[k]'hkz' = z := ⟨_, rfl⟩
        rw [hz'] at hcell'
        clear hz'
        obtain ⟨d, hd3, hd⟩ := bits_range z' 3 3 (by decide) rfl
        have hcell2 : ∀ x, (wr.alloc x).cell? (ad'.add k) = some (.int .i64 z') := fun x => by
          rw [World.cell?_alloc_lt wr x _ (by have := HA.out.fr.size; have : (ad'.add k).block = ad'.block := by unfold Addr.add; split <;> rfl
                                              omega)]
          exact hcell'
        have z3 : ¬ 9223372036854775807 < Sb2.size + 1 := by omega
        have z4 : ¬ 9223372036854775807 < Sb2.size + 2 := by omega
        have z5 : ¬ 9223372036854775807 < Sb2.size + 0 := by omega
        have z6 : ¬ 9223372036854775807 < Sb2.size := by omega
        have hal := Lib.hid (fun x => (Below.refl wr.heap.size wr).alloc (Nat.le_refl _) x)
        clear hcell' HPL hbl
        have hd4 : d = 0 ∨ d = 1 ∨ d = 2 ∨ d = 3 := by omega
        clear hd3
        rcases hd4 with rfl | rfl | rfl | rfl
        · have hd0 : bits .and .i64 z' 3 = 0 := hd
          have hn0 := HM.out _ (hal.out (.cells #[.string ⟨#[32]⟩, .string ⟨#[10]⟩, .string ⟨#[9, 13]⟩, .string ⟨#[]⟩] 9)) [32] (by decide)
          obtain ⟨Z, hZ⟩ : ∃ Z : ByteArray, Sb2 ++ ⟨#[32]⟩ = Z := ⟨_, rfl⟩
          have HN : Hid (BlA w (wr.alloc (.cells #[.string ⟨#[32]⟩, .string ⟨#[10]⟩, .string ⟨#[9, 13]⟩, .string ⟨#[]⟩] 9)) wb (k + 1) (js ++ [(j, [32])]) (Sa ++ Wj) Z) := Lib.hid (by rw [← hZ]; exact hn0)
          clear hd hn0
          go_wp2
          go_roundw
          case rel => exact ⟨k + 1, _, Sa ++ Wj, Z, by omega, by go_num, rfl, rfl, HN⟩
          case measure => simp [RowKit.intOf]; omega
        · have hd0 : bits .and .i64 z' 3 = 1 := hd
          have hn0 := HM.out _ (hal.out (.cells #[.string ⟨#[32]⟩, .string ⟨#[10]⟩, .string ⟨#[9, 13]⟩, .string ⟨#[]⟩] 9)) [10] (by decide)
          obtain ⟨Z, hZ⟩ : ∃ Z : ByteArray, Sb2 ++ ⟨#[10]⟩ = Z := ⟨_, rfl⟩
          have HN : Hid (BlA w (wr.alloc (.cells #[.string ⟨#[32]⟩, .string ⟨#[10]⟩, .string ⟨#[9, 13]⟩, .string ⟨#[]⟩] 9)) wb (k + 1) (js ++ [(j, [10])]) (Sa ++ Wj) Z) := Lib.hid (by rw [← hZ]; exact hn0)
          clear hd hn0
          go_wp2
          go_roundw
          case rel => exact ⟨k + 1, _, Sa ++ Wj, Z, by omega, by go_num, rfl, rfl, HN⟩
          case measure => simp [RowKit.intOf]; omega
        · have hd0 : bits .and .i64 z' 3 = 2 := hd
          have hn0 := HM.out _ (hal.out (.cells #[.string ⟨#[32]⟩, .string ⟨#[10]⟩, .string ⟨#[9, 13]⟩, .string ⟨#[]⟩] 9)) [9, 13] (by decide)
          obtain ⟨Z, hZ⟩ : ∃ Z : ByteArray, Sb2 ++ ⟨#[9, 13]⟩ = Z := ⟨_, rfl⟩
          have HN : Hid (BlA w (wr.alloc (.cells #[.string ⟨#[32]⟩, .string ⟨#[10]⟩, .string ⟨#[9, 13]⟩, .string ⟨#[]⟩] 9)) wb (k + 1) (js ++ [(j, [9, 13])]) (Sa ++ Wj) Z) := Lib.hid (by rw [← hZ]; exact hn0)
          clear hd hn0
          go_wp2
          go_roundw
          case rel => exact ⟨k + 1, _, Sa ++ Wj, Z, by omega, by go_num, rfl, rfl, HN⟩
          case measure => simp [RowKit.intOf]; omega
        · have hd0 : bits .and .i64 z' 3 = 3 := hd
          have hn0 := HM.out _ (hal.out (.cells #[.string ⟨#[32]⟩, .string ⟨#[10]⟩, .string ⟨#[9, 13]⟩, .string ⟨#[]⟩] 9)) [] (by decide)
          obtain ⟨Z, hZ⟩ : ∃ Z : ByteArray, Sb2 ++ ⟨#[]⟩ = Z := ⟨_, rfl⟩
          have HN : Hid (BlA w (wr.alloc (.cells #[.string ⟨#[32]⟩, .string ⟨#[10]⟩, .string ⟨#[9, 13]⟩, .string ⟨#[]⟩] 9)) wb (k + 1) (js ++ [(j, [])]) (Sa ++ Wj) Z) := Lib.hid (by rw [← hZ]; exact hn0)
          clear hd hn0
          go_wp2
          go_roundw
          case rel => exact ⟨k + 1, _, Sa ++ Wj, Z, by omega, by go_num, rfl, rfl, HN⟩
          case measure => simp [RowKit.intOf]; omega
      · have hbk : ((k : Int) < (n' : Int)) = False := by simp only [eq_iff_iff, iff_false]; omega
        have HN := Lib.hid (HPL.out wr (Below.refl _ _))
        clear hbl HM
        go_wp2
        go_roundw
        case rel => exact ⟨k + 1, _, Sa ++ Wj, Sb2, by omega, by go_num, rfl, rfl, HN⟩
        case measure => simp [RowKit.intOf]; omega
    · have hkn : k = n := by omega
      obtain ⟨L, hL⟩ : ∃ L, textA js = L := ⟨_, rfl⟩
      obtain ⟨M, hM⟩ : ∃ M, textB js = M := ⟨_, rfl⟩
      obtain ⟨T, hT⟩ : ∃ T, js.map (fun p => tokX p.1) = T := ⟨_, rfl⟩
      have hra := textA_run js HA.out.ok
      have hrb := textB_run js HA.out.ok
      rw [hL, hT] at hra
      rw [hM, hT] at hrb
      have hTn : T.length = n := by rw [← hT, List.length_map, HA.out.len, hkn]
      have hLa : Sa.data.toList = L := by rw [HA.out.a, hL]
      have hMb : Sb.data.toList = M := by rw [HA.out.b, hM]
      have HT30 : Hid (T.length ≤ 30) := Lib.hid (by omega)
      have HRA := Lib.hid (And.intro hra hLa)
      have HRB := Lib.hid (And.intro hrb hMb)
      have HTN := Lib.hid hTn
      have hsz1 : Sa.size ≤ 150 := by omega
      have hsz2 : Sb.size ≤ 210 := by omega
      obtain ⟨g, hg⟩ : ∃ g, wr.heap.size = g := ⟨_, rfl⟩
      have hf := HA.out.fr
      have hs1 := (ls_new hf).go ((Below.refl _ _).alloc (Nat.le_refl _) (.cells (lxZ 0).toArray 35))
      have hs2 := ls_new (up_alloc hf (.cells (lxZ 0).toArray 35))
      have hsz3 : (wr.alloc (.cells (lxZ 0).toArray 35)).heap.size = g + 1 := by simp [hg]
      rw [hsz3] at hs2
      rw [hg] at hs1
      have H1 := Lib.hid hs1
      have H2 := Lib.hid hs2
      clear hra hrb hLa hMb hTn hL hM hT hs1 hs2 hsz3 hf hkn
      go_wp2
      have hWW : (wr.alloc (.cells #[.int .i64 0, .int .i64 0, .int .i64 0, .int .i64 0, .int .u8 0, .int .u8 0, .bool false, .int .i64 0, .int .i64 0, .int .i64 0, .string ⟨#[]⟩, .int .i64 0, .int .i64 0, .bool false, .int .u64 0, .int .u64 0, .string ⟨#[]⟩, .int .i64 0] 35)).alloc (.cells #[.int .i64 0, .int .i64 0, .int .i64 0, .int .i64 0, .int .u8 0, .int .u8 0, .bool false, .int .i64 0, .int .i64 0, .int .i64 0, .string ⟨#[]⟩, .int .i64 0, .int .i64 0, .bool false, .int .u64 0, .int .u64 0, .string ⟨#[]⟩, .int .i64 0] 35) = (wr.alloc (.cells (lxZ 0).toArray 35)).alloc (.cells (lxZ 0).toArray 35) := rfl
      rw [hWW]
      generalize (wr.alloc (.cells (lxZ 0).toArray 35)).alloc (.cells (lxZ 0).toArray 35) = W2 at H1 H2 ⊢
      clear hWW hg HA hk hlt hsa hsb
      go_loopw [13, 15, 16, 17] (fun p i _ _ wr => ∃ q : Nat, q ≤ Sa.size ∧ i = .int .i64 q ∧ Hid (LT w W2 wr g L q p)) (fun _ i _ _ _ => Sa.size - (RowKit.intOf i).toNat)
      case atStart => exact ⟨0, Nat.zero_le _, rfl, Lib.hid (LT.start L H1.out)⟩
      case round =>
        obtain ⟨q, hq, rfl, HE⟩ := hrel
        obtain ⟨a, c3, rfl⟩ := HE.out.toks.form
        by_cases hlt : q < Sa.size
        · obtain ⟨x, hx⟩ : ∃ x, Sa[q]'hlt = x := ⟨_, rfl⟩
          obtain ⟨hql, hlq⟩ := at_str HRA.out.2 hlt hx
          have hok := good_mid HRA.out.1 q hql hlq
          have hln := run_len HRA.out.1 (q + 1)
          have hTl : T.length ≤ 30 := HT30.out
          rw [runX_snoc .idle L q hql, hlq] at hln
          simp only [List.length_append] at hln
          have HS := Lib.hid (lstep_at HE.out.ls.at_ x)
          rw [hok] at HS
          have HN := Lib.hid (fun w1 v1 v3 w3 => HE.out.next (w1 := w1) (v1 := v1) (v3 := v3) (w3 := w3) hql hlq)
          have HMD := Lib.hid (fun w1 v1 => HE.out.mid (w1 := w1) (v1 := v1) (x := x))
          generalize hL1 : (runX .idle (L.take q)).2 = L1 at *
          generalize hK1 : (stepX (runX .idle (L.take q)).1 x).2 = K at *
          have HKK : Hid (K.length ≤ 30 ∧ L1.length ≤ 30) := Lib.hid (by omega)
          clear hok hql hlq hL1 hK1 hTl
          generalize hn1 : L1.length = n1 at *
          have Hn := Lib.hid hn1
          have hn30 : n1 ≤ 30 := HKK.out.2
          clear hn1 hln
          go_wp2_with fail
          refine HS.out.mono ?_
          rintro r w2 ⟨v1, rfl, hT, hLx, hs⟩
          obtain ⟨q3, q4⟩ := HMD.out w2 v1 hT hs
          obtain ⟨a1, c1', rfl⟩ := q4.form
          have HNX := Lib.hid (fun v3 w3 => HN.out w2 (.slice a1 K.length c1') v3 w3 hT hLx hs)
          have HW1 : Hid (Win w2 42 4 (.slice a n1 c3) n1 (tksC L1)) := Lib.hid (by have := q3.win; rw [Hn.out] at this; exact this)
          have HW2 : Hid (Win w2 42 4 (.slice a1 K.length c1') K.length (tksC K)) := Lib.hid q4.win
          have hm30 : K.length ≤ 30 := HKK.out.1
          generalize hm : K.length = m at *
          clear q3 q4 hT hLx hs hm HN HMD HS HKK
          go_wp2_with (at_builtin; refine wpList_append_win rfl _ _ _ rfl Try.underlying36 info_tk rfl rfl HW1.out _ rfl m _ (HW2.out.src Try.underlying36 (tksC_one _)) ?e1 ?e2 ?_)
          case e1 => unfold maxLen; omega
          case e2 => omega
          intro v3 w3 hW3 hG3 hO3
          have HN3 := Lib.hid (HNX.out v3 w3 hW3.out hG3.out hO3.out)
          clear hW3 hG3 hO3 HNX
          go_wp2
          go_roundw
          case rel => exact ⟨q + 1, by omega, by go_num, HN3⟩
          case measure => simp [RowKit.intOf]; omega
        · obtain ⟨W3, hW3⟩ : ∃ W3, W3 = wr := ⟨_, rfl⟩
          subst hW3
          have hLs : L.length = Sa.size := by rw [← HRA.out.2, size_list]
          have htk : L.take q = L := List.take_of_length_le (by omega)
          have hE := HE.out
          have H3 := Lib.hid (hE.other H2.out (by omega))
          have hP := hE.toks
          have hgl := hE.hg
          rw [htk, HRA.out.1] at hP ⊢
          simp only [] at hP ⊢
          rw [HTN.out] at hP ⊢
          have HP := Lib.hid (And.intro hP hgl)
          clear hE hP hgl HE hLs htk
          go_wp2
          clear hlt hq
          go_loopw [14, 18, 19, 20] (fun p i _ _ wr => ∃ q : Nat, q ≤ Sb.size ∧ i = .int .i64 q ∧ Hid (LT w W3 wr (g + 1) M q p)) (fun _ i _ _ _ => Sb.size - (RowKit.intOf i).toNat)
          case atStart => exact ⟨0, Nat.zero_le _, rfl, Lib.hid (LT.start M H3.out)⟩
          case round =>
            obtain ⟨q, hq, rfl, HE⟩ := hrel
            obtain ⟨a4, c4, rfl⟩ := HE.out.toks.form
            by_cases hlt : q < Sb.size
            · obtain ⟨x, hx⟩ : ∃ x, Sb[q]'hlt = x := ⟨_, rfl⟩
              obtain ⟨hql, hlq⟩ := at_str HRB.out.2 hlt hx
              have hok := good_mid HRB.out.1 q hql hlq
              have hln := run_len HRB.out.1 (q + 1)
              have hTl : T.length ≤ 30 := HT30.out
              rw [runX_snoc .idle M q hql, hlq] at hln
              simp only [List.length_append] at hln
              have HS := Lib.hid (lstep_at HE.out.ls.at_ x)
              rw [hok] at HS
              have HN := Lib.hid (fun w1 v1 v3 w3 => HE.out.next (w1 := w1) (v1 := v1) (v3 := v3) (w3 := w3) hql hlq)
              have HMD := Lib.hid (fun w1 v1 => HE.out.mid (w1 := w1) (v1 := v1) (x := x))
              generalize hL1 : (runX .idle (M.take q)).2 = L1 at *
              generalize hK1 : (stepX (runX .idle (M.take q)).1 x).2 = K at *
              have HKK : Hid (K.length ≤ 30 ∧ L1.length ≤ 30) := Lib.hid (by omega)
              clear hok hql hlq hL1 hK1 hTl
              generalize hn1 : L1.length = n1 at *
              have Hn := Lib.hid hn1
              have hn30 : n1 ≤ 30 := HKK.out.2
              clear hn1 hln
              go_wp2_with fail
              refine HS.out.mono ?_
              rintro r w2 ⟨v1, rfl, hT, hLx, hs⟩
              obtain ⟨q3, q4⟩ := HMD.out w2 v1 hT hs
              obtain ⟨a1, c1', rfl⟩ := q4.form
              have HNX := Lib.hid (fun v3 w3 => HN.out w2 (.slice a1 K.length c1') v3 w3 hT hLx hs)
              have HW1 : Hid (Win w2 42 4 (.slice a4 n1 c4) n1 (tksC L1)) := Lib.hid (by have := q3.win; rw [Hn.out] at this; exact this)
              have HW2 : Hid (Win w2 42 4 (.slice a1 K.length c1') K.length (tksC K)) := Lib.hid q4.win
              have hm30 : K.length ≤ 30 := HKK.out.1
              generalize hm : K.length = m at *
              clear q3 q4 hT hLx hs hm HN HMD HS HKK
              go_wp2_with (at_builtin; refine wpList_append_win rfl _ _ _ rfl Try.underlying36 info_tk rfl rfl HW1.out _ rfl m _ (HW2.out.src Try.underlying36 (tksC_one _)) ?e1 ?e2 ?_)
              case e1 => unfold maxLen; omega
              case e2 => omega
              intro v3 w3 hW3 hG3 hO3
              have HN3 := Lib.hid (HNX.out v3 w3 hW3.out hG3.out hO3.out)
              clear hW3 hG3 hO3 HNX
              go_wp2
              go_roundw
              case rel => exact ⟨q + 1, by omega, by go_num, HN3⟩
              case measure => simp [RowKit.intOf]; omega
            · have hMs : M.length = Sb.size := by rw [← HRB.out.2, size_list]
              have htk : M.take q = M := List.take_of_length_le (by omega)
              have hE := HE.out
              have hP2 := hE.kept HP.out.1 H2.out.at_.lt
              have hQ := hE.toks
              rw [htk, HRB.out.1] at hQ ⊢
              simp only [] at hQ ⊢
              rw [HTN.out] at hQ ⊢
              have H4 : Hid (Tks W2 wr (.slice a n c3) T ∧ Tks W3 wr (.slice a4 n c4) T ∧ Below w.heap.size w wr) := Lib.hid ⟨hP2, hQ, hE.ls.b⟩
              clear hP2 hQ hE HE hMs htk
              go_wp2
              clear hlt hq
              go_loopw [21, 133] (fun _ i wr => ∃ j : Nat, i = .int .i64 j ∧ j ≤ n ∧ Hid (Tks W2 wr (.slice a n c3) T ∧ Tks W3 wr (.slice a4 n c4) T ∧ Below w.heap.size w wr)) (fun _ i _ => n - (RowKit.intOf i).toNat)
              case atStart => exact ⟨0, rfl, by omega, H4⟩
              case round =>
                clear H4
                obtain ⟨j, rfl, hj, HJ⟩ := hrel
                by_cases hlt : j < n
                · obtain ⟨b, off, cc, hv, x0, x1, x2, x3⟩ := HJ.out.1.cells (i := j) (by rw [HTN.out]; exact hlt)
                  obtain ⟨b', off', cc', hv', y0, y1, y2, y3⟩ := HJ.out.2.1.cells (i := j) (by rw [HTN.out]; exact hlt)
                  injection hv with ha _ _
                  injection hv' with ha' _ _
                  rw [ha, ha']
                  have HJ2 := HJ
                  rw [ha, ha'] at HJ2
                  have he := fun W => tk_neq (getT T j) W
                  generalize getT T j = t at *
                  obtain ⟨tk, tt, tn, tv⟩ := t
                  simp only [tkV] at he x0 x1 x2 x3 y0 y1 y2 y3
                  generalize (⟨tt.toArray⟩ : ByteArray) = ts at *
                  go_wp2
                  go_quiet (fail)
                  go_wp2
                  go_roundw
                  case rel => exact ⟨j + 1, by go_num, by omega, Lib.hid ⟨⟨HJ2.out.1.win.drewN _, HJ2.out.1.new⟩, ⟨HJ2.out.2.1.win.drewN _, HJ2.out.2.1.new⟩, below_dq HJ2.out.2.2 _⟩⟩
                  case measure => simp [RowKit.intOf]; omega
                · go_wp2
                  go_ret
                  exact ⟨rfl, HJ.out.2.2⟩
set_option maxRecDepth 100000 in
set_option maxHeartbeats 2000000 in
theorem blanks_out (A : Option Addr) (n c : Nat) (A' : Option Addr) (n' c' : Nat) (w : World) (h : 30 < n ∨ 60 < n') :
    Calls Try.prog 3 #[.slice A n c, .slice A' n' c'] w fun e w' => e = .returned (.bool true) ∧ Below w.heap.size w w' := by
  by_cases h1 : 30 < n
  · have c1 : ((30 : Int) < (n : Int)) = True := by simp only [eq_iff_iff, iff_true]; omega
    clear h h1
    go_enter Try.func3, Try.ntmps3
    go_wp2_with fail
    refine (alive_any _).mono ?_
    rintro e w1 ⟨rfl, b1⟩
    have B1 := Lib.hid b1
    clear b1
    go_wp2
    go_ret
    exact ⟨rfl, B1.out⟩
  have c1 : ((30 : Int) < (n : Int)) = False := by simp only [eq_iff_iff, iff_false]; omega
  have c2 : ((60 : Int) < (n' : Int)) = True := by simp only [eq_iff_iff, iff_true]; omega
  clear h h1
  go_enter Try.func3, Try.ntmps3
  go_wp2_with fail
  refine (alive_any _).mono ?_
  rintro e w1 ⟨rfl, b1⟩
  have B1 := Lib.hid b1
  clear b1
  go_wp2
  go_ret
  exact ⟨rfl, B1.out⟩
theorem blanks_any (A : Option Addr) (n c : Nat) (zs : List Int) (A' : Option Addr) (n' c' : Nat) (zs' : List Int) (w : World) (hl : zs.length = n) (hR : Reads w w.heap.size 1 A n (zs.map (Value.int .i64))) (hl' : zs'.length = n') (hR' : Reads w w.heap.size 1 A' n' (zs'.map (Value.int .i64))) :
    Calls Try.prog 3 #[.slice A n c, .slice A' n' c'] w fun e w' => e = .returned (.bool true) ∧ Below w.heap.size w w' := by
  by_cases h : 30 < n ∨ 60 < n'
  · exact blanks_out A n c A' n' c' w h
  · exact blanks_main A n c zs A' n' c' zs' w hl hR hl' hR' (by omega) (by omega)
end Go.Proofs.Yteonbajndghfcaa
