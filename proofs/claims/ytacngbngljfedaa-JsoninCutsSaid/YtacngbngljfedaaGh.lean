/-
  CONTRACTS of truchmanbook.Doc and Open.
-/
import Derived.Test.YtacngbngljfedaaGe
import Derived.StillTail
import Derived.Deep.RegionLaw
import Derived.Laws.EntriesVeiled
/-
  CONTRACTS of the book's documents out of numbers (truchmanbook.Doc, text, Open).
-/
namespace Go.Proofs.Ytacngbngljfedaa
open Go.RowKit
open Go.Lib
def pieceL (i : Nat) : List UInt8 :=
  if i = 0 then [97] else if i = 1 then [34] else if i = 2 then [92] else if i = 3 then [10] else if i = 4 then [195, 169] else if i = 5 then [1] else if i = 6 then [240, 157, 132, 158] else [122]
/-- A text out of a number, as the loop makes it: k rounds are left. -/
def textGo (x : Nat) : Nat → List UInt8 → List UInt8
  | 0, acc => acc
  | k + 1, acc => textGo x k (acc ++ pieceL (x / 2 ^ ((k + 1) % 8) % 8))
def textL (x : Nat) : List UInt8 := textGo x (x % 8) []
theorem piece_len (i : Nat) : (pieceL i).length ≤ 4 := by
  unfold pieceL
  repeat' split
  all_goals simp
theorem and_nat (r m : Nat) (h : r < 9223372036854775808) (hm : m < 9223372036854775808) : bits .and .i64 (r : Int) (m : Int) = ((r &&& m : Nat) : Int) := by
  have h1 : (BitVec.ofInt 64 (r : Int)).toNat = r := by rw [BitVec.ofInt_natCast, BitVec.toNat_ofNat]; exact Nat.mod_eq_of_lt (by omega)
  have h2 : (BitVec.ofInt 64 (m : Int)).toNat = m := by rw [BitVec.ofInt_natCast, BitVec.toNat_ofNat]; exact Nat.mod_eq_of_lt (by omega)
  show IntKind.i64.wrap ((BitVec.ofInt 64 (r : Int) &&& BitVec.ofInt 64 (m : Int)).toNat : Int) = _
  have h3 : r &&& m ≤ m := Nat.and_le_right
  rw [BitVec.toNat_and, h1, h2, IntKind.wrap_i64]
  omega
theorem dand7 (r : Nat) (h : r < 65536) : bits .and .i64 (r : Int) 7 = ((r % 8 : Nat) : Int) := by
  have := and_nat r 7 (by omega) (by omega)
  rw [show r &&& 7 = r % 8 from Nat.and_two_pow_sub_one_eq_mod r 3] at this
  exact this
theorem catD (l k : List UInt8) : (⟨l.toArray⟩ : ByteArray) ++ ⟨k.toArray⟩ = ⟨(l ++ k).toArray⟩ := by
  apply ByteArray.ext
  simp
theorem piece_at (i : Nat) (hi : i < 8) (h : i < [Value.string ⟨#[97]⟩, .string ⟨#[34]⟩, .string ⟨#[92]⟩, .string ⟨#[10]⟩, .string ⟨#[195, 169]⟩, .string ⟨#[1]⟩, .string ⟨#[240, 157, 132, 158]⟩, .string ⟨#[122]⟩].length) :
    ([Value.string ⟨#[97]⟩, .string ⟨#[34]⟩, .string ⟨#[92]⟩, .string ⟨#[10]⟩, .string ⟨#[195, 169]⟩, .string ⟨#[1]⟩, .string ⟨#[240, 157, 132, 158]⟩, .string ⟨#[122]⟩])[i]'h = .string ⟨(pieceL i).toArray⟩ := by
  match i, hi with
  | 0, _ => rfl
  | 1, _ => rfl
  | 2, _ => rfl
  | 3, _ => rfl
  | 4, _ => rfl
  | 5, _ => rfl
  | 6, _ => rfl
  | 7, _ => rfl
set_option maxHeartbeats 1000000 in
theorem text_any (x : Nat) (hx : x < 65536) (w : World) : Calls Try.prog 24 #[.int .i64 x] w fun r w' => r = .returned (.string ⟨(textL x).toArray⟩) ∧ Below w.heap.size w w' := by
  obtain ⟨Z, hZ⟩ : ∃ Z, textL x = Z := ⟨_, rfl⟩
  rw [hZ]
  have HZ := Lib.hid hZ
  have ha := dand7 x hx
  have HX := Lib.hid hx
  clear hZ hx
  go_enter Try.func24, Try.ntmps24
  go_wp2
  go_loopw [3, 4] (fun s k wr => ∃ (j : Nat) (acc : List UInt8), s = .string ⟨acc.toArray⟩ ∧ k = .int .i64 j ∧ j ≤ 7 ∧ acc.length ≤ 4 * (7 - j) ∧ Hid (textGo x j acc = Z) ∧ Hid (Below w.heap.size w wr)) (fun _ k _ => (RowKit.intOf k).toNat)
  case atStart => exact ⟨x % 8, [], rfl, rfl, by omega, by simp, HZ, Lib.hid (Below.refl _ _)⟩
  case round =>
    obtain ⟨j, acc, rfl, rfl, hj, hl, HT, HB⟩ := hrel
    cases j with
    | zero =>
      go_wp2
      go_ret
      exact ⟨by rw [← HT.out]; rfl, HB.out⟩
    | succ j =>
      obtain ⟨i, hi⟩ : ∃ i, i = x / 2 ^ ((j + 1) % 8) % 8 := ⟨_, rfl⟩
      have hib : i < 8 := by omega
      have hd : x / 2 ^ ((j + 1) % 8) < 65536 := Nat.lt_of_le_of_lt (Nat.div_le_self _ _) HX.out
      have hb7 : bits .and .i64 ((x : Int) / 2 ^ ((j + 1) % 8)) 7 = (i : Int) := by
        have := dand7 (x / 2 ^ ((j + 1) % 8)) hd
        rw [hi, ← this]
        congr 1
      have hpc := piece_at i hib
      obtain ⟨P, hP⟩ : ∃ P : ByteArray, ⟨(pieceL i).toArray⟩ = P := ⟨_, rfl⟩
      obtain ⟨A, hA⟩ : ∃ A : ByteArray, ⟨acc.toArray⟩ = A := ⟨_, rfl⟩
      have hps : P.size ≤ 4 := by
        rw [← hP]
        have := piece_len i
        simpa [ByteArray.size] using this
      have has : A.size ≤ 28 := by
        rw [← hA]
        have : acc.length ≤ 28 := by omega
        simpa [ByteArray.size] using this
      have hcat : A ++ P = ⟨(acc ++ pieceL i).toArray⟩ := by rw [← hA, ← hP]; exact catD _ _
      have hlen : (acc ++ pieceL i).length ≤ 4 * (7 - j) := by
        have := piece_len i
        rw [List.length_append]
        omega
      have hgo : textGo x j (acc ++ pieceL i) = Z := by rw [← HT.out, hi]; rfl
      rw [hP] at hpc
      rw [hA]
      have HC := Lib.hid hcat
      have HL := Lib.hid hlen
      have HG := Lib.hid hgo
      have hov : ¬ 9223372036854775807 < A.size + P.size := by omega
      clear hi hd hP hA hcat hlen hgo hl
      go_wp2
      go_roundw
      case rel => exact ⟨j, acc ++ pieceL i, by rw [HC.out], rfl, by omega, HL.out, HG, Lib.hid (up_alloc HB.out _)⟩
      case measure => simp [RowKit.intOf]
theorem heap_new2 (w : World) (X Y : Obj) : ((w.alloc X).alloc Y).heap[w.heap.size + 1]? = some Y := by
  have := heap_alloc_new (w.alloc X) Y
  rwa [World.size_alloc] at this
def openE (e : Ev) : Ev := if e.k = 5 ∨ e.k = 6 then ⟨e.k, e.y, e.m, e.t, -1⟩ else e
theorem evs_cells (e : Ev) : evsC [e] = [.int .i64 e.k, .bool e.y, .int .u64 e.m, .string e.t, .int .i64 e.c] := by simp [evs_one, evCells]
set_option maxHeartbeats 2000000 in
/-- The same parts with counts that are not known. -/
theorem dopen_any (A : Option Addr) (n cp : Nat) (E : Nat → Ev) (w : World) (hn : n ≤ 1000000) (hE : EvsAt w w.heap.size A n E) :
    Calls Try.prog 12 #[.slice A n cp] w fun r w' => ∃ v, r = .returned v ∧ Made w w' v n ((pre E n).map openE) := by
  have HE := Lib.hid hE
  have HN := Lib.hid hn
  clear hE hn
  go_enter Try.func12, Try.ntmps12
  go_wp2
  go_loopw [3, 8] (fun o i wr => ∃ (j : Nat) (a : Option Addr) (c : Nat), o = .slice a j c ∧ i = .int .i64 j ∧ j ≤ n ∧ Hid (Made w wr (.slice a j c) j ((pre E j).map openE))) (fun _ i _ => n - (RowKit.intOf i).toNat)
  case atStart => exact ⟨0, none, 0, rfl, rfl, by omega, Lib.hid (made_nil w)⟩
  case round =>
    obtain ⟨j, a, c, rfl, rfl, hjn, HM⟩ := hrel
    by_cases hlt : j < n
    · obtain ⟨b, off, rfl, hb, x0, x1, x2, x3, x4⟩ := (HE.out.below HM.out.1).cells hlt
      have hps : (pre E (j + 1)).map openE = (pre E j).map openE ++ [openE (E j)] := by rw [pre_succ, List.map_append]; rfl
      have HPS := Lib.hid hps
      have hj6 : j ≤ 1000000 := by have := HN.out; omega
      generalize E j = e at x0 x1 x2 x3 x4 HPS
      clear hps
      obtain ⟨k, y, m, t, c0⟩ := e
      simp only at x0 x1 x2 x3 x4
      by_cases h5 : k = 5
      · subst h5
        have he : openE ⟨5, y, m, t, c0⟩ = ⟨5, y, m, t, -1⟩ := rfl
        rw [he] at HPS
        clear he
        go_wp2_with (at_builtin; refine wpList_append_win rfl _ _ _ rfl Try.underlying23 info_ev rfl rfl ((HM.out.2.1.alloc _).alloc _) _ rfl 1 _ (src_new _ Try.underlying23 5 1 (evsC [⟨5, y, m, t, -1⟩]) 40 _ rfl (evsC_one _) (heap_new2 _ _ _)) ?e1 ?e2 ?_)
        case e1 => unfold maxLen; omega
        case e2 => omega
        intro v3 w3 hW3 hG3 hO3
        have hM3 : Made w w3 v3 (j + 1) ((pre E j).map openE ++ [⟨5, y, m, t, -1⟩]) := made_more HM.out (up_alloc (up_alloc (Below.refl _ _) _) _) hW3.out hG3.out (by simpa using hO3.out)
        rw [← HPS.out] at hM3
        obtain ⟨a3, c3, rfl, _, _⟩ := hM3.2.1.slice_form
        have M3 := Lib.hid hM3
        clear hW3 hG3 hO3 hM3
        go_wp2
        go_roundw
        case rel => exact ⟨j + 1, a3, c3, rfl, rfl, hlt, M3⟩
        case measure => simp [RowKit.intOf]; omega
      · by_cases h6 : k = 6
        · subst h6
          have he : openE ⟨6, y, m, t, c0⟩ = ⟨6, y, m, t, -1⟩ := rfl
          rw [he] at HPS
          clear he h5
          go_wp2_with (at_builtin; refine wpList_append_win rfl _ _ _ rfl Try.underlying23 info_ev rfl rfl ((HM.out.2.1.alloc _).alloc _) _ rfl 1 _ (src_new _ Try.underlying23 5 1 (evsC [⟨6, y, m, t, -1⟩]) 40 _ rfl (evsC_one _) (heap_new2 _ _ _)) ?e1 ?e2 ?_)
          case e1 => unfold maxLen; omega
          case e2 => omega
          intro v3 w3 hW3 hG3 hO3
          have hM3 : Made w w3 v3 (j + 1) ((pre E j).map openE ++ [⟨6, y, m, t, -1⟩]) := made_more HM.out (up_alloc (up_alloc (Below.refl _ _) _) _) hW3.out hG3.out (by simpa using hO3.out)
          rw [← HPS.out] at hM3
          obtain ⟨a3, c3, rfl, _, _⟩ := hM3.2.1.slice_form
          have M3 := Lib.hid hM3
          clear hW3 hG3 hO3 hM3
          go_wp2
          go_roundw
          case rel => exact ⟨j + 1, a3, c3, rfl, rfl, hlt, M3⟩
          case measure => simp [RowKit.intOf]; omega
        · have q5 : (k == 5) = false := by simpa using h5
          have q6 : (k == 6) = false := by simpa using h6
          have he : openE ⟨k, y, m, t, c0⟩ = ⟨k, y, m, t, c0⟩ := by unfold openE; rw [if_neg (by simp only; omega)]
          rw [he] at HPS
          clear he h5 h6
          go_wp2_with (at_builtin; refine wpList_append_win rfl _ _ _ rfl Try.underlying23 info_ev rfl rfl ((HM.out.2.1.alloc _).alloc _) _ rfl 1 _ (src_new _ Try.underlying23 5 1 (evsC [⟨k, y, m, t, c0⟩]) 40 _ rfl (evsC_one _) (heap_new2 _ _ _)) ?e1 ?e2 ?_)
          case e1 => unfold maxLen; omega
          case e2 => omega
          intro v3 w3 hW3 hG3 hO3
          have hM3 : Made w w3 v3 (j + 1) ((pre E j).map openE ++ [⟨k, y, m, t, c0⟩]) := made_more HM.out (up_alloc (up_alloc (Below.refl _ _) _) _) hW3.out hG3.out (by simpa using hO3.out)
          rw [← HPS.out] at hM3
          obtain ⟨a3, c3, rfl, _, _⟩ := hM3.2.1.slice_form
          have M3 := Lib.hid hM3
          clear hW3 hG3 hO3 hM3
          go_wp2
          go_roundw
          case rel => exact ⟨j + 1, a3, c3, rfl, rfl, hlt, M3⟩
          case measure => simp [RowKit.intOf]; omega
    · obtain rfl : j = n := by omega
      go_wp2
      go_ret
      exact ⟨_, rfl, HM.out⟩
end Go.Proofs.Ytacngbngljfedaa
/-
  CONTRACTS of the book's documents out of numbers: what the closures of truchmanbook.Doc do, step by step.
-/
namespace Go.Proofs.Ytacngbngljfedaa
open Go.RowKit
open Go.Lib
/-- A number of the list, as 'next' tells it. -/
def wordD (z : Int) : Nat := (bits .and .i64 z 65535).toNat
theorem wordD_is (z : Int) : bits .and .i64 z 65535 = ((wordD z : Nat) : Int) ∧ wordD z < 65536 := by
  have e1 : (BitVec.ofInt 64 (65535 : Int)).toNat = 65535 := by rw [BitVec.toNat_ofInt]; omega
  have h1 : bits .and .i64 z 65535 = ((BitVec.ofInt 64 z &&& BitVec.ofInt 64 65535).toNat : Int) ∧ (BitVec.ofInt 64 z &&& BitVec.ofInt 64 65535).toNat ≤ 65535 := by
    have hle : (BitVec.ofInt 64 z &&& BitVec.ofInt 64 65535).toNat ≤ 65535 := by
      rw [BitVec.toNat_and, e1]
      exact Nat.and_le_right
    refine ⟨?_, hle⟩
    show IntKind.i64.wrap ((BitVec.ofInt 64 z &&& BitVec.ofInt 64 65535).toNat : Nat) = _
    rw [IntKind.wrap_i64]
    omega
  unfold wordD
  rw [h1.1]
  generalize (BitVec.ofInt 64 z &&& BitVec.ofInt 64 65535).toNat = a at h1
  exact ⟨rfl, by rw [Int.toNat_natCast]; omega⟩
def nxD (n : Nat) (L : Nat → Int) (at_ : Nat) : Nat := if at_ < n then wordD (L at_) else 0
theorem nxD_lt (n : Nat) (L : Nat → Int) (at_ : Nat) : nxD n L at_ < 65536 := by
  unfold nxD
  split
  · exact (wordD_is _).2
  · omega
/-- The closures. -/
def clNext (ba bl : Nat) : Value := .func (.func 22) #[] #[.pointer (some ⟨ba, 0, none⟩), .pointer (some ⟨bl, 0, none⟩)]
def clItem (bn bo bd bi : Nat) : Value := .func (.func 23) #[] #[.pointer (some ⟨bn, 0, none⟩), .pointer (some ⟨bo, 0, none⟩), .pointer (some ⟨bd, 0, none⟩), .pointer (some ⟨bi, 0, none⟩)]
/-- The numbers, as they came in. -/
def DLAt (w : World) (B : Nat) (A : Option Addr) (n : Nat) (L : Nat → Int) : Prop := 0 < n → ∃ b off, A = some ⟨b, off, none⟩ ∧ b < B ∧ ∀ i, i < n → w.cell? ⟨b, off + i, none⟩ = some (.int .i64 (L i))
theorem DLAt.below {w w' : World} {B n : Nat} {A : Option Addr} {L : Nat → Int} (h : DLAt w B A n L) (k : Below B w w') : DLAt w' B A n L := fun hn => by
  obtain ⟨b, off, hA, hb, hc⟩ := h hn
  exact ⟨b, off, hA, hb, fun i hi => (k.cell hb).trans (hc i hi)⟩
/-- What the closures of a document hold on to. -/
structure DS (W : World) (A : Option Addr) (n cp : Nat) (L : Nat → Int) (D bl bd bo ba bn bi : Nat) (w : World) (v : Value) (m : Nat) (out : List Ev) (at_ : Nat) : Prop where
  l : Blk w bl #[.slice A n cp] 29
  d : Blk w bd #[.int .i64 D] 3
  o : Blk w bo #[v] 23
  a : Blk w ba #[.int .i64 at_] 3
  x : Blk w bn #[clNext ba bl] 64
  i : Blk w bi #[clItem bn bo bd bi] 65
  made : Made W w v m out
  len : out.length = m
  ls : DLAt w W.heap.size A n L
  da : bd ≠ ba
  low : W.heap.size ≤ bo ∧ W.heap.size ≤ ba
theorem next_any (bl ba n cp at_ : Nat) (A : Option Addr) (L : Nat → Int) (B : Nat) (w : World) (hl : Blk w bl #[.slice A n cp] 29) (ha : Blk w ba #[.int .i64 at_] 3) (hL : DLAt w B A n L) (hB : B ≤ ba) (h1 : at_ ≤ 1000000000) (h2 : n ≤ 1000000000) :
    Calls Try.prog 22 #[.pointer (some ⟨ba, 0, none⟩), .pointer (some ⟨bl, 0, none⟩)] w fun r w' => r = .returned (.int .i64 (nxD n L at_ : Nat)) ∧ w' = w.setCell ⟨ba, 0, none⟩ (.int .i64 ((at_ : Int) + 1)) := by
  have a0 := ha.cell 0
  have f0 := ha.froz 0
  have hne : bl ≠ ba := fun e => by
    subst e
    have := hl.symm.trans ha
    simp at this
  have l0 : (w.setCell ⟨ba, 0, none⟩ (.int .i64 ((at_ : Int) + 1))).cell? ⟨bl, 0, none⟩ = some (.slice A n cp) := (hl.far hne _).cell 0
  have l1 := hl.cell 0
  by_cases hlt : at_ < n
  · obtain ⟨b, off, rfl, hb, hc⟩ := hL (by omega)
    have hc := hc at_ hlt
    have hcell : (w.setCell ⟨ba, 0, none⟩ (.int .i64 ((at_ : Int) + 1))).cell? ⟨b, off + at_, none⟩ = some (.int .i64 (L at_)) := by
      rw [World.cell?_setCell_other _ _ _ _ (fun e => by have := congrArg Addr.block e; simp at this; omega)]
      exact hc
    have hnx : nxD n L at_ = wordD (L at_) := by unfold nxD; rw [if_pos hlt]
    have hw := (wordD_is (L at_)).1
    rw [hnx]
    generalize wordD (L at_) = z at hw
    clear hL hl ha hb hnx
    go_enter Try.func22, Try.ntmps22
    go_wp2
    go_ret
    exact ⟨rfl, rfl⟩
  · have hnx : nxD n L at_ = 0 := by unfold nxD; rw [if_neg hlt]
    rw [hnx]
    clear hL hl ha hnx
    go_enter Try.func22, Try.ntmps22
    go_wp2
    go_ret
    exact ⟨rfl, rfl⟩
theorem DS.go {W : World} {A : Option Addr} {n cp : Nat} {L : Nat → Int} {D bl bd bo ba bn bi : Nat} {w w' : World} {v : Value} {m : Nat} {out : List Ev} {at_ : Nat} (h : DS W A n cp L D bl bd bo ba bn bi w v m out at_) (k : Below w.heap.size w w') :
    DS W A n cp L D bl bd bo ba bn bi w' v m out at_ :=
  ⟨h.l.go k, h.d.go k, h.o.go k, h.a.go k, h.x.go k, h.i.go k, h.made.go k, h.len, h.ls.below (k.mono h.made.1.size), h.da, h.low⟩
/-- One number more is told. -/
theorem DS.next {W : World} {A : Option Addr} {n cp : Nat} {L : Nat → Int} {D bl bd bo ba bn bi : Nat} {w : World} {v : Value} {m : Nat} {out : List Ev} {at_ : Nat} (h : DS W A n cp L D bl bd bo ba bn bi w v m out at_) :
    DS W A n cp L D bl bd bo ba bn bi (w.setCell ⟨ba, 0, none⟩ (.int .i64 ((at_ : Int) + 1))) v m out (at_ + 1) := by
  have ne : ∀ {b : Nat} {cs : Array Value} {t : TypeId}, Blk w b cs t → t ≠ 3 → b ≠ ba := fun {b cs t} hb ht e => by
    subst e
    have := hb.symm.trans h.a
    simp at this
    exact ht this.2
  have hb : Below W.heap.size w (w.setCell ⟨ba, 0, none⟩ (.int .i64 ((at_ : Int) + 1))) := (Below.refl _ _).setCell h.low.2 _
  have hap : ba ∉ Value.owner v := h.made.2.1.apart (t := 3) h.a (by decide)
  exact ⟨h.l.far (ne h.l (by decide)) _, h.d.far h.da _, h.o.far (ne h.o (by decide)) _, h.a.set 0 _, h.x.far (ne h.x (by decide)) _, h.i.far (ne h.i (by decide)) _,
    ⟨h.made.1.trans hb, h.made.2.1.setCell_far hap _, h.made.2.2⟩, h.len, h.ls.below hb, h.da, h.low⟩
/-- One part more is told. -/
theorem DS.put {W : World} {A : Option Addr} {n cp : Nat} {L : Nat → Int} {D bl bd bo ba bn bi : Nat} {w wA w2 : World} {v v' : Value} {m : Nat} {out : List Ev} {at_ : Nat} (h : DS W A n cp L D bl bd bo ba bn bi w v m out at_) (e : Ev)
    (hA : Below w.heap.size w wA) (hW : Win w2 40 5 v' (m + 1) (evsC out ++ evsC [e])) (hG : wA.grownBy w2 v.ownBlock) (hO : v'.ownBlock = v.ownBlock ∨ v'.ownBlock = some wA.heap.size ∧ wA.heap.size < w2.heap.size) :
    DS W A n cp L D bl bd bo ba bn bi (w2.setCell ⟨bo, 0, none⟩ v') v' (m + 1) (out ++ [e]) at_ := by
  have hM : Made W w2 v' (m + 1) (out ++ [e]) := made_more h.made hA hW hG hO
  have lift : ∀ {b : Nat} {cs : Array Value} {t : TypeId}, Blk w b cs t → 40 ≠ t → Blk w2 b cs t := fun {b cs t} hb ht => (hb.go hA).lift hG (fun e => h.made.2.1.apart hb ht ((ob_iff _ _).1 e))
  have ho := lift h.o (by decide)
  have ne : ∀ {b : Nat} {cs : Array Value} {t : TypeId}, Blk w2 b cs t → t ≠ 23 → b ≠ bo := fun {b cs t} hb ht e => by
    subst e
    have := hb.symm.trans ho
    simp at this
    exact ht this.2
  have hl := lift h.l (by decide)
  have hd := lift h.d (by decide)
  have ha := lift h.a (by decide)
  have hx := lift h.x (by decide)
  have hi := lift h.i (by decide)
  have hb : Below W.heap.size w2 (w2.setCell ⟨bo, 0, none⟩ v') := (Below.refl _ _).setCell h.low.1 _
  have hw2 : Below W.heap.size w w2 := ((Below.refl W.heap.size w).trans (hA.mono h.made.1.size)).grown hG (Nat.le_trans h.made.1.size hA.size) (fun k hk => h.made.2.2 k ((ob_iff _ _).1 hk))
  have hap : bo ∉ Value.owner v' := hM.2.1.apart (t := 23) ho (by decide)
  exact ⟨hl.far (ne hl (by decide)) _, hd.far (ne hd (by decide)) _, ho.set 0 _, ha.far (ne ha (by decide)) _, hx.far (ne hx (by decide)) _, hi.far (ne hi (by decide)) _,
    ⟨hM.1.trans hb, hM.2.1.setCell_far hap _, hM.2.2⟩, by rw [List.length_append, h.len]; rfl, (h.ls.below hw2).below hb, h.da, h.low⟩
end Go.Proofs.Ytacngbngljfedaa
/-
  CONTRACTS of the book's documents out of numbers: one item after another, to the depth asked.
-/
namespace Go.Proofs.Ytacngbngljfedaa
open Go.RowKit
open Go.Lib
/-- A part that holds no other. -/
def plainD (x : Nat) : Ev :=
  if x % 8 = 0 then ⟨0, false, 0, ⟨#[]⟩, 0⟩
  else if x % 8 = 1 then ⟨1, decide (x / 8 % 2 = 1), 0, ⟨#[]⟩, 0⟩
  else if x % 8 ≤ 3 then ⟨2, decide (x / 8 % 2 = 1), (x * x / 2 ^ (x % 8) : Nat), ⟨#[]⟩, 0⟩
  else ⟨3, false, 0, ⟨(textL x).toArray⟩, 0⟩
/-- A part that would hold others, below the depth asked. -/
def lowD (x : Nat) : Ev := if x % 8 = 5 then ⟨3, false, 0, ⟨#[]⟩, 0⟩ else ⟨2, false, (x : Nat), ⟨#[]⟩, 0⟩
def listD (it : Nat → List Ev × Nat) : Nat → Nat → List Ev × Nat
  | 0, a => ([], a)
  | k + 1, a => ((it a).1 ++ (listD it k (it a).2).1, (listD it k (it a).2).2)
def mapD (n : Nat) (L : Nat → Int) (it : Nat → List Ev × Nat) : Nat → Nat → List Ev × Nat
  | 0, a => ([], a)
  | k + 1, a => (⟨3, false, 0, ⟨(textL (nxD n L a)).toArray⟩, 0⟩ :: ((it (a + 1)).1 ++ (mapD n L it k (it (a + 1)).2).1), (mapD n L it k (it (a + 1)).2).2)
/-- One item: its parts, and where the next is read. -/
def itemD (n : Nat) (L : Nat → Int) : Nat → Nat → List Ev × Nat
  | 0, a => (if nxD n L a % 8 ≤ 4 then [plainD (nxD n L a)] else [lowD (nxD n L a)], a + 1)
  | f + 1, a =>
    if nxD n L a % 8 ≤ 4 then ([plainD (nxD n L a)], a + 1)
    else if nxD n L a % 8 = 5 then
      (⟨5, false, 0, ⟨#[]⟩, (nxD n L a / 8 % 4 : Nat)⟩ :: (listD (itemD n L f) (nxD n L a / 8 % 4) (a + 1)).1 ++ [⟨7, false, 0, ⟨#[]⟩, 0⟩], (listD (itemD n L f) (nxD n L a / 8 % 4) (a + 1)).2)
    else
      (⟨6, false, 0, ⟨#[]⟩, (nxD n L a / 8 % 3 : Nat)⟩ :: (mapD n L (itemD n L f) (nxD n L a / 8 % 3) (a + 1)).1 ++ [⟨7, false, 0, ⟨#[]⟩, 0⟩], (mapD n L (itemD n L f) (nxD n L a / 8 % 3) (a + 1)).2)
/-- No item has more parts than this, nor reads more numbers. -/
def capD : Nat → Nat
  | 0 => 1
  | f + 1 => 3 * capD f + 5
theorem DS.held {W : World} {A : Option Addr} {n cp : Nat} {L : Nat → Int} {D bl bd bo ba bn bi : Nat} {w wA w2 : World} {v : Value} {m : Nat} {out : List Ev} {at_ : Nat} (h : DS W A n cp L D bl bd bo ba bn bi w v m out at_)
    (hA : Below w.heap.size w wA) (hG : wA.grownBy w2 v.ownBlock) : Blk w2 bo #[v] 23 := (h.o.go hA).lift hG (fun e => h.made.2.1.apart (t := 23) h.o (by decide) ((ob_iff _ _).1 e))
theorem next_ds {D n cp at_ m bl bd bo ba bn bi : Nat} {A : Option Addr} {L : Nat → Int} {W w : World} {v : Value} {out : List Ev} (h : DS W A n cp L D bl bd bo ba bn bi w v m out at_) (h1 : at_ ≤ 900000000) (h2 : n ≤ 900000000) :
    Calls Try.prog 22 #[.pointer (some ⟨ba, 0, none⟩), .pointer (some ⟨bl, 0, none⟩)] w fun r w' => r = .returned (.int .i64 (nxD n L at_ : Nat)) ∧ DS W A n cp L D bl bd bo ba bn bi w' v m out (at_ + 1) :=
  (next_any bl ba n cp at_ A L W.heap.size w h.l h.a h.ls h.low.2 (by omega) (by omega)).mono (by
    rintro e w' ⟨rfl, rfl⟩
    exact ⟨rfl, h.next⟩)
theorem and8 (x : Nat) (h : x < 65536) : bits .and .i64 (x : Int) 8 = if x / 8 % 2 = 1 then 8 else 0 := by
  have := and_nat x 8 (by omega) (by omega)
  rw [show x &&& 8 = if x / 8 % 2 = 1 then 8 else 0 from by
    apply Nat.eq_of_testBit_eq
    intro i
    rw [Nat.testBit_and, show (8 : Nat) = 2 ^ 3 from rfl, Nat.testBit_two_pow]
    by_cases hi : 3 = i
    · subst hi
      rw [Nat.testBit_eq_decide_div_mod_eq]
      by_cases hb : x / 2 ^ 3 % 2 = 1
      · rw [if_pos hb, decide_eq_true hb]
        rfl
      · simp [hb]
    · by_cases hb : x / 2 ^ 3 % 2 = 1
      · rw [if_pos hb, Nat.testBit_two_pow]
        simp [hi]
      · rw [if_neg hb]
        simp [hi]] at this
  rw [show ((8 : Nat) : Int) = 8 from rfl] at this
  rw [this]
  split <;> rfl
set_option maxHeartbeats 2000000 in
theorem plain0 {D n cp at_ m bl bd bo ba bn bi : Nat} (d : Nat) {A : Option Addr} {L : Nat → Int} {W w : World} {v : Value} {out : List Ev} (h : DS W A n cp L D bl bd bo ba bn bi w v m out at_) (h1 : at_ ≤ 900000000) (h2 : n ≤ 900000000) (h3 : m ≤ 900000000) (hx : nxD n L at_ % 8 = 0) :
    Calls Try.prog 23 #[.int .i64 d, .pointer (some ⟨bn, 0, none⟩), .pointer (some ⟨bo, 0, none⟩), .pointer (some ⟨bd, 0, none⟩), .pointer (some ⟨bi, 0, none⟩)] w fun r w' => ∃ v', r = .returned (.tuple #[]) ∧ DS W A n cp L D bl bd bo ba bn bi w' v' (m + 1) (out ++ [plainD (nxD n L at_)]) (at_ + 1) := by
  have hX := nxD_lt n L at_
  have x0 : w.cell? ⟨bn, 0, none⟩ = some (.func (.func 22) #[] #[.pointer (some ⟨ba, 0, none⟩), .pointer (some ⟨bl, 0, none⟩)]) := h.x.cell 0
  have HC := Lib.hid (next_ds h h1 h2)
  clear h
  generalize nxD n L at_ = x at hx hX HC
  have hpd : plainD x = ⟨0, false, 0, ⟨#[]⟩, 0⟩ := by unfold plainD; rw [if_pos hx]
  rw [hpd]
  clear hpd
  go_enter Try.func23, Try.ntmps23
  go_wp2_with (first
    | (go_at_call 22; refine HC.out.mono ?_; rintro e w1 ⟨rfl, HN⟩; have x1 := HN.o.cell 0; have x2 := HN.o.froz 0; have HN := Lib.hid HN)
    | (at_builtin; go_loud (refine wpList_append_win rfl _ _ _ rfl Try.underlying23 info_ev rfl rfl (HN.out.made.2.1.alloc _) _ rfl 1 _ (src_new _ Try.underlying23 5 1 (evsC [⟨0, false, 0, ⟨#[]⟩, 0⟩]) 40 _ rfl (evsC_one _) (heap_alloc_new _ _)) ?e1 ?e2 ?_)))
  case e1 => unfold maxLen; omega
  case e2 => omega
  intro v3 w3 hW3 hG3 hO3
  have hD := HN.out.put ⟨0, false, 0, ⟨#[]⟩, 0⟩ (up_alloc (Below.refl _ _) _) hW3.out hG3.out (by simpa using hO3.out)
  have hH := HN.out.held (up_alloc (Below.refl _ _) _) hG3.out
  have y1 := hH.cell 0
  have y2 := hH.froz 0
  obtain ⟨a3, c3, rfl, _, _⟩ := hD.made.2.1.slice_form
  have hD := Lib.hid hD
  clear hW3 hG3 hO3 hH x1 x2 x0
  go_wp2
  refine bodyPost_end (results_none rfl _ _ _) rfl ?_
  exact ⟨_, rfl, hD.out⟩
set_option maxHeartbeats 2000000 in
theorem plain1 {D n cp at_ m bl bd bo ba bn bi : Nat} (d : Nat) {A : Option Addr} {L : Nat → Int} {W w : World} {v : Value} {out : List Ev} (h : DS W A n cp L D bl bd bo ba bn bi w v m out at_) (h1 : at_ ≤ 900000000) (h2 : n ≤ 900000000) (h3 : m ≤ 900000000) (hx : nxD n L at_ % 8 = 1) :
    Calls Try.prog 23 #[.int .i64 d, .pointer (some ⟨bn, 0, none⟩), .pointer (some ⟨bo, 0, none⟩), .pointer (some ⟨bd, 0, none⟩), .pointer (some ⟨bi, 0, none⟩)] w fun r w' => ∃ v', r = .returned (.tuple #[]) ∧ DS W A n cp L D bl bd bo ba bn bi w' v' (m + 1) (out ++ [plainD (nxD n L at_)]) (at_ + 1) := by
  have hX := nxD_lt n L at_
  have x0 : w.cell? ⟨bn, 0, none⟩ = some (.func (.func 22) #[] #[.pointer (some ⟨ba, 0, none⟩), .pointer (some ⟨bl, 0, none⟩)]) := h.x.cell 0
  have HC := Lib.hid (next_ds h h1 h2)
  clear h
  generalize nxD n L at_ = x at hx hX HC
  have h8 := and8 x hX
  by_cases hb : x / 8 % 2 = 1
  · have hpd : plainD x = ⟨1, true, 0, ⟨#[]⟩, 0⟩ := by unfold plainD; rw [if_neg (by omega), if_pos hx, decide_eq_true hb]
    rw [if_pos hb] at h8
    rw [hpd]
    clear hpd hb
    go_enter Try.func23, Try.ntmps23
    go_wp2_with (first
      | (go_at_call 22; refine HC.out.mono ?_; rintro e w1 ⟨rfl, HN⟩; have x1 := HN.o.cell 0; have x2 := HN.o.froz 0; have HN := Lib.hid HN)
      | (at_builtin; go_loud (refine wpList_append_win rfl _ _ _ rfl Try.underlying23 info_ev rfl rfl (HN.out.made.2.1.alloc _) _ rfl 1 _ (src_new _ Try.underlying23 5 1 (evsC [⟨1, true, 0, ⟨#[]⟩, 0⟩]) 40 _ rfl (evsC_one _) (heap_alloc_new _ _)) ?e1 ?e2 ?_)))
    case e1 => unfold maxLen; omega
    case e2 => omega
    intro v3 w3 hW3 hG3 hO3
    have hD := HN.out.put ⟨1, true, 0, ⟨#[]⟩, 0⟩ (up_alloc (Below.refl _ _) _) hW3.out hG3.out (by simpa using hO3.out)
    have hH := HN.out.held (up_alloc (Below.refl _ _) _) hG3.out
    have y1 := hH.cell 0
    have y2 := hH.froz 0
    obtain ⟨a3, c3, rfl, _, _⟩ := hD.made.2.1.slice_form
    have hD := Lib.hid hD
    clear hW3 hG3 hO3 hH x1 x2 x0
    go_wp2
    refine bodyPost_end (results_none rfl _ _ _) rfl ?_
    exact ⟨_, rfl, hD.out⟩
  · have hpd : plainD x = ⟨1, false, 0, ⟨#[]⟩, 0⟩ := by unfold plainD; rw [if_neg (by omega), if_pos hx, decide_eq_false hb]
    rw [if_neg hb] at h8
    rw [hpd]
    clear hpd hb
    go_enter Try.func23, Try.ntmps23
    go_wp2_with (first
      | (go_at_call 22; refine HC.out.mono ?_; rintro e w1 ⟨rfl, HN⟩; have x1 := HN.o.cell 0; have x2 := HN.o.froz 0; have HN := Lib.hid HN)
      | (at_builtin; go_loud (refine wpList_append_win rfl _ _ _ rfl Try.underlying23 info_ev rfl rfl (HN.out.made.2.1.alloc _) _ rfl 1 _ (src_new _ Try.underlying23 5 1 (evsC [⟨1, false, 0, ⟨#[]⟩, 0⟩]) 40 _ rfl (evsC_one _) (heap_alloc_new _ _)) ?e1 ?e2 ?_)))
    case e1 => unfold maxLen; omega
    case e2 => omega
    intro v3 w3 hW3 hG3 hO3
    have hD := HN.out.put ⟨1, false, 0, ⟨#[]⟩, 0⟩ (up_alloc (Below.refl _ _) _) hW3.out hG3.out (by simpa using hO3.out)
    have hH := HN.out.held (up_alloc (Below.refl _ _) _) hG3.out
    have y1 := hH.cell 0
    have y2 := hH.froz 0
    obtain ⟨a3, c3, rfl, _, _⟩ := hD.made.2.1.slice_form
    have hD := Lib.hid hD
    clear hW3 hG3 hO3 hH x1 x2 x0
    go_wp2
    refine bodyPost_end (results_none rfl _ _ _) rfl ?_
    exact ⟨_, rfl, hD.out⟩
end Go.Proofs.Ytacngbngljfedaa
/-
  CONTRACTS of the book's documents out of numbers: an item that is a number or a text (regions that draw, every order walked).
-/
namespace Go.Proofs.Ytacngbngljfedaa
open Go.RowKit
open Go.Lib
theorem wp_reg_tail {P : Program} {id : Nat} {Q : Exit → Act → World → Prop} {a : Act} {w : World} {l : List Oper} (n : Nat) (hm : P.follows .mixedOrders = true) (hB : Region.lexTailB .any l.toArray n = true)
    (h : wpStill P l.toArray w.drew (fun a' => wpList P l.toArray Q (l.drop n) a' w.drew) (l.take n) a) : (Code.region id l.toArray true).wp P Q a w :=
  wp_region_still_tail n hm hB h
set_option maxHeartbeats 2000000 in
theorem plain2 {D n cp at_ m bl bd bo ba bn bi : Nat} (d : Nat) {A : Option Addr} {L : Nat → Int} {W w : World} {v : Value} {out : List Ev} (h : DS W A n cp L D bl bd bo ba bn bi w v m out at_) (h1 : at_ ≤ 900000000) (h2 : n ≤ 900000000) (h3 : m ≤ 900000000) (hx : nxD n L at_ % 8 = 2) :
    Calls Try.prog 23 #[.int .i64 d, .pointer (some ⟨bn, 0, none⟩), .pointer (some ⟨bo, 0, none⟩), .pointer (some ⟨bd, 0, none⟩), .pointer (some ⟨bi, 0, none⟩)] w fun r w' => ∃ v', r = .returned (.tuple #[]) ∧ DS W A n cp L D bl bd bo ba bn bi w' v' (m + 1) (out ++ [plainD (nxD n L at_)]) (at_ + 1) := by
  have hX := nxD_lt n L at_
  have x0 : w.cell? ⟨bn, 0, none⟩ = some (.func (.func 22) #[] #[.pointer (some ⟨ba, 0, none⟩), .pointer (some ⟨bl, 0, none⟩)]) := h.x.cell 0
  have HC := Lib.hid (next_ds h h1 h2)
  clear h
  generalize nxD n L at_ = x at hx hX HC
  have h8 := and8 x hX
  have h7 := dand7 x hX
  rw [hx] at h7
  have hq : x * x ≤ 65535 * 65535 := Nat.mul_le_mul (by omega) (by omega)
  have hp : (x : Int) * x = ((x * x : Nat) : Int) := (Int.natCast_mul _ _).symm
  have hpd : plainD x = ⟨2, decide (x / 8 % 2 = 1), x * x / 4, ⟨#[]⟩, 0⟩ := by
    unfold plainD
    rw [if_neg (by omega), if_neg (by omega), if_pos (by omega), hx, show (2 : Nat) ^ 2 = 4 from rfl]
  rw [hpd]
  clear hpd
  have hU : IntKind.u64.wrap (x : Int) = x := by rw [IntKind.wrap_u64]; omega
  generalize x * x = q at hq hp
  have hM : IntKind.u64.wrap ((x : Int) * x) = q := by rw [hp, IntKind.wrap_u64]; omega
  clear hp
  by_cases hb : x / 8 % 2 = 1
  · rw [if_pos hb] at h8
    rw [decide_eq_true hb]
    clear hb
    go_enter Try.func23, Try.ntmps23
    go_wp2_with (go_at_call 22; refine HC.out.mono ?_; rintro e w1 ⟨rfl, HN⟩; have HN := Lib.hid (HN.go (below_drw (Below.refl _ _))); have x1 := HN.out.o.cell 0; have x2 := HN.out.o.froz 0)
    clear HC x0
    have z1 : ∀ o, (w1.alloc o).drew.cell? ⟨bo, 0, none⟩ = some v := fun o => ((HN.out.o.go (up_alloc (Below.refl _ _) o)).cell 0)
    go_region_law (first
      | (refine step_append_win rfl _ _ _ rfl Try.underlying23 info_ev rfl rfl (HN.out.made.2.1.alloc _) _ rfl 1 _ (src_new _ Try.underlying23 5 1 (evsC [⟨2, true, q / 4, ⟨#[]⟩, 0⟩]) 40 _ rfl (evsC_one _) (heap_alloc_new w1 _)) (by unfold maxLen; omega) (by omega) ?_; intro v3 w3 hW3 hG3 hO3; have hD := HN.out.put ⟨2, true, q / 4, ⟨#[]⟩, 0⟩ (up_alloc (Below.refl _ _) _) hW3.out hG3.out hO3.out; have hH := HN.out.held (up_alloc (Below.refl _ _) _) hG3.out; have y1 := hH.cell 0; have y2 := hH.froz 0; obtain ⟨a3, c3, rfl, _, _⟩ := hD.made.2.1.slice_form; have hD := Lib.hid hD; clear hW3 hG3 hO3 hH))
    all_goals
      go_wp2
      refine bodyPost_end (results_none rfl _ _ _) rfl ?_
      exact ⟨_, rfl, hD.out⟩
  · rw [if_neg hb] at h8
    rw [decide_eq_false hb]
    clear hb
    go_enter Try.func23, Try.ntmps23
    go_wp2_with (go_at_call 22; refine HC.out.mono ?_; rintro e w1 ⟨rfl, HN⟩; have HN := Lib.hid (HN.go (below_drw (Below.refl _ _))); have x1 := HN.out.o.cell 0; have x2 := HN.out.o.froz 0)
    clear HC x0
    have z1 : ∀ o, (w1.alloc o).drew.cell? ⟨bo, 0, none⟩ = some v := fun o => ((HN.out.o.go (up_alloc (Below.refl _ _) o)).cell 0)
    go_region_law (first
      | (refine step_append_win rfl _ _ _ rfl Try.underlying23 info_ev rfl rfl (HN.out.made.2.1.alloc _) _ rfl 1 _ (src_new _ Try.underlying23 5 1 (evsC [⟨2, false, q / 4, ⟨#[]⟩, 0⟩]) 40 _ rfl (evsC_one _) (heap_alloc_new w1 _)) (by unfold maxLen; omega) (by omega) ?_; intro v3 w3 hW3 hG3 hO3; have hD := HN.out.put ⟨2, false, q / 4, ⟨#[]⟩, 0⟩ (up_alloc (Below.refl _ _) _) hW3.out hG3.out hO3.out; have hH := HN.out.held (up_alloc (Below.refl _ _) _) hG3.out; have y1 := hH.cell 0; have y2 := hH.froz 0; obtain ⟨a3, c3, rfl, _, _⟩ := hD.made.2.1.slice_form; have hD := Lib.hid hD; clear hW3 hG3 hO3 hH))
    all_goals
      go_wp2
      refine bodyPost_end (results_none rfl _ _ _) rfl ?_
      exact ⟨_, rfl, hD.out⟩
set_option maxHeartbeats 2000000 in
theorem plain3 {D n cp at_ m bl bd bo ba bn bi : Nat} (d : Nat) {A : Option Addr} {L : Nat → Int} {W w : World} {v : Value} {out : List Ev} (h : DS W A n cp L D bl bd bo ba bn bi w v m out at_) (h1 : at_ ≤ 900000000) (h2 : n ≤ 900000000) (h3 : m ≤ 900000000) (hx : nxD n L at_ % 8 = 3) :
    Calls Try.prog 23 #[.int .i64 d, .pointer (some ⟨bn, 0, none⟩), .pointer (some ⟨bo, 0, none⟩), .pointer (some ⟨bd, 0, none⟩), .pointer (some ⟨bi, 0, none⟩)] w fun r w' => ∃ v', r = .returned (.tuple #[]) ∧ DS W A n cp L D bl bd bo ba bn bi w' v' (m + 1) (out ++ [plainD (nxD n L at_)]) (at_ + 1) := by
  have hX := nxD_lt n L at_
  have x0 : w.cell? ⟨bn, 0, none⟩ = some (.func (.func 22) #[] #[.pointer (some ⟨ba, 0, none⟩), .pointer (some ⟨bl, 0, none⟩)]) := h.x.cell 0
  have HC := Lib.hid (next_ds h h1 h2)
  clear h
  generalize nxD n L at_ = x at hx hX HC
  have h8 := and8 x hX
  have h7 := dand7 x hX
  rw [hx] at h7
  have hq : x * x ≤ 65535 * 65535 := Nat.mul_le_mul (by omega) (by omega)
  have hp : (x : Int) * x = ((x * x : Nat) : Int) := (Int.natCast_mul _ _).symm
  have hpd : plainD x = ⟨2, decide (x / 8 % 2 = 1), x * x / 8, ⟨#[]⟩, 0⟩ := by
    unfold plainD
    rw [if_neg (by omega), if_neg (by omega), if_pos (by omega), hx, show (2 : Nat) ^ 3 = 8 from rfl]
  rw [hpd]
  clear hpd
  have hU : IntKind.u64.wrap (x : Int) = x := by rw [IntKind.wrap_u64]; omega
  generalize x * x = q at hq hp
  have hM : IntKind.u64.wrap ((x : Int) * x) = q := by rw [hp, IntKind.wrap_u64]; omega
  clear hp
  by_cases hb : x / 8 % 2 = 1
  · rw [if_pos hb] at h8
    rw [decide_eq_true hb]
    clear hb
    go_enter Try.func23, Try.ntmps23
    go_wp2_with (go_at_call 22; refine HC.out.mono ?_; rintro e w1 ⟨rfl, HN⟩; have HN := Lib.hid (HN.go (below_drw (Below.refl _ _))); have x1 := HN.out.o.cell 0; have x2 := HN.out.o.froz 0)
    clear HC x0
    have z1 : ∀ o, (w1.alloc o).drew.cell? ⟨bo, 0, none⟩ = some v := fun o => ((HN.out.o.go (up_alloc (Below.refl _ _) o)).cell 0)
    go_region_law (first
      | (refine step_append_win rfl _ _ _ rfl Try.underlying23 info_ev rfl rfl (HN.out.made.2.1.alloc _) _ rfl 1 _ (src_new _ Try.underlying23 5 1 (evsC [⟨2, true, q / 8, ⟨#[]⟩, 0⟩]) 40 _ rfl (evsC_one _) (heap_alloc_new w1 _)) (by unfold maxLen; omega) (by omega) ?_; intro v3 w3 hW3 hG3 hO3; have hD := HN.out.put ⟨2, true, q / 8, ⟨#[]⟩, 0⟩ (up_alloc (Below.refl _ _) _) hW3.out hG3.out hO3.out; have hH := HN.out.held (up_alloc (Below.refl _ _) _) hG3.out; have y1 := hH.cell 0; have y2 := hH.froz 0; obtain ⟨a3, c3, rfl, _, _⟩ := hD.made.2.1.slice_form; have hD := Lib.hid hD; clear hW3 hG3 hO3 hH))
    all_goals
      go_wp2
      refine bodyPost_end (results_none rfl _ _ _) rfl ?_
      exact ⟨_, rfl, hD.out⟩
  · rw [if_neg hb] at h8
    rw [decide_eq_false hb]
    clear hb
    go_enter Try.func23, Try.ntmps23
    go_wp2_with (go_at_call 22; refine HC.out.mono ?_; rintro e w1 ⟨rfl, HN⟩; have HN := Lib.hid (HN.go (below_drw (Below.refl _ _))); have x1 := HN.out.o.cell 0; have x2 := HN.out.o.froz 0)
    clear HC x0
    have z1 : ∀ o, (w1.alloc o).drew.cell? ⟨bo, 0, none⟩ = some v := fun o => ((HN.out.o.go (up_alloc (Below.refl _ _) o)).cell 0)
    go_region_law (first
      | (refine step_append_win rfl _ _ _ rfl Try.underlying23 info_ev rfl rfl (HN.out.made.2.1.alloc _) _ rfl 1 _ (src_new _ Try.underlying23 5 1 (evsC [⟨2, false, q / 8, ⟨#[]⟩, 0⟩]) 40 _ rfl (evsC_one _) (heap_alloc_new w1 _)) (by unfold maxLen; omega) (by omega) ?_; intro v3 w3 hW3 hG3 hO3; have hD := HN.out.put ⟨2, false, q / 8, ⟨#[]⟩, 0⟩ (up_alloc (Below.refl _ _) _) hW3.out hG3.out hO3.out; have hH := HN.out.held (up_alloc (Below.refl _ _) _) hG3.out; have y1 := hH.cell 0; have y2 := hH.froz 0; obtain ⟨a3, c3, rfl, _, _⟩ := hD.made.2.1.slice_form; have hD := Lib.hid hD; clear hW3 hG3 hO3 hH))
    all_goals
      go_wp2
      refine bodyPost_end (results_none rfl _ _ _) rfl ?_
      exact ⟨_, rfl, hD.out⟩
set_option maxHeartbeats 2000000 in
theorem plain4 {D n cp at_ m bl bd bo ba bn bi : Nat} (d : Nat) {A : Option Addr} {L : Nat → Int} {W w : World} {v : Value} {out : List Ev} (h : DS W A n cp L D bl bd bo ba bn bi w v m out at_) (h1 : at_ ≤ 900000000) (h2 : n ≤ 900000000) (h3 : m ≤ 900000000) (hx : nxD n L at_ % 8 = 4) :
    Calls Try.prog 23 #[.int .i64 d, .pointer (some ⟨bn, 0, none⟩), .pointer (some ⟨bo, 0, none⟩), .pointer (some ⟨bd, 0, none⟩), .pointer (some ⟨bi, 0, none⟩)] w fun r w' => ∃ v', r = .returned (.tuple #[]) ∧ DS W A n cp L D bl bd bo ba bn bi w' v' (m + 1) (out ++ [plainD (nxD n L at_)]) (at_ + 1) := by
  have hX := nxD_lt n L at_
  have x0 : w.cell? ⟨bn, 0, none⟩ = some (.func (.func 22) #[] #[.pointer (some ⟨ba, 0, none⟩), .pointer (some ⟨bl, 0, none⟩)]) := h.x.cell 0
  have HC := Lib.hid (next_ds h h1 h2)
  clear h
  generalize nxD n L at_ = x at hx hX HC
  have hpd : plainD x = ⟨3, false, 0, ⟨(textL x).toArray⟩, 0⟩ := by unfold plainD; rw [if_neg (by omega), if_neg (by omega), if_neg (by omega)]
  rw [hpd]
  clear hpd
  have HT := Lib.hid (fun w => text_any x hX w)
  generalize (⟨(textL x).toArray⟩ : ByteArray) = T at HT
  go_enter Try.func23, Try.ntmps23
  go_wp2_with (go_at_call 22; refine HC.out.mono ?_; rintro e w1 ⟨rfl, HN⟩; have HN := Lib.hid (HN.go (below_drw (Below.refl _ _))); have x1 := HN.out.o.cell 0; have x2 := HN.out.o.froz 0)
  clear HC x0
  go_region_law (first
    | (go_simp; (go_at_call 24); (refine (HT.out _).mono ?_); rintro e w2 ⟨rfl, HB⟩; have HN2 := Lib.hid (HN.out.go HB); have z2 := HN2.out.o.cell 0; have z3 := HN2.out.o.froz 0; have z4 : ∀ o, (w2.alloc o).cell? ⟨bo, 0, none⟩ = some v := fun o => ((HN2.out.o.go (up_alloc (Below.refl _ _) o)).cell 0); clear HB)
    | (refine step_append_win rfl _ _ _ rfl Try.underlying23 info_ev rfl rfl (HN2.out.made.2.1.alloc _) _ rfl 1 _ (src_new _ Try.underlying23 5 1 (evsC [⟨3, false, 0, T, 0⟩]) 40 _ rfl (evsC_one _) (heap_alloc_new w2 _)) (by unfold maxLen; omega) (by omega) ?_; intro v3 w3 hW3 hG3 hO3; have hD := HN2.out.put ⟨3, false, 0, T, 0⟩ (up_alloc (Below.refl _ _) _) hW3.out hG3.out hO3.out; have hH := HN2.out.held (up_alloc (Below.refl _ _) _) hG3.out; have y1 := hH.cell 0; have y2 := hH.froz 0; obtain ⟨a3, c3, rfl, _, _⟩ := hD.made.2.1.slice_form; have hD := Lib.hid hD; clear hW3 hG3 hO3 hH))
  all_goals
    go_wp2
    refine bodyPost_end (results_none rfl _ _ _) rfl ?_
    exact ⟨_, rfl, hD.out⟩
end Go.Proofs.Ytacngbngljfedaa
/-
  CONTRACTS of the book's documents out of numbers: an item that would hold others, at the depth asked.
-/
namespace Go.Proofs.Ytacngbngljfedaa
open Go.RowKit
open Go.Lib
set_option maxHeartbeats 2000000 in
theorem low5 {D n cp at_ m bl bd bo ba bn bi : Nat} (d : Nat) {A : Option Addr} {L : Nat → Int} {W w : World} {v : Value} {out : List Ev} (h : DS W A n cp L D bl bd bo ba bn bi w v m out at_) (h1 : at_ ≤ 900000000) (h2 : n ≤ 900000000) (h3 : m ≤ 900000000) (hx : nxD n L at_ % 8 = 5) (hd : D ≤ d) :
    Calls Try.prog 23 #[.int .i64 d, .pointer (some ⟨bn, 0, none⟩), .pointer (some ⟨bo, 0, none⟩), .pointer (some ⟨bd, 0, none⟩), .pointer (some ⟨bi, 0, none⟩)] w fun r w' => ∃ v', r = .returned (.tuple #[]) ∧ DS W A n cp L D bl bd bo ba bn bi w' v' (m + 1) (out ++ [lowD (nxD n L at_)]) (at_ + 1) := by
  have hX := nxD_lt n L at_
  have x0 : w.cell? ⟨bn, 0, none⟩ = some (.func (.func 22) #[] #[.pointer (some ⟨ba, 0, none⟩), .pointer (some ⟨bl, 0, none⟩)]) := h.x.cell 0
  have HC := Lib.hid (next_ds h h1 h2)
  clear h
  generalize nxD n L at_ = x at hx hX HC
  have hpd : lowD x = ⟨3, false, 0, ⟨#[]⟩, 0⟩ := by unfold lowD; rw [if_pos hx]
  rw [hpd]
  clear hpd
  go_enter Try.func23, Try.ntmps23
  go_wp2_with (first
    | (go_at_call 22; refine HC.out.mono ?_; rintro e w1 ⟨rfl, HN⟩; have x1 := HN.o.cell 0; have x2 := HN.o.froz 0; have x3 := HN.d.cell 0; have HN := Lib.hid HN)
    | (at_builtin; go_loud (refine wpList_append_win rfl _ _ _ rfl Try.underlying23 info_ev rfl rfl (HN.out.made.2.1.alloc _) _ rfl 1 _ (src_new _ Try.underlying23 5 1 (evsC [⟨3, false, 0, ⟨#[]⟩, 0⟩]) 40 _ rfl (evsC_one _) (heap_alloc_new _ _)) ?e1 ?e2 ?_)))
  case e1 => unfold maxLen; omega
  case e2 => omega
  intro v3 w3 hW3 hG3 hO3
  have hD := HN.out.put ⟨3, false, 0, ⟨#[]⟩, 0⟩ (up_alloc (Below.refl _ _) _) hW3.out hG3.out (by simpa using hO3.out)
  have hH := HN.out.held (up_alloc (Below.refl _ _) _) hG3.out
  have y1 := hH.cell 0
  have y2 := hH.froz 0
  obtain ⟨a3, c3, rfl, _, _⟩ := hD.made.2.1.slice_form
  have hD := Lib.hid hD
  clear hW3 hG3 hO3 hH x1 x2 x0 x3
  go_wp2
  refine bodyPost_ret (results_none rfl _ _ _) rfl ?_
  exact ⟨_, rfl, hD.out⟩
set_option maxHeartbeats 2000000 in
theorem low6 {D n cp at_ m bl bd bo ba bn bi : Nat} (d : Nat) {A : Option Addr} {L : Nat → Int} {W w : World} {v : Value} {out : List Ev} (h : DS W A n cp L D bl bd bo ba bn bi w v m out at_) (h1 : at_ ≤ 900000000) (h2 : n ≤ 900000000) (h3 : m ≤ 900000000) (hx : nxD n L at_ % 8 = 6) (hd : D ≤ d) :
    Calls Try.prog 23 #[.int .i64 d, .pointer (some ⟨bn, 0, none⟩), .pointer (some ⟨bo, 0, none⟩), .pointer (some ⟨bd, 0, none⟩), .pointer (some ⟨bi, 0, none⟩)] w fun r w' => ∃ v', r = .returned (.tuple #[]) ∧ DS W A n cp L D bl bd bo ba bn bi w' v' (m + 1) (out ++ [lowD (nxD n L at_)]) (at_ + 1) := by
  have hX := nxD_lt n L at_
  have x0 : w.cell? ⟨bn, 0, none⟩ = some (.func (.func 22) #[] #[.pointer (some ⟨ba, 0, none⟩), .pointer (some ⟨bl, 0, none⟩)]) := h.x.cell 0
  have HC := Lib.hid (next_ds h h1 h2)
  clear h
  generalize nxD n L at_ = x at hx hX HC
  have hpd : lowD x = ⟨2, false, x, ⟨#[]⟩, 0⟩ := by unfold lowD; rw [if_neg (by omega)]
  rw [hpd]
  clear hpd
  have hU : IntKind.u64.wrap (x : Int) = x := by rw [IntKind.wrap_u64]; omega
  go_enter Try.func23, Try.ntmps23
  go_wp2_with (first
    | (go_at_call 22; refine HC.out.mono ?_; rintro e w1 ⟨rfl, HN⟩; have x1 := HN.o.cell 0; have x2 := HN.o.froz 0; have x3 := HN.d.cell 0; have HN := Lib.hid HN)
    | (at_builtin; go_loud (refine wpList_append_win rfl _ _ _ rfl Try.underlying23 info_ev rfl rfl (HN.out.made.2.1.alloc _) _ rfl 1 _ (src_new _ Try.underlying23 5 1 (evsC [⟨2, false, x, ⟨#[]⟩, 0⟩]) 40 _ rfl (evsC_one _) (heap_alloc_new _ _)) ?e1 ?e2 ?_)))
  case e1 => unfold maxLen; omega
  case e2 => omega
  intro v3 w3 hW3 hG3 hO3
  have hD := HN.out.put ⟨2, false, x, ⟨#[]⟩, 0⟩ (up_alloc (Below.refl _ _) _) hW3.out hG3.out (by simpa using hO3.out)
  have hH := HN.out.held (up_alloc (Below.refl _ _) _) hG3.out
  have y1 := hH.cell 0
  have y2 := hH.froz 0
  obtain ⟨a3, c3, rfl, _, _⟩ := hD.made.2.1.slice_form
  have hD := Lib.hid hD
  clear hW3 hG3 hO3 hH x1 x2 x0 x3
  go_wp2
  refine bodyPost_ret (results_none rfl _ _ _) rfl ?_
  exact ⟨_, rfl, hD.out⟩
set_option maxHeartbeats 2000000 in
theorem low7 {D n cp at_ m bl bd bo ba bn bi : Nat} (d : Nat) {A : Option Addr} {L : Nat → Int} {W w : World} {v : Value} {out : List Ev} (h : DS W A n cp L D bl bd bo ba bn bi w v m out at_) (h1 : at_ ≤ 900000000) (h2 : n ≤ 900000000) (h3 : m ≤ 900000000) (hx : nxD n L at_ % 8 = 7) (hd : D ≤ d) :
    Calls Try.prog 23 #[.int .i64 d, .pointer (some ⟨bn, 0, none⟩), .pointer (some ⟨bo, 0, none⟩), .pointer (some ⟨bd, 0, none⟩), .pointer (some ⟨bi, 0, none⟩)] w fun r w' => ∃ v', r = .returned (.tuple #[]) ∧ DS W A n cp L D bl bd bo ba bn bi w' v' (m + 1) (out ++ [lowD (nxD n L at_)]) (at_ + 1) := by
  have hX := nxD_lt n L at_
  have x0 : w.cell? ⟨bn, 0, none⟩ = some (.func (.func 22) #[] #[.pointer (some ⟨ba, 0, none⟩), .pointer (some ⟨bl, 0, none⟩)]) := h.x.cell 0
  have HC := Lib.hid (next_ds h h1 h2)
  clear h
  generalize nxD n L at_ = x at hx hX HC
  have hpd : lowD x = ⟨2, false, x, ⟨#[]⟩, 0⟩ := by unfold lowD; rw [if_neg (by omega)]
  rw [hpd]
  clear hpd
  have hU : IntKind.u64.wrap (x : Int) = x := by rw [IntKind.wrap_u64]; omega
  go_enter Try.func23, Try.ntmps23
  go_wp2_with (first
    | (go_at_call 22; refine HC.out.mono ?_; rintro e w1 ⟨rfl, HN⟩; have x1 := HN.o.cell 0; have x2 := HN.o.froz 0; have x3 := HN.d.cell 0; have HN := Lib.hid HN)
    | (at_builtin; go_loud (refine wpList_append_win rfl _ _ _ rfl Try.underlying23 info_ev rfl rfl (HN.out.made.2.1.alloc _) _ rfl 1 _ (src_new _ Try.underlying23 5 1 (evsC [⟨2, false, x, ⟨#[]⟩, 0⟩]) 40 _ rfl (evsC_one _) (heap_alloc_new _ _)) ?e1 ?e2 ?_)))
  case e1 => unfold maxLen; omega
  case e2 => omega
  intro v3 w3 hW3 hG3 hO3
  have hD := HN.out.put ⟨2, false, x, ⟨#[]⟩, 0⟩ (up_alloc (Below.refl _ _) _) hW3.out hG3.out (by simpa using hO3.out)
  have hH := HN.out.held (up_alloc (Below.refl _ _) _) hG3.out
  have y1 := hH.cell 0
  have y2 := hH.froz 0
  obtain ⟨a3, c3, rfl, _, _⟩ := hD.made.2.1.slice_form
  have hD := Lib.hid hD
  clear hW3 hG3 hO3 hH x1 x2 x0 x3
  go_wp2
  refine bodyPost_ret (results_none rfl _ _ _) rfl ?_
  exact ⟨_, rfl, hD.out⟩
end Go.Proofs.Ytacngbngljfedaa
/-
  CONTRACTS of the book's documents out of numbers: an array, and the items in it.
-/
namespace Go.Proofs.Ytacngbngljfedaa
open Go.RowKit
open Go.Lib
theorem list_cap (it : Nat → List Ev × Nat) (C : Nat) (h : ∀ a, (it a).1.length ≤ C ∧ (it a).2 ≤ a + C) : ∀ k a, (listD it k a).1.length ≤ k * C ∧ (listD it k a).2 ≤ a + k * C
  | 0, a => by simp [listD]
  | k + 1, a => by
    have h1 := h a
    have h2 := list_cap it C h k (it a).2
    rw [Nat.succ_mul]
    simp only [listD, List.length_append]
    omega
theorem map_cap (n : Nat) (L : Nat → Int) (it : Nat → List Ev × Nat) (C : Nat) (h : ∀ a, (it a).1.length ≤ C ∧ (it a).2 ≤ a + C) : ∀ k a, (mapD n L it k a).1.length ≤ k * (C + 1) ∧ (mapD n L it k a).2 ≤ a + k * (C + 1)
  | 0, a => by simp [mapD]
  | k + 1, a => by
    have h1 := h (a + 1)
    have h2 := map_cap n L it C h k (it (a + 1)).2
    rw [Nat.succ_mul]
    simp only [mapD, List.length_cons, List.length_append]
    omega
theorem item_cap (n : Nat) (L : Nat → Int) : ∀ f a, (itemD n L f a).1.length ≤ capD f ∧ (itemD n L f a).2 ≤ a + capD f
  | 0, a => by
    simp only [itemD, capD]
    split <;> simp
  | f + 1, a => by
    have h1 := list_cap (itemD n L f) (capD f) (item_cap n L f) (nxD n L a / 8 % 4) (a + 1)
    have h2 := map_cap n L (itemD n L f) (capD f) (item_cap n L f) (nxD n L a / 8 % 3) (a + 1)
    have h3 : nxD n L a / 8 % 4 * capD f ≤ 3 * capD f := Nat.mul_le_mul_right _ (by omega)
    have h4 : nxD n L a / 8 % 3 * (capD f + 1) ≤ 2 * (capD f + 1) := Nat.mul_le_mul_right _ (by omega)
    simp only [itemD, capD]
    split
    · exact ⟨by simp, by simp⟩
    · split
      · simp only [List.length_append, List.length_cons, List.length_nil]
        omega
      · simp only [List.length_append, List.length_cons, List.length_nil]
        omega
/-- What an item does, at one depth. -/
def ItemOk (W : World) (A : Option Addr) (n cp : Nat) (L : Nat → Int) (D bl bd bo ba bn bi d f : Nat) : Prop :=
  ∀ (m a : Nat) (w : World) (v : Value) (out : List Ev), DS W A n cp L D bl bd bo ba bn bi w v m out a → a + capD f ≤ 900000000 → m + capD f ≤ 900000000 →
    Calls Try.prog 23 #[.int .i64 ((d : Nat) : Int), .pointer (some ⟨bn, 0, none⟩), .pointer (some ⟨bo, 0, none⟩), .pointer (some ⟨bd, 0, none⟩), .pointer (some ⟨bi, 0, none⟩)] w fun r w' => ∃ v', r = .returned (.tuple #[]) ∧ DS W A n cp L D bl bd bo ba bn bi w' v' (m + (itemD n L f a).1.length) (out ++ (itemD n L f a).1) (itemD n L f a).2
set_option maxHeartbeats 2000000 in
theorem item_arr {D n cp at_ m bl bd bo ba bn bi d f : Nat} {A : Option Addr} {L : Nat → Int} {W w : World} {v : Value} {out : List Ev} (h : DS W A n cp L D bl bd bo ba bn bi w v m out at_) (h1 : at_ + capD (f + 1) ≤ 900000000) (h2 : n ≤ 900000000) (h3 : m + capD (f + 1) ≤ 900000000) (hx : nxD n L at_ % 8 = 5) (hd : d + (f + 1) = D) (hD : D ≤ 1000)
    (hI : ItemOk W A n cp L D bl bd bo ba bn bi (d + 1) f) :
    Calls Try.prog 23 #[.int .i64 ((d : Nat) : Int), .pointer (some ⟨bn, 0, none⟩), .pointer (some ⟨bo, 0, none⟩), .pointer (some ⟨bd, 0, none⟩), .pointer (some ⟨bi, 0, none⟩)] w fun r w' => ∃ v', r = .returned (.tuple #[]) ∧ DS W A n cp L D bl bd bo ba bn bi w' v' (m + (itemD n L (f + 1) at_).1.length) (out ++ (itemD n L (f + 1) at_).1) (itemD n L (f + 1) at_).2 := by
  have hX := nxD_lt n L at_
  have x0 : w.cell? ⟨bn, 0, none⟩ = some (.func (.func 22) #[] #[.pointer (some ⟨ba, 0, none⟩), .pointer (some ⟨bl, 0, none⟩)]) := h.x.cell 0
  have hcap := item_cap n L f
  have hC : capD (f + 1) = 3 * capD f + 5 := rfl
  rw [hC] at h1 h3
  clear hC
  have HC := Lib.hid (next_ds h (by omega) h2)
  clear h
  simp only [itemD]
  rw [if_neg (by omega), if_pos hx]
  generalize nxD n L at_ = x at hx hX HC ⊢
  obtain ⟨q, hq⟩ : ∃ q, x / 8 % 4 = q := ⟨_, rfl⟩
  rw [hq]
  have hq4 : q ≤ 3 := by omega
  obtain ⟨T, hT⟩ : ∃ T, listD (itemD n L f) q (at_ + 1) = T := ⟨_, rfl⟩
  rw [hT]
  have HCap := Lib.hid hcap
  have HI := Lib.hid hI
  have HT := Lib.hid hT
  have HQ := Lib.hid hq
  have hsh : (x : Int) / 8 % 4 = q := by omega
  have hlt : ¬ (D : Int) ≤ d := by omega
  clear hcap hI hT hq
  go_enter Try.func23, Try.ntmps23
  go_wp2_with (first
    | (go_at_call 22; refine HC.out.mono ?_; rintro e w1 ⟨rfl, HN⟩; have x1 := HN.o.cell 0; have x2 := HN.o.froz 0; have x3 := HN.d.cell 0; have HN := Lib.hid HN)
    | (at_builtin; go_loud (refine wpList_append_win rfl _ _ _ rfl Try.underlying23 info_ev rfl rfl (HN.out.made.2.1.alloc _) _ rfl 1 _ (src_new _ Try.underlying23 5 1 (evsC [⟨5, false, 0, ⟨#[]⟩, (q : Int)⟩]) 40 _ rfl (evsC_one _) (heap_alloc_new _ _)) ?e1 ?e2 ?_)))
  case e1 => unfold maxLen; omega
  case e2 => omega
  intro v3 w3 hW3 hG3 hO3
  have hD := HN.out.put ⟨5, false, 0, ⟨#[]⟩, (q : Int)⟩ (up_alloc (Below.refl _ _) _) hW3.out hG3.out (by simpa using hO3.out)
  have hH := HN.out.held (up_alloc (Below.refl _ _) _) hG3.out
  have y1 := hH.cell 0
  have y2 := hH.froz 0
  obtain ⟨a3, c3, rfl, _, _⟩ := hD.made.2.1.slice_form
  have hD := Lib.hid hD
  clear hW3 hG3 hO3 hH x1 x2 x3 x0
  have hlm := HN.out.len
  clear HC
  have HL := Lib.hid hlm
  clear hlm
  go_wp2
  obtain ⟨e5, he5⟩ : ∃ e5 : Ev, (⟨5, false, 0, ⟨#[]⟩, (q : Int)⟩ : Ev) = e5 := ⟨_, rfl⟩
  rw [he5] at hD
  have HE5 := Lib.hid he5
  clear he5
  generalize w3.setCell ⟨bo, 0, none⟩ (.slice a3 (m + 1) c3) = w4 at hD ⊢
  clear y1 y2
  go_loopw [8] (fun i wr => ∃ (j m' a' : Nat) (v' : Value) (out' : List Ev), i = .int .i64 j ∧ j ≤ q ∧ Hid (DS W A n cp L D bl bd bo ba bn bi wr v' m' out' a') ∧ Hid (out' ++ (listD (itemD n L f) (q - j) a').1 = (out ++ [e5]) ++ T.1 ∧ (listD (itemD n L f) (q - j) a').2 = T.2 ∧ m' ≤ m + 1 + j * capD f ∧ a' ≤ at_ + 1 + j * capD f)) (fun i _ => q - (RowKit.intOf i).toNat)
  case atStart => exact ⟨0, m + 1, at_ + 1, _, _, rfl, by omega, hD, Lib.hid ⟨by rw [Nat.sub_zero, HT.out], by rw [Nat.sub_zero, HT.out], by omega, by omega⟩⟩
  case round =>
    obtain ⟨j, m', a', v', out', rfl, hj, HS, HR⟩ := hrel
    by_cases hjq : j < q
    · have x0 : wr.cell? ⟨bi, 0, none⟩ = some (.func (.func 23) #[] #[.pointer (some ⟨bn, 0, none⟩), .pointer (some ⟨bo, 0, none⟩), .pointer (some ⟨bd, 0, none⟩), .pointer (some ⟨bi, 0, none⟩)]) := HS.out.i.cell 0
      have hmul : j * capD f + capD f ≤ 3 * capD f := by rw [← Nat.succ_mul]; exact Nat.mul_le_mul_right _ (by omega)
      have hr := HR.out
      have HK := Lib.hid (HI.out m' a' wr v' out' HS.out (by omega) (by omega))
      have hcp := HCap.out a'
      rw [show q - j = (q - (j + 1)) + 1 by omega] at hr
      simp only [listD] at hr
      have HR2 : Hid ((out' ++ (itemD n L f a').1) ++ (listD (itemD n L f) (q - (j + 1)) (itemD n L f a').2).1 = (out ++ [e5]) ++ T.1 ∧ (listD (itemD n L f) (q - (j + 1)) (itemD n L f a').2).2 = T.2 ∧ m' + (itemD n L f a').1.length ≤ m + 1 + (j + 1) * capD f ∧ (itemD n L f a').2 ≤ at_ + 1 + (j + 1) * capD f) := Lib.hid ⟨by rw [← hr.1, List.append_assoc], hr.2.1, by rw [Nat.succ_mul]; omega, by rw [Nat.succ_mul]; omega⟩
      clear hr hcp hmul HS HR
      go_wp2_with (go_at_call 23; refine HK.out.mono ?_; rintro e w5 ⟨v5, rfl, HS5⟩; have HS5 := Lib.hid HS5)
      go_roundw
      case rel => exact ⟨j + 1, _, _, v5, _, rfl, hjq, HS5, HR2⟩
      case measure => simp [RowKit.intOf]; omega
    · have hr := HR.out
      rw [show q - j = 0 by omega] at hr
      simp only [listD, List.append_nil] at hr
      have hmul : j * capD f ≤ 3 * capD f := Nat.mul_le_mul_right _ (by omega)
      have x1 := HS.out.o.cell 0
      have x2 := HS.out.o.froz 0
      have hm6 : m' ≤ 900000000 := by omega
      have HR3 := Lib.hid hr
      clear hr HR hmul
      go_wp2_with (at_builtin; go_loud (refine wpList_append_win rfl _ _ _ rfl Try.underlying23 info_ev rfl rfl (HS.out.made.2.1.alloc _) _ rfl 1 _ (src_new _ Try.underlying23 5 1 (evsC [⟨7, false, 0, ⟨#[]⟩, 0⟩]) 40 _ rfl (evsC_one _) (heap_alloc_new _ _)) ?e1 ?e2 ?_))
      case e1 => unfold maxLen; omega
      case e2 => omega
      intro v6 w6 hW6 hG6 hO6
      have hD6 := HS.out.put ⟨7, false, 0, ⟨#[]⟩, 0⟩ (up_alloc (Below.refl _ _) _) hW6.out hG6.out (by simpa using hO6.out)
      have hH6 := HS.out.held (up_alloc (Below.refl _ _) _) hG6.out
      have y1 := hH6.cell 0
      have y2 := hH6.froz 0
      obtain ⟨a6, c6, rfl, _, _⟩ := hD6.made.2.1.slice_form
      have hlen := hD6.len
      have hD6 := Lib.hid hD6
      have HLen := Lib.hid hlen
      clear hW6 hG6 hO6 hH6 x1 x2 hlen
      go_wp2
      refine bodyPost_end (results_none rfl _ _ _) rfl ?_
      refine ⟨.slice a6 (m' + 1) c6, rfl, ?_⟩
      have he : (out ++ (⟨5, false, 0, ⟨#[]⟩, (q : Int)⟩ :: (T.1 ++ [⟨7, false, 0, ⟨#[]⟩, 0⟩]))) = out' ++ [⟨7, false, 0, ⟨#[]⟩, 0⟩] := by
        rw [HR3.out.1, HE5.out]
        simp
      have hl2 : m + ((T.1 ++ [(⟨7, false, 0, ⟨#[]⟩, 0⟩ : Ev)]).length + 1) = m' + 1 := by
        have h9 := congrArg List.length he
        rw [HLen.out, List.length_append, List.length_cons, HL.out] at h9
        exact h9
      rw [he, hl2, ← HR3.out.2.1]
      exact hD6.out
end Go.Proofs.Ytacngbngljfedaa
/-
  CONTRACTS of the book's documents out of numbers: a map, and the items in it.
-/
namespace Go.Proofs.Ytacngbngljfedaa
open Go.RowKit
open Go.Lib
set_option maxHeartbeats 2000000 in
theorem item_map {D n cp at_ m bl bd bo ba bn bi d f : Nat} {A : Option Addr} {L : Nat → Int} {W w : World} {v : Value} {out : List Ev} (h : DS W A n cp L D bl bd bo ba bn bi w v m out at_) (h1 : at_ + capD (f + 1) ≤ 900000000) (h2 : n ≤ 900000000) (h3 : m + capD (f + 1) ≤ 900000000) (hx : 6 ≤ nxD n L at_ % 8) (hd : d + (f + 1) = D) (hD : D ≤ 1000)
    (hI : ItemOk W A n cp L D bl bd bo ba bn bi (d + 1) f) :
    Calls Try.prog 23 #[.int .i64 ((d : Nat) : Int), .pointer (some ⟨bn, 0, none⟩), .pointer (some ⟨bo, 0, none⟩), .pointer (some ⟨bd, 0, none⟩), .pointer (some ⟨bi, 0, none⟩)] w fun r w' => ∃ v', r = .returned (.tuple #[]) ∧ DS W A n cp L D bl bd bo ba bn bi w' v' (m + (itemD n L (f + 1) at_).1.length) (out ++ (itemD n L (f + 1) at_).1) (itemD n L (f + 1) at_).2 := by
  have hX := nxD_lt n L at_
  have x0 : w.cell? ⟨bn, 0, none⟩ = some (.func (.func 22) #[] #[.pointer (some ⟨ba, 0, none⟩), .pointer (some ⟨bl, 0, none⟩)]) := h.x.cell 0
  have hcap := item_cap n L f
  have hC : capD (f + 1) = 3 * capD f + 5 := rfl
  rw [hC] at h1 h3
  clear hC
  have HC := Lib.hid (next_ds h (by omega) h2)
  clear h
  simp only [itemD]
  rw [if_neg (by omega), if_neg (by omega)]
  generalize nxD n L at_ = x at hx hX HC ⊢
  obtain ⟨q, hq⟩ : ∃ q, x / 8 % 3 = q := ⟨_, rfl⟩
  rw [hq]
  have hq4 : q ≤ 2 := by omega
  obtain ⟨T, hT⟩ : ∃ T, mapD n L (itemD n L f) q (at_ + 1) = T := ⟨_, rfl⟩
  rw [hT]
  have HCap := Lib.hid hcap
  have HI := Lib.hid hI
  have HT := Lib.hid hT
  have HQ := Lib.hid hq
  have hsh : (x : Int) / 8 % 3 = q := by omega
  have hlt : ¬ (D : Int) ≤ d := by omega
  clear hcap hI hT hq
  go_enter Try.func23, Try.ntmps23
  go_wp2_with (first
    | (go_at_call 22; refine HC.out.mono ?_; rintro e w1 ⟨rfl, HN⟩; have x1 := HN.o.cell 0; have x2 := HN.o.froz 0; have x3 := HN.d.cell 0; have HN := Lib.hid HN)
    | (at_builtin; go_loud (refine wpList_append_win rfl _ _ _ rfl Try.underlying23 info_ev rfl rfl (HN.out.made.2.1.alloc _) _ rfl 1 _ (src_new _ Try.underlying23 5 1 (evsC [⟨6, false, 0, ⟨#[]⟩, (q : Int)⟩]) 40 _ rfl (evsC_one _) (heap_alloc_new _ _)) ?e1 ?e2 ?_)))
  case e1 => unfold maxLen; omega
  case e2 => omega
  intro v3 w3 hW3 hG3 hO3
  have hD := HN.out.put ⟨6, false, 0, ⟨#[]⟩, (q : Int)⟩ (up_alloc (Below.refl _ _) _) hW3.out hG3.out (by simpa using hO3.out)
  have hH := HN.out.held (up_alloc (Below.refl _ _) _) hG3.out
  have y1 := hH.cell 0
  have y2 := hH.froz 0
  obtain ⟨a3, c3, rfl, _, _⟩ := hD.made.2.1.slice_form
  have hD := Lib.hid hD
  clear hW3 hG3 hO3 hH x1 x2 x3 x0
  have hlm := HN.out.len
  clear HC
  have HL := Lib.hid hlm
  clear hlm
  go_wp2
  obtain ⟨e5, he5⟩ : ∃ e5 : Ev, (⟨6, false, 0, ⟨#[]⟩, (q : Int)⟩ : Ev) = e5 := ⟨_, rfl⟩
  rw [he5] at hD
  have HE5 := Lib.hid he5
  clear he5
  generalize w3.setCell ⟨bo, 0, none⟩ (.slice a3 (m + 1) c3) = w4 at hD ⊢
  clear y1 y2
  go_loopw [10] (fun i wr => ∃ (j m' a' : Nat) (v' : Value) (out' : List Ev), i = .int .i64 j ∧ j ≤ q ∧ Hid (DS W A n cp L D bl bd bo ba bn bi wr v' m' out' a') ∧ Hid (out' ++ (mapD n L (itemD n L f) (q - j) a').1 = (out ++ [e5]) ++ T.1 ∧ (mapD n L (itemD n L f) (q - j) a').2 = T.2 ∧ m' ≤ m + 1 + j * (capD f + 1) ∧ a' ≤ at_ + 1 + j * (capD f + 1))) (fun i _ => q - (RowKit.intOf i).toNat)
  case atStart => exact ⟨0, m + 1, at_ + 1, _, _, rfl, by omega, hD, Lib.hid ⟨by rw [Nat.sub_zero, HT.out], by rw [Nat.sub_zero, HT.out], by omega, by omega⟩⟩
  case round =>
    obtain ⟨j, m', a', v', out', rfl, hj, HS, HR⟩ := hrel
    by_cases hjq : j < q
    · have hmul : j * (capD f + 1) + (capD f + 1) ≤ 2 * (capD f + 1) := by rw [← Nat.succ_mul]; exact Nat.mul_le_mul_right _ (by omega)
      have hr := HR.out
      have hcp := HCap.out (a' + 1)
      rw [show q - j = (q - (j + 1)) + 1 by omega] at hr
      simp only [mapD] at hr
      have hb1 : m' + 1 + capD f ≤ 900000000 := by omega
      have hb2 : a' + 1 + capD f ≤ 900000000 := by omega
      have hX2 := nxD_lt n L a'
      have HSd := Lib.hid (HS.out.go (below_drw (Below.refl _ wr)))
      have HC := Lib.hid (next_ds HSd.out (by omega) h2)
      generalize nxD n L a' = x2 at HC hX2 hr
      have HTx := Lib.hid (fun w => text_any x2 hX2 w)
      generalize (⟨(textL x2).toArray⟩ : ByteArray) = T2 at HTx hr
      have HR2 : Hid (((out' ++ [⟨3, false, 0, T2, 0⟩]) ++ (itemD n L f (a' + 1)).1) ++ (mapD n L (itemD n L f) (q - (j + 1)) (itemD n L f (a' + 1)).2).1 = (out ++ [e5]) ++ T.1 ∧ (mapD n L (itemD n L f) (q - (j + 1)) (itemD n L f (a' + 1)).2).2 = T.2 ∧ m' + 1 + (itemD n L f (a' + 1)).1.length ≤ m + 1 + (j + 1) * (capD f + 1) ∧ (itemD n L f (a' + 1)).2 ≤ at_ + 1 + (j + 1) * (capD f + 1)) := Lib.hid ⟨by rw [← hr.1]; simp, hr.2.1, by rw [Nat.succ_mul]; omega, by rw [Nat.succ_mul]; omega⟩
      have hm6 : m' ≤ 900000000 := by omega
      have x0 : wr.cell? ⟨bn, 0, none⟩ = some (.func (.func 22) #[] #[.pointer (some ⟨ba, 0, none⟩), .pointer (some ⟨bl, 0, none⟩)]) := HS.out.x.cell 0
      have x1 : wr.cell? ⟨bo, 0, none⟩ = some v' := HS.out.o.cell 0
      clear hr hcp hmul HS HR 
      clear hD
      go_wp2_with fail
      go_region_law (first
        | (go_simp; (go_at_call 22); (refine HC.out.mono ?_); rintro e w5 ⟨rfl, H5⟩; have b1 : w5.cell? ⟨bo, 0, none⟩ = some v' := H5.o.cell 0; have H5 := Lib.hid H5)
        | (go_simp; (go_at_call 24); (refine (HTx.out _).mono ?_); rintro e w6 ⟨rfl, HB⟩; have H6 := Lib.hid (H5.out.go HB); have z2 : w6.cell? ⟨bo, 0, none⟩ = some v' := H6.out.o.cell 0; have z4 : ∀ o, (w6.alloc o).cell? ⟨bo, 0, none⟩ = some v' := fun o => ((H6.out.o.go (up_alloc (Below.refl _ _) o)).cell 0); clear HB)
        | (refine step_append_win rfl _ _ _ rfl Try.underlying23 info_ev rfl rfl (H6.out.made.2.1.alloc _) _ rfl 1 _ (src_new _ Try.underlying23 5 1 (evsC [⟨3, false, 0, T2, 0⟩]) 40 _ rfl (evsC_one _) (heap_alloc_new w6 _)) (by unfold maxLen; omega) (by omega) ?_; intro v7 w7 hW7 hG7 hO7; have hD7 := H6.out.put ⟨3, false, 0, T2, 0⟩ (up_alloc (Below.refl _ _) _) hW7.out hG7.out hO7.out; have hH7 := H6.out.held (up_alloc (Below.refl _ _) _) hG7.out; have y1 := hH7.cell 0; have y2 := hH7.froz 0; obtain ⟨a7, c7, rfl, _, _⟩ := hD7.made.2.1.slice_form; have i0 : (w7.setCell ⟨bo, 0, none⟩ (.slice a7 (m' + 1) c7)).cell? ⟨bi, 0, none⟩ = some (.func (.func 23) #[] #[.pointer (some ⟨bn, 0, none⟩), .pointer (some ⟨bo, 0, none⟩), .pointer (some ⟨bd, 0, none⟩), .pointer (some ⟨bi, 0, none⟩)]) := hD7.i.cell 0; have HK := Lib.hid (HI.out (m' + 1) (a' + 1) _ _ _ hD7 hb2 hb1); clear hW7 hG7 hO7 hH7 hD7))
      all_goals
        go_wp2_with (go_at_call 23; refine HK.out.mono ?_; rintro e w8 ⟨v8, rfl, HS8⟩; have HS8 := Lib.hid HS8)
        go_roundw
        case rel => exact ⟨j + 1, _, _, v8, _, rfl, hjq, HS8, HR2⟩
        case measure => simp [RowKit.intOf]; omega
    · have hr := HR.out
      rw [show q - j = 0 by omega] at hr
      simp only [mapD, List.append_nil] at hr
      have hmul : j * (capD f + 1) ≤ 2 * (capD f + 1) := Nat.mul_le_mul_right _ (by omega)
      have x1 := HS.out.o.cell 0
      have x2 := HS.out.o.froz 0
      have hm6 : m' ≤ 900000000 := by omega
      have HR3 := Lib.hid hr
      clear hr HR hmul
      go_wp2_with (at_builtin; go_loud (refine wpList_append_win rfl _ _ _ rfl Try.underlying23 info_ev rfl rfl (HS.out.made.2.1.alloc _) _ rfl 1 _ (src_new _ Try.underlying23 5 1 (evsC [⟨7, false, 0, ⟨#[]⟩, 0⟩]) 40 _ rfl (evsC_one _) (heap_alloc_new _ _)) ?e1 ?e2 ?_))
      case e1 => unfold maxLen; omega
      case e2 => omega
      intro v6 w6 hW6 hG6 hO6
      have hD6 := HS.out.put ⟨7, false, 0, ⟨#[]⟩, 0⟩ (up_alloc (Below.refl _ _) _) hW6.out hG6.out (by simpa using hO6.out)
      have hH6 := HS.out.held (up_alloc (Below.refl _ _) _) hG6.out
      have y1 := hH6.cell 0
      have y2 := hH6.froz 0
      obtain ⟨a6, c6, rfl, _, _⟩ := hD6.made.2.1.slice_form
      have hlen := hD6.len
      have hD6 := Lib.hid hD6
      have HLen := Lib.hid hlen
      clear hW6 hG6 hO6 hH6 x1 x2 hlen
      go_wp2
      refine bodyPost_end (results_none rfl _ _ _) rfl ?_
      refine ⟨.slice a6 (m' + 1) c6, rfl, ?_⟩
      have he : (out ++ (⟨6, false, 0, ⟨#[]⟩, (q : Int)⟩ :: (T.1 ++ [⟨7, false, 0, ⟨#[]⟩, 0⟩]))) = out' ++ [⟨7, false, 0, ⟨#[]⟩, 0⟩] := by
        rw [HR3.out.1, HE5.out]
        simp
      have hl2 : m + ((T.1 ++ [(⟨7, false, 0, ⟨#[]⟩, 0⟩ : Ev)]).length + 1) = m' + 1 := by
        have h9 := congrArg List.length he
        rw [HLen.out, List.length_append, List.length_cons, HL.out] at h9
        exact h9
      rw [he, hl2, ← HR3.out.2.1]
      exact hD6.out
end Go.Proofs.Ytacngbngljfedaa
/-
  CONTRACTS of the book's documents out of numbers: every item, to the depth asked.
-/
namespace Go.Proofs.Ytacngbngljfedaa
open Go.RowKit
open Go.Lib
theorem plain_ok {D n cp at_ m bl bd bo ba bn bi : Nat} (d : Nat) {A : Option Addr} {L : Nat → Int} {W w : World} {v : Value} {out : List Ev} (h : DS W A n cp L D bl bd bo ba bn bi w v m out at_) (h1 : at_ ≤ 900000000) (h2 : n ≤ 900000000) (h3 : m ≤ 900000000) (hx : nxD n L at_ % 8 ≤ 4) :
    Calls Try.prog 23 #[.int .i64 ((d : Nat) : Int), .pointer (some ⟨bn, 0, none⟩), .pointer (some ⟨bo, 0, none⟩), .pointer (some ⟨bd, 0, none⟩), .pointer (some ⟨bi, 0, none⟩)] w fun r w' => ∃ v', r = .returned (.tuple #[]) ∧ DS W A n cp L D bl bd bo ba bn bi w' v' (m + 1) (out ++ [plainD (nxD n L at_)]) (at_ + 1) := by
  by_cases k0 : nxD n L at_ % 8 = 0
  · exact plain0 d h h1 h2 h3 k0
  by_cases k1 : nxD n L at_ % 8 = 1
  · exact plain1 d h h1 h2 h3 k1
  by_cases k2 : nxD n L at_ % 8 = 2
  · exact plain2 d h h1 h2 h3 k2
  by_cases k3 : nxD n L at_ % 8 = 3
  · exact plain3 d h h1 h2 h3 k3
  exact plain4 d h h1 h2 h3 (by omega)
theorem cap_pos (f : Nat) : 1 ≤ capD f := by
  cases f
  · exact Nat.le_refl _
  · simp only [capD]; omega
/-- Every item tells its parts. -/
theorem item_any {D n cp bl bd bo ba bn bi : Nat} {A : Option Addr} {L : Nat → Int} {W : World} (h2 : n ≤ 900000000) (hD : D ≤ 1000) : ∀ f d, d + f = D → ItemOk W A n cp L D bl bd bo ba bn bi d f
  | 0, d, hd => by
    intro m a w v out h ha hm
    simp only [capD] at ha hm
    simp only [itemD]
    by_cases k : nxD n L a % 8 ≤ 4
    · rw [if_pos k]
      exact plain_ok d h (by omega) h2 (by omega) k
    · rw [if_neg k]
      by_cases k5 : nxD n L a % 8 = 5
      · exact low5 d h (by omega) h2 (by omega) k5 (by omega)
      by_cases k6 : nxD n L a % 8 = 6
      · exact low6 d h (by omega) h2 (by omega) k6 (by omega)
      exact low7 d h (by omega) h2 (by omega) (by omega) (by omega)
  | f + 1, d, hd => by
    intro m a w v out h ha hm
    have hp := cap_pos (f + 1)
    by_cases k : nxD n L a % 8 ≤ 4
    · simp only [itemD]
      rw [if_pos k]
      exact plain_ok d h (by omega) h2 (by omega) k
    · have ih := item_any (W := W) (A := A) (cp := cp) (L := L) (bl := bl) (bd := bd) (bo := bo) (ba := ba) (bn := bn) (bi := bi) h2 hD f (d + 1) (by omega)
      by_cases k5 : nxD n L a % 8 = 5
      · exact item_arr h ha h2 hm k5 hd hD ih
      · exact item_map h ha h2 hm (by omega) hd hD ih
end Go.Proofs.Ytacngbngljfedaa
/-
  CONTRACT of the book's documents out of numbers: truchmanbook.Doc.
-/
namespace Go.Proofs.Ytacngbngljfedaa
open Go.RowKit
open Go.Lib
theorem blk_new1 (w : World) (X : Obj) (cs : Array Value) (t : TypeId) : Blk ((w.alloc X).alloc (.cells cs t)) (w.heap.size + 1) cs t := by
  have := blk_new (w.alloc X) cs t
  rwa [World.size_alloc] at this
theorem blk_new2 (w : World) (X Y : Obj) (cs : Array Value) (t : TypeId) : Blk (((w.alloc X).alloc Y).alloc (.cells cs t)) (w.heap.size + 1 + 1) cs t := by
  have := blk_new1 (w.alloc X) Y cs t
  rwa [World.size_alloc] at this
theorem blk_new3 (w : World) (X Y Z : Obj) (cs : Array Value) (t : TypeId) : Blk ((((w.alloc X).alloc Y).alloc Z).alloc (.cells cs t)) (w.heap.size + 1 + 1 + 1) cs t := by
  have := blk_new2 (w.alloc X) Y Z cs t
  rwa [World.size_alloc] at this
theorem blk_new4 (w : World) (X Y Z U : Obj) (cs : Array Value) (t : TypeId) : Blk (((((w.alloc X).alloc Y).alloc Z).alloc U).alloc (.cells cs t)) (w.heap.size + 1 + 1 + 1 + 1) cs t := by
  have := blk_new3 (w.alloc X) Y Z U cs t
  rwa [World.size_alloc] at this
theorem blk_new5 (w : World) (X Y Z U V : Obj) (cs : Array Value) (t : TypeId) : Blk ((((((w.alloc X).alloc Y).alloc Z).alloc U).alloc V).alloc (.cells cs t)) (w.heap.size + 1 + 1 + 1 + 1 + 1) cs t := by
  have := blk_new4 (w.alloc X) Y Z U V cs t
  rwa [World.size_alloc] at this
/-- What Doc lays ahead of its one item. -/
theorem ds_new (A : Option Addr) (n cp : Nat) (L : Nat → Int) (D : Nat) (w : World) (hL : DLAt w w.heap.size A n L) :
    DS w A n cp L D w.heap.size (w.heap.size + 1) (w.heap.size + 1 + 1) (w.heap.size + 1 + 1 + 1) (w.heap.size + 1 + 1 + 1 + 1) (w.heap.size + 1 + 1 + 1 + 1 + 1)
      ((((((w.alloc (.cells #[.slice A n cp] 29)).alloc (.cells #[.int .i64 D] 3)).alloc (.cells #[.slice none 0 0] 23)).alloc (.cells #[.int .i64 0] 3)).alloc (.cells #[clNext (w.heap.size + 1 + 1 + 1) w.heap.size] 64)).alloc
        (.cells #[clItem (w.heap.size + 1 + 1 + 1 + 1) (w.heap.size + 1 + 1) (w.heap.size + 1) (w.heap.size + 1 + 1 + 1 + 1 + 1)] 65)) (.slice none 0 0) 0 [] 0 := by
  have hB : Below w.heap.size w ((((((w.alloc (.cells #[.slice A n cp] 29)).alloc (.cells #[.int .i64 D] 3)).alloc (.cells #[.slice none 0 0] 23)).alloc (.cells #[.int .i64 0] 3)).alloc (.cells #[clNext (w.heap.size + 1 + 1 + 1) w.heap.size] 64)).alloc
        (.cells #[clItem (w.heap.size + 1 + 1 + 1 + 1) (w.heap.size + 1 + 1) (w.heap.size + 1) (w.heap.size + 1 + 1 + 1 + 1 + 1)] 65)) := up_alloc (up_alloc (up_alloc (up_alloc (up_alloc (up_alloc (Below.refl _ _) _) _) _) _) _) _
  exact ⟨((((((blk_new _ _ _).alloc _).alloc _).alloc _).alloc _).alloc _), (((((blk_new1 _ _ _ _).alloc _).alloc _).alloc _).alloc _), (((blk_new2 _ _ _ _ _).alloc _).alloc _).alloc _, ((blk_new3 _ _ _ _ _ _).alloc _).alloc _, (blk_new4 _ _ _ _ _ _ _).alloc _, blk_new5 _ _ _ _ _ _ _ _,
    ⟨hB, Win.nil_ _ _ _, fun k hk => by simp [Value.owner] at hk⟩, rfl, hL.below hB, by omega, by omega, by omega⟩
set_option maxHeartbeats 2000000 in
/-- Doc tells the parts of one item. -/
theorem doc_any (A : Option Addr) (n cp : Nat) (L : Nat → Int) (D : Nat) (w : World) (hL : DLAt w w.heap.size A n L) (h2 : n ≤ 900000000) (hD : D ≤ 1000) (hC : capD D ≤ 900000000) :
    Calls Try.prog 13 #[.slice A n cp, .int .i64 ((D : Nat) : Int)] w fun r w' => ∃ v, r = .returned v ∧ Made w w' v (itemD n L D 0).1.length (itemD n L D 0).1 := by
  have hI := item_any (bl := w.heap.size) (bd := w.heap.size + 1) (bo := w.heap.size + 1 + 1) (ba := w.heap.size + 1 + 1 + 1) (bn := w.heap.size + 1 + 1 + 1 + 1) (bi := w.heap.size + 1 + 1 + 1 + 1 + 1) (cp := cp) (A := A) (L := L) (W := w) h2 hD D 0 (by omega) 0 0 _ _ _ (ds_new A n cp L D w hL) (by omega) (by omega)
  simp only [Nat.zero_add, List.nil_append] at hI
  have HI := Lib.hid hI
  clear hI hL hC
  go_enter Try.func13, Try.ntmps13
  go_wp2_with fail
  refine HI.out.mono ?_
  rintro r w1 ⟨v, rfl, hS⟩
  have o0 := hS.o.cell 0
  simp only [List.getElem?_toArray, List.getElem?_cons_zero] at o0
  have HM := Lib.hid hS.made
  clear hS
  go_wp2
  go_ret
  exact ⟨v, rfl, HM.out⟩
end Go.Proofs.Ytacngbngljfedaa
