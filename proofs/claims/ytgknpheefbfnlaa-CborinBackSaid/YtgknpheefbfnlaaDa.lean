/-
  The book's documents.
-/
import Derived.Test.YtgknpheefbfnlaaGd
/-
  CONTRACTS of the book's documents out of numbers (truchmanbook.Doc, text, Open).
-/
namespace Go.Proofs.Ytgknpheefbfnlaa
open Go.RowKit
open Go.Lib
def pieceL (i : Nat) : List UInt8 :=
  if i = 0 then [97] else if i = 1 then [34] else if i = 2 then [92] else if i = 3 then [10] else if i = 4 then [195, 169] else if i = 5 then [1] else if i = 6 then [240, 157, 132, 158] else [122]
/-- A text out of a number, as the loop makes it: k rounds are left. -/
def textGo (x : Nat) : Nat → List UInt8 → List UInt8
  | 0, acc => acc
  | k + 1, acc => textGo x k (acc ++ pieceL (x / 2 ^ ((k + 1) % 8) % 8))
def textL (x : Nat) : List UInt8 := textGo x (x % 8) []
theorem piece_len (i : Nat) : (pieceL i).length ≤ 4 := by
  unfold pieceL
  repeat' split
  all_goals simp
theorem and_nat (r m : Nat) (h : r < 9223372036854775808) (hm : m < 9223372036854775808) : bits .and .i64 (r : Int) (m : Int) = ((r &&& m : Nat) : Int) := by
  have h1 : (BitVec.ofInt 64 (r : Int)).toNat = r := by rw [BitVec.ofInt_natCast, BitVec.toNat_ofNat]; exact Nat.mod_eq_of_lt (by omega)
  have h2 : (BitVec.ofInt 64 (m : Int)).toNat = m := by rw [BitVec.ofInt_natCast, BitVec.toNat_ofNat]; exact Nat.mod_eq_of_lt (by omega)
  show IntKind.i64.wrap ((BitVec.ofInt 64 (r : Int) &&& BitVec.ofInt 64 (m : Int)).toNat : Int) = _
  have h3 : r &&& m ≤ m := Nat.and_le_right
  rw [BitVec.toNat_and, h1, h2, IntKind.wrap_i64]
  omega
theorem dand7 (r : Nat) (h : r < 65536) : bits .and .i64 (r : Int) 7 = ((r % 8 : Nat) : Int) := by
  have := and_nat r 7 (by omega) (by omega)
  rw [show r &&& 7 = r % 8 from Nat.and_two_pow_sub_one_eq_mod r 3] at this
  exact this
theorem catD (l k : List UInt8) : (⟨l.toArray⟩ : ByteArray) ++ ⟨k.toArray⟩ = ⟨(l ++ k).toArray⟩ := by
  apply ByteArray.ext
  simp
theorem piece_at (i : Nat) (hi : i < 8) (h : i < [Value.string ⟨#[97]⟩, .string ⟨#[34]⟩, .string ⟨#[92]⟩, .string ⟨#[10]⟩, .string ⟨#[195, 169]⟩, .string ⟨#[1]⟩, .string ⟨#[240, 157, 132, 158]⟩, .string ⟨#[122]⟩].length) :
    ([Value.string ⟨#[97]⟩, .string ⟨#[34]⟩, .string ⟨#[92]⟩, .string ⟨#[10]⟩, .string ⟨#[195, 169]⟩, .string ⟨#[1]⟩, .string ⟨#[240, 157, 132, 158]⟩, .string ⟨#[122]⟩])[i]'h = .string ⟨(pieceL i).toArray⟩ := by
  match i, hi with
  | 0, _ => rfl
  | 1, _ => rfl
  | 2, _ => rfl
  | 3, _ => rfl
  | 4, _ => rfl
  | 5, _ => rfl
  | 6, _ => rfl
  | 7, _ => rfl
set_option maxHeartbeats 1000000 in
theorem text_any (x : Nat) (hx : x < 65536) (w : World) : Calls Try.prog 32 #[.int .i64 x] w fun r w' => r = .returned (.string ⟨(textL x).toArray⟩) ∧ Below w.heap.size w w' := by
  obtain ⟨Z, hZ⟩ : ∃ Z, textL x = Z := ⟨_, rfl⟩
  rw [hZ]
  have HZ := Lib.hid hZ
  have ha := dand7 x hx
  have HX := Lib.hid hx
  clear hZ hx
  go_enter Try.func32, Try.ntmps32
  go_wp2
  go_loopw [3, 4] (fun s k wr => ∃ (j : Nat) (acc : List UInt8), s = .string ⟨acc.toArray⟩ ∧ k = .int .i64 j ∧ j ≤ 7 ∧ acc.length ≤ 4 * (7 - j) ∧ Hid (textGo x j acc = Z) ∧ Hid (Below w.heap.size w wr)) (fun _ k _ => (RowKit.intOf k).toNat)
  case atStart => exact ⟨x % 8, [], rfl, rfl, by omega, by simp, HZ, Lib.hid (Below.refl _ _)⟩
  case round =>
    obtain ⟨j, acc, rfl, rfl, hj, hl, HT, HB⟩ := hrel
    cases j with
    | zero =>
      go_wp2
      go_ret
      exact ⟨by rw [← HT.out]; rfl, HB.out⟩
    | succ j =>
      obtain ⟨i, hi⟩ : ∃ i, i = x / 2 ^ ((j + 1) % 8) % 8 := ⟨_, rfl⟩
      have hib : i < 8 := by omega
      have hd : x / 2 ^ ((j + 1) % 8) < 65536 := Nat.lt_of_le_of_lt (Nat.div_le_self _ _) HX.out
      have hb7 : bits .and .i64 ((x : Int) / 2 ^ ((j + 1) % 8)) 7 = (i : Int) := by
        have := dand7 (x / 2 ^ ((j + 1) % 8)) hd
        rw [hi, ← this]
        congr 1
      have hpc := piece_at i hib
      obtain ⟨P, hP⟩ : ∃ P : ByteArray, ⟨(pieceL i).toArray⟩ = P := ⟨_, rfl⟩
      obtain ⟨A, hA⟩ : ∃ A : ByteArray, ⟨acc.toArray⟩ = A := ⟨_, rfl⟩
      have hps : P.size ≤ 4 := by
        rw [← hP]
        have := piece_len i
        simpa [ByteArray.size] using this
      have has : A.size ≤ 28 := by
        rw [← hA]
        have : acc.length ≤ 28 := by omega
        simpa [ByteArray.size] using this
      have hcat : A ++ P = ⟨(acc ++ pieceL i).toArray⟩ := by rw [← hA, ← hP]; exact catD _ _
      have hlen : (acc ++ pieceL i).length ≤ 4 * (7 - j) := by
        have := piece_len i
        rw [List.length_append]
        omega
      have hgo : textGo x j (acc ++ pieceL i) = Z := by rw [← HT.out, hi]; rfl
      rw [hP] at hpc
      rw [hA]
      have HC := Lib.hid hcat
      have HL := Lib.hid hlen
      have HG := Lib.hid hgo
      have hov : ¬ 9223372036854775807 < A.size + P.size := by omega
      clear hi hd hP hA hcat hlen hgo hl
      go_wp2
      go_roundw
      case rel => exact ⟨j, acc ++ pieceL i, by rw [HC.out], rfl, by omega, HL.out, HG, Lib.hid (up_alloc HB.out _)⟩
      case measure => simp [RowKit.intOf]
theorem heap_new2 (w : World) (X Y : Obj) : ((w.alloc X).alloc Y).heap[w.heap.size + 1]? = some Y := by
  have := heap_alloc_new (w.alloc X) Y
  rwa [World.size_alloc] at this
def openE (e : Ev) : Ev := if e.k = 5 ∨ e.k = 6 then ⟨e.k, e.y, e.m, e.t, -1⟩ else e
theorem evs_cells (e : Ev) : evsC [e] = [.int .i64 e.k, .bool e.y, .int .u64 e.m, .string e.t, .int .i64 e.c] := by simp [evs_one, evCells]
set_option maxHeartbeats 2000000 in
/-- The same parts with counts that are not known. -/
theorem dopen_any (A : Option Addr) (n cp : Nat) (E : Nat → Ev) (w : World) (hn : n ≤ 1000000) (hE : EvsAt w w.heap.size A n E) :
    Calls Try.prog 17 #[.slice A n cp] w fun r w' => ∃ v, r = .returned v ∧ Made w w' v n ((pre E n).map openE) := by
  have HE := Lib.hid hE
  have HN := Lib.hid hn
  clear hE hn
  go_enter Try.func17, Try.ntmps17
  go_wp2
  go_loopw [3, 8] (fun o i wr => ∃ (j : Nat) (a : Option Addr) (c : Nat), o = .slice a j c ∧ i = .int .i64 j ∧ j ≤ n ∧ Hid (Made w wr (.slice a j c) j ((pre E j).map openE))) (fun _ i _ => n - (RowKit.intOf i).toNat)
  case atStart => exact ⟨0, none, 0, rfl, rfl, by omega, Lib.hid (made_nil w)⟩
  case round =>
    obtain ⟨j, a, c, rfl, rfl, hjn, HM⟩ := hrel
    by_cases hlt : j < n
    · obtain ⟨b, off, rfl, hb, x0, x1, x2, x3, x4⟩ := (HE.out.below HM.out.1).cells hlt
      have hps : (pre E (j + 1)).map openE = (pre E j).map openE ++ [openE (E j)] := by rw [pre_succ, List.map_append]; rfl
      have HPS := Lib.hid hps
      have hj6 : j ≤ 1000000 := by have := HN.out; omega
      generalize E j = e at x0 x1 x2 x3 x4 HPS
      clear hps
      obtain ⟨k, y, m, t, c0⟩ := e
      simp only at x0 x1 x2 x3 x4
      by_cases h5 : k = 5
      · subst h5
        have he : openE ⟨5, y, m, t, c0⟩ = ⟨5, y, m, t, -1⟩ := rfl
        rw [he] at HPS
        clear he
        go_wp2_with (at_builtin; refine wpList_append_win rfl _ _ _ rfl Try.underlying23 info_ev rfl rfl ((HM.out.2.1.alloc _).alloc _) _ rfl 1 _ (src_new _ Try.underlying23 5 1 (evsC [⟨5, y, m, t, -1⟩]) 40 _ rfl (evsC_one _) (heap_new2 _ _ _)) ?e1 ?e2 ?_)
        case e1 => unfold maxLen; omega
        case e2 => omega
        intro v3 w3 hW3 hG3 hO3
        have hM3 : Made w w3 v3 (j + 1) ((pre E j).map openE ++ [⟨5, y, m, t, -1⟩]) := made_more HM.out (up_alloc (up_alloc (Below.refl _ _) _) _) hW3.out hG3.out (by simpa using hO3.out)
        rw [← HPS.out] at hM3
        obtain ⟨a3, c3, rfl, _, _⟩ := hM3.2.1.slice_form
        have M3 := Lib.hid hM3
        clear hW3 hG3 hO3 hM3
        go_wp2
        go_roundw
        case rel => exact ⟨j + 1, a3, c3, rfl, rfl, hlt, M3⟩
        case measure => simp [RowKit.intOf]; omega
      · by_cases h6 : k = 6
        · subst h6
          have he : openE ⟨6, y, m, t, c0⟩ = ⟨6, y, m, t, -1⟩ := rfl
          rw [he] at HPS
          clear he h5
          go_wp2_with (at_builtin; refine wpList_append_win rfl _ _ _ rfl Try.underlying23 info_ev rfl rfl ((HM.out.2.1.alloc _).alloc _) _ rfl 1 _ (src_new _ Try.underlying23 5 1 (evsC [⟨6, y, m, t, -1⟩]) 40 _ rfl (evsC_one _) (heap_new2 _ _ _)) ?e1 ?e2 ?_)
          case e1 => unfold maxLen; omega
          case e2 => omega
          intro v3 w3 hW3 hG3 hO3
          have hM3 : Made w w3 v3 (j + 1) ((pre E j).map openE ++ [⟨6, y, m, t, -1⟩]) := made_more HM.out (up_alloc (up_alloc (Below.refl _ _) _) _) hW3.out hG3.out (by simpa using hO3.out)
          rw [← HPS.out] at hM3
          obtain ⟨a3, c3, rfl, _, _⟩ := hM3.2.1.slice_form
          have M3 := Lib.hid hM3
          clear hW3 hG3 hO3 hM3
          go_wp2
          go_roundw
          case rel => exact ⟨j + 1, a3, c3, rfl, rfl, hlt, M3⟩
          case measure => simp [RowKit.intOf]; omega
        · have q5 : (k == 5) = false := by simpa using h5
          have q6 : (k == 6) = false := by simpa using h6
          have he : openE ⟨k, y, m, t, c0⟩ = ⟨k, y, m, t, c0⟩ := by unfold openE; rw [if_neg (by simp only; omega)]
          rw [he] at HPS
          clear he h5 h6
          go_wp2_with (at_builtin; refine wpList_append_win rfl _ _ _ rfl Try.underlying23 info_ev rfl rfl ((HM.out.2.1.alloc _).alloc _) _ rfl 1 _ (src_new _ Try.underlying23 5 1 (evsC [⟨k, y, m, t, c0⟩]) 40 _ rfl (evsC_one _) (heap_new2 _ _ _)) ?e1 ?e2 ?_)
          case e1 => unfold maxLen; omega
          case e2 => omega
          intro v3 w3 hW3 hG3 hO3
          have hM3 : Made w w3 v3 (j + 1) ((pre E j).map openE ++ [⟨k, y, m, t, c0⟩]) := made_more HM.out (up_alloc (up_alloc (Below.refl _ _) _) _) hW3.out hG3.out (by simpa using hO3.out)
          rw [← HPS.out] at hM3
          obtain ⟨a3, c3, rfl, _, _⟩ := hM3.2.1.slice_form
          have M3 := Lib.hid hM3
          clear hW3 hG3 hO3 hM3
          go_wp2
          go_roundw
          case rel => exact ⟨j + 1, a3, c3, rfl, rfl, hlt, M3⟩
          case measure => simp [RowKit.intOf]; omega
    · obtain rfl : j = n := by omega
      go_wp2
      go_ret
      exact ⟨_, rfl, HM.out⟩
end Go.Proofs.Ytgknpheefbfnlaa
/-
  CONTRACTS of the book's documents out of numbers: what the closures of truchmanbook.Doc do, step by step.
-/
namespace Go.Proofs.Ytgknpheefbfnlaa
open Go.RowKit
open Go.Lib
/-- A number of the list, as 'next' tells it. -/
def wordD (z : Int) : Nat := (bits .and .i64 z 65535).toNat
theorem wordD_is (z : Int) : bits .and .i64 z 65535 = ((wordD z : Nat) : Int) ∧ wordD z < 65536 := by
  have e1 : (BitVec.ofInt 64 (65535 : Int)).toNat = 65535 := by rw [BitVec.toNat_ofInt]; omega
  have h1 : bits .and .i64 z 65535 = ((BitVec.ofInt 64 z &&& BitVec.ofInt 64 65535).toNat : Int) ∧ (BitVec.ofInt 64 z &&& BitVec.ofInt 64 65535).toNat ≤ 65535 := by
    have hle : (BitVec.ofInt 64 z &&& BitVec.ofInt 64 65535).toNat ≤ 65535 := by
      rw [BitVec.toNat_and, e1]
      exact Nat.and_le_right
    refine ⟨?_, hle⟩
    show IntKind.i64.wrap ((BitVec.ofInt 64 z &&& BitVec.ofInt 64 65535).toNat : Nat) = _
    rw [IntKind.wrap_i64]
    omega
  unfold wordD
  rw [h1.1]
  generalize (BitVec.ofInt 64 z &&& BitVec.ofInt 64 65535).toNat = a at h1
  exact ⟨rfl, by rw [Int.toNat_natCast]; omega⟩
def nxD (n : Nat) (L : Nat → Int) (at_ : Nat) : Nat := if at_ < n then wordD (L at_) else 0
theorem nxD_lt (n : Nat) (L : Nat → Int) (at_ : Nat) : nxD n L at_ < 65536 := by
  unfold nxD
  split
  · exact (wordD_is _).2
  · omega
/-- The closures. -/
def clNext (ba bl : Nat) : Value := .func (.func 30) #[] #[.pointer (some ⟨ba, 0, none⟩), .pointer (some ⟨bl, 0, none⟩)]
def clItem (bn bo bd bi : Nat) : Value := .func (.func 31) #[] #[.pointer (some ⟨bn, 0, none⟩), .pointer (some ⟨bo, 0, none⟩), .pointer (some ⟨bd, 0, none⟩), .pointer (some ⟨bi, 0, none⟩)]
/-- The numbers, as they came in. -/
def DLAt (w : World) (B : Nat) (A : Option Addr) (n : Nat) (L : Nat → Int) : Prop := 0 < n → ∃ b off, A = some ⟨b, off, none⟩ ∧ b < B ∧ ∀ i, i < n → w.cell? ⟨b, off + i, none⟩ = some (.int .i64 (L i))
theorem DLAt.below {w w' : World} {B n : Nat} {A : Option Addr} {L : Nat → Int} (h : DLAt w B A n L) (k : Below B w w') : DLAt w' B A n L := fun hn => by
  obtain ⟨b, off, hA, hb, hc⟩ := h hn
  exact ⟨b, off, hA, hb, fun i hi => (k.cell hb).trans (hc i hi)⟩
/-- What the closures of a document hold on to. -/
structure DS (W : World) (A : Option Addr) (n cp : Nat) (L : Nat → Int) (D bl bd bo ba bn bi : Nat) (w : World) (v : Value) (m : Nat) (out : List Ev) (at_ : Nat) : Prop where
  l : Blk w bl #[.slice A n cp] 29
  d : Blk w bd #[.int .i64 D] 3
  o : Blk w bo #[v] 23
  a : Blk w ba #[.int .i64 at_] 3
  x : Blk w bn #[clNext ba bl] 51
  i : Blk w bi #[clItem bn bo bd bi] 70
  made : Made W w v m out
  len : out.length = m
  ls : DLAt w W.heap.size A n L
  da : bd ≠ ba
  low : W.heap.size ≤ bo ∧ W.heap.size ≤ ba
theorem next_any (bl ba n cp at_ : Nat) (A : Option Addr) (L : Nat → Int) (B : Nat) (w : World) (hl : Blk w bl #[.slice A n cp] 29) (ha : Blk w ba #[.int .i64 at_] 3) (hL : DLAt w B A n L) (hB : B ≤ ba) (h1 : at_ ≤ 1000000000) (h2 : n ≤ 1000000000) :
    Calls Try.prog 30 #[.pointer (some ⟨ba, 0, none⟩), .pointer (some ⟨bl, 0, none⟩)] w fun r w' => r = .returned (.int .i64 (nxD n L at_ : Nat)) ∧ w' = w.setCell ⟨ba, 0, none⟩ (.int .i64 ((at_ : Int) + 1)) := by
  have a0 := ha.cell 0
  have f0 := ha.froz 0
  have hne : bl ≠ ba := fun e => by
    subst e
    have := hl.symm.trans ha
    simp at this
  have l0 : (w.setCell ⟨ba, 0, none⟩ (.int .i64 ((at_ : Int) + 1))).cell? ⟨bl, 0, none⟩ = some (.slice A n cp) := (hl.far hne _).cell 0
  have l1 := hl.cell 0
  by_cases hlt : at_ < n
  · obtain ⟨b, off, rfl, hb, hc⟩ := hL (by omega)
    have hc := hc at_ hlt
    have hcell : (w.setCell ⟨ba, 0, none⟩ (.int .i64 ((at_ : Int) + 1))).cell? ⟨b, off + at_, none⟩ = some (.int .i64 (L at_)) := by
      rw [World.cell?_setCell_other _ _ _ _ (fun e => by have := congrArg Addr.block e; simp at this; omega)]
      exact hc
    have hnx : nxD n L at_ = wordD (L at_) := by unfold nxD; rw [if_pos hlt]
    have hw := (wordD_is (L at_)).1
    rw [hnx]
    generalize wordD (L at_) = z at hw
    clear hL hl ha hb hnx
    go_enter Try.func30, Try.ntmps30
    go_wp2
    go_ret
    exact ⟨rfl, rfl⟩
  · have hnx : nxD n L at_ = 0 := by unfold nxD; rw [if_neg hlt]
    rw [hnx]
    clear hL hl ha hnx
    go_enter Try.func30, Try.ntmps30
    go_wp2
    go_ret
    exact ⟨rfl, rfl⟩
theorem DS.go {W : World} {A : Option Addr} {n cp : Nat} {L : Nat → Int} {D bl bd bo ba bn bi : Nat} {w w' : World} {v : Value} {m : Nat} {out : List Ev} {at_ : Nat} (h : DS W A n cp L D bl bd bo ba bn bi w v m out at_) (k : Below w.heap.size w w') :
    DS W A n cp L D bl bd bo ba bn bi w' v m out at_ :=
  ⟨h.l.go k, h.d.go k, h.o.go k, h.a.go k, h.x.go k, h.i.go k, h.made.go k, h.len, h.ls.below (k.mono h.made.1.size), h.da, h.low⟩
/-- One number more is told. -/
theorem DS.next {W : World} {A : Option Addr} {n cp : Nat} {L : Nat → Int} {D bl bd bo ba bn bi : Nat} {w : World} {v : Value} {m : Nat} {out : List Ev} {at_ : Nat} (h : DS W A n cp L D bl bd bo ba bn bi w v m out at_) :
    DS W A n cp L D bl bd bo ba bn bi (w.setCell ⟨ba, 0, none⟩ (.int .i64 ((at_ : Int) + 1))) v m out (at_ + 1) := by
  have ne : ∀ {b : Nat} {cs : Array Value} {t : TypeId}, Blk w b cs t → t ≠ 3 → b ≠ ba := fun {b cs t} hb ht e => by
    subst e
    have := hb.symm.trans h.a
    simp at this
    exact ht this.2
  have hb : Below W.heap.size w (w.setCell ⟨ba, 0, none⟩ (.int .i64 ((at_ : Int) + 1))) := (Below.refl _ _).setCell h.low.2 _
  have hap : ba ∉ Value.owner v := h.made.2.1.apart (t := 3) h.a (by decide)
  exact ⟨h.l.far (ne h.l (by decide)) _, h.d.far h.da _, h.o.far (ne h.o (by decide)) _, h.a.set 0 _, h.x.far (ne h.x (by decide)) _, h.i.far (ne h.i (by decide)) _,
    ⟨h.made.1.trans hb, h.made.2.1.setCell_far hap _, h.made.2.2⟩, h.len, h.ls.below hb, h.da, h.low⟩
/-- One part more is told. -/
theorem DS.put {W : World} {A : Option Addr} {n cp : Nat} {L : Nat → Int} {D bl bd bo ba bn bi : Nat} {w wA w2 : World} {v v' : Value} {m : Nat} {out : List Ev} {at_ : Nat} (h : DS W A n cp L D bl bd bo ba bn bi w v m out at_) (e : Ev)
    (hA : Below w.heap.size w wA) (hW : Win w2 40 5 v' (m + 1) (evsC out ++ evsC [e])) (hG : wA.grownBy w2 v.ownBlock) (hO : v'.ownBlock = v.ownBlock ∨ v'.ownBlock = some wA.heap.size ∧ wA.heap.size < w2.heap.size) :
    DS W A n cp L D bl bd bo ba bn bi (w2.setCell ⟨bo, 0, none⟩ v') v' (m + 1) (out ++ [e]) at_ := by
  have hM : Made W w2 v' (m + 1) (out ++ [e]) := made_more h.made hA hW hG hO
  have lift : ∀ {b : Nat} {cs : Array Value} {t : TypeId}, Blk w b cs t → 40 ≠ t → Blk w2 b cs t := fun {b cs t} hb ht => (hb.go hA).lift hG (fun e => h.made.2.1.apart hb ht ((ob_iff _ _).1 e))
  have ho := lift h.o (by decide)
  have ne : ∀ {b : Nat} {cs : Array Value} {t : TypeId}, Blk w2 b cs t → t ≠ 23 → b ≠ bo := fun {b cs t} hb ht e => by
    subst e
    have := hb.symm.trans ho
    simp at this
    exact ht this.2
  have hl := lift h.l (by decide)
  have hd := lift h.d (by decide)
  have ha := lift h.a (by decide)
  have hx := lift h.x (by decide)
  have hi := lift h.i (by decide)
  have hb : Below W.heap.size w2 (w2.setCell ⟨bo, 0, none⟩ v') := (Below.refl _ _).setCell h.low.1 _
  have hw2 : Below W.heap.size w w2 := ((Below.refl W.heap.size w).trans (hA.mono h.made.1.size)).grown hG (Nat.le_trans h.made.1.size hA.size) (fun k hk => h.made.2.2 k ((ob_iff _ _).1 hk))
  have hap : bo ∉ Value.owner v' := hM.2.1.apart (t := 23) ho (by decide)
  exact ⟨hl.far (ne hl (by decide)) _, hd.far (ne hd (by decide)) _, ho.set 0 _, ha.far (ne ha (by decide)) _, hx.far (ne hx (by decide)) _, hi.far (ne hi (by decide)) _,
    ⟨hM.1.trans hb, hM.2.1.setCell_far hap _, hM.2.2⟩, by rw [List.length_append, h.len]; rfl, (h.ls.below hw2).below hb, h.da, h.low⟩
end Go.Proofs.Ytgknpheefbfnlaa
/-
  CONTRACTS of the book's documents out of numbers: one item after another, to the depth asked.
-/
namespace Go.Proofs.Ytgknpheefbfnlaa
open Go.RowKit
open Go.Lib
/-- A part that holds no other. -/
def plainD (x : Nat) : Ev :=
  if x % 8 = 0 then ⟨0, false, 0, ⟨#[]⟩, 0⟩
  else if x % 8 = 1 then ⟨1, decide (x / 8 % 2 = 1), 0, ⟨#[]⟩, 0⟩
  else if x % 8 ≤ 3 then ⟨2, decide (x / 8 % 2 = 1), (x * x / 2 ^ (x % 8) : Nat), ⟨#[]⟩, 0⟩
  else ⟨3, false, 0, ⟨(textL x).toArray⟩, 0⟩
/-- A part that would hold others, below the depth asked. -/
def lowD (x : Nat) : Ev := if x % 8 = 5 then ⟨3, false, 0, ⟨#[]⟩, 0⟩ else ⟨2, false, (x : Nat), ⟨#[]⟩, 0⟩
def listD (it : Nat → List Ev × Nat) : Nat → Nat → List Ev × Nat
  | 0, a => ([], a)
  | k + 1, a => ((it a).1 ++ (listD it k (it a).2).1, (listD it k (it a).2).2)
def mapD (n : Nat) (L : Nat → Int) (it : Nat → List Ev × Nat) : Nat → Nat → List Ev × Nat
  | 0, a => ([], a)
  | k + 1, a => (⟨3, false, 0, ⟨(textL (nxD n L a)).toArray⟩, 0⟩ :: ((it (a + 1)).1 ++ (mapD n L it k (it (a + 1)).2).1), (mapD n L it k (it (a + 1)).2).2)
/-- One item: its parts, and where the next is read. -/
def itemD (n : Nat) (L : Nat → Int) : Nat → Nat → List Ev × Nat
  | 0, a => (if nxD n L a % 8 ≤ 4 then [plainD (nxD n L a)] else [lowD (nxD n L a)], a + 1)
  | f + 1, a =>
    if nxD n L a % 8 ≤ 4 then ([plainD (nxD n L a)], a + 1)
    else if nxD n L a % 8 = 5 then
      (⟨5, false, 0, ⟨#[]⟩, (nxD n L a / 8 % 4 : Nat)⟩ :: (listD (itemD n L f) (nxD n L a / 8 % 4) (a + 1)).1 ++ [⟨7, false, 0, ⟨#[]⟩, 0⟩], (listD (itemD n L f) (nxD n L a / 8 % 4) (a + 1)).2)
    else
      (⟨6, false, 0, ⟨#[]⟩, (nxD n L a / 8 % 3 : Nat)⟩ :: (mapD n L (itemD n L f) (nxD n L a / 8 % 3) (a + 1)).1 ++ [⟨7, false, 0, ⟨#[]⟩, 0⟩], (mapD n L (itemD n L f) (nxD n L a / 8 % 3) (a + 1)).2)
/-- No item has more parts than this, nor reads more numbers. -/
def capD : Nat → Nat
  | 0 => 1
  | f + 1 => 3 * capD f + 5
theorem DS.held {W : World} {A : Option Addr} {n cp : Nat} {L : Nat → Int} {D bl bd bo ba bn bi : Nat} {w wA w2 : World} {v : Value} {m : Nat} {out : List Ev} {at_ : Nat} (h : DS W A n cp L D bl bd bo ba bn bi w v m out at_)
    (hA : Below w.heap.size w wA) (hG : wA.grownBy w2 v.ownBlock) : Blk w2 bo #[v] 23 := (h.o.go hA).lift hG (fun e => h.made.2.1.apart (t := 23) h.o (by decide) ((ob_iff _ _).1 e))
theorem next_ds {D n cp at_ m bl bd bo ba bn bi : Nat} {A : Option Addr} {L : Nat → Int} {W w : World} {v : Value} {out : List Ev} (h : DS W A n cp L D bl bd bo ba bn bi w v m out at_) (h1 : at_ ≤ 900000000) (h2 : n ≤ 900000000) :
    Calls Try.prog 30 #[.pointer (some ⟨ba, 0, none⟩), .pointer (some ⟨bl, 0, none⟩)] w fun r w' => r = .returned (.int .i64 (nxD n L at_ : Nat)) ∧ DS W A n cp L D bl bd bo ba bn bi w' v m out (at_ + 1) :=
  (next_any bl ba n cp at_ A L W.heap.size w h.l h.a h.ls h.low.2 (by omega) (by omega)).mono (by
    rintro e w' ⟨rfl, rfl⟩
    exact ⟨rfl, h.next⟩)
theorem and8 (x : Nat) (h : x < 65536) : bits .and .i64 (x : Int) 8 = if x / 8 % 2 = 1 then 8 else 0 := by
  have := and_nat x 8 (by omega) (by omega)
  rw [show x &&& 8 = if x / 8 % 2 = 1 then 8 else 0 from by
    apply Nat.eq_of_testBit_eq
    intro i
    rw [Nat.testBit_and, show (8 : Nat) = 2 ^ 3 from rfl, Nat.testBit_two_pow]
    by_cases hi : 3 = i
    · subst hi
      rw [Nat.testBit_eq_decide_div_mod_eq]
      by_cases hb : x / 2 ^ 3 % 2 = 1
      · rw [if_pos hb, decide_eq_true hb]
        rfl
      · simp [hb]
    · by_cases hb : x / 2 ^ 3 % 2 = 1
      · rw [if_pos hb, Nat.testBit_two_pow]
        simp [hi]
      · rw [if_neg hb]
        simp [hi]] at this
  rw [show ((8 : Nat) : Int) = 8 from rfl] at this
  rw [this]
  split <;> rfl
set_option maxHeartbeats 2000000 in
theorem plain0 {D n cp at_ m bl bd bo ba bn bi : Nat} (d : Nat) {A : Option Addr} {L : Nat → Int} {W w : World} {v : Value} {out : List Ev} (h : DS W A n cp L D bl bd bo ba bn bi w v m out at_) (h1 : at_ ≤ 900000000) (h2 : n ≤ 900000000) (h3 : m ≤ 900000000) (hx : nxD n L at_ % 8 = 0) :
    Calls Try.prog 31 #[.int .i64 d, .pointer (some ⟨bn, 0, none⟩), .pointer (some ⟨bo, 0, none⟩), .pointer (some ⟨bd, 0, none⟩), .pointer (some ⟨bi, 0, none⟩)] w fun r w' => ∃ v', r = .returned (.tuple #[]) ∧ DS W A n cp L D bl bd bo ba bn bi w' v' (m + 1) (out ++ [plainD (nxD n L at_)]) (at_ + 1) := by
  have hX := nxD_lt n L at_
  have x0 : w.cell? ⟨bn, 0, none⟩ = some (.func (.func 30) #[] #[.pointer (some ⟨ba, 0, none⟩), .pointer (some ⟨bl, 0, none⟩)]) := h.x.cell 0
  have HC := Lib.hid (next_ds h h1 h2)
  clear h
  generalize nxD n L at_ = x at hx hX HC
  have hpd : plainD x = ⟨0, false, 0, ⟨#[]⟩, 0⟩ := by unfold plainD; rw [if_pos hx]
  rw [hpd]
  clear hpd
  go_enter Try.func31, Try.ntmps31
  go_wp2_with (first
    | (go_at_call 30; refine HC.out.mono ?_; rintro e w1 ⟨rfl, HN⟩; have x1 := HN.o.cell 0; have x2 := HN.o.froz 0; have HN := Lib.hid HN)
    | (at_builtin; go_loud (refine wpList_append_win rfl _ _ _ rfl Try.underlying23 info_ev rfl rfl (HN.out.made.2.1.alloc _) _ rfl 1 _ (src_new _ Try.underlying23 5 1 (evsC [⟨0, false, 0, ⟨#[]⟩, 0⟩]) 40 _ rfl (evsC_one _) (heap_alloc_new _ _)) ?e1 ?e2 ?_)))
  case e1 => unfold maxLen; omega
  case e2 => omega
  intro v3 w3 hW3 hG3 hO3
  have hD := HN.out.put ⟨0, false, 0, ⟨#[]⟩, 0⟩ (up_alloc (Below.refl _ _) _) hW3.out hG3.out (by simpa using hO3.out)
  have hH := HN.out.held (up_alloc (Below.refl _ _) _) hG3.out
  have y1 := hH.cell 0
  have y2 := hH.froz 0
  obtain ⟨a3, c3, rfl, _, _⟩ := hD.made.2.1.slice_form
  have hD := Lib.hid hD
  clear hW3 hG3 hO3 hH x1 x2 x0
  go_wp2
  refine bodyPost_end (results_none rfl _ _ _) rfl ?_
  exact ⟨_, rfl, hD.out⟩
set_option maxHeartbeats 2000000 in
theorem plain1 {D n cp at_ m bl bd bo ba bn bi : Nat} (d : Nat) {A : Option Addr} {L : Nat → Int} {W w : World} {v : Value} {out : List Ev} (h : DS W A n cp L D bl bd bo ba bn bi w v m out at_) (h1 : at_ ≤ 900000000) (h2 : n ≤ 900000000) (h3 : m ≤ 900000000) (hx : nxD n L at_ % 8 = 1) :
    Calls Try.prog 31 #[.int .i64 d, .pointer (some ⟨bn, 0, none⟩), .pointer (some ⟨bo, 0, none⟩), .pointer (some ⟨bd, 0, none⟩), .pointer (some ⟨bi, 0, none⟩)] w fun r w' => ∃ v', r = .returned (.tuple #[]) ∧ DS W A n cp L D bl bd bo ba bn bi w' v' (m + 1) (out ++ [plainD (nxD n L at_)]) (at_ + 1) := by
  have hX := nxD_lt n L at_
  have x0 : w.cell? ⟨bn, 0, none⟩ = some (.func (.func 30) #[] #[.pointer (some ⟨ba, 0, none⟩), .pointer (some ⟨bl, 0, none⟩)]) := h.x.cell 0
  have HC := Lib.hid (next_ds h h1 h2)
  clear h
  generalize nxD n L at_ = x at hx hX HC
  have h8 := and8 x hX
  by_cases hb : x / 8 % 2 = 1
  · have hpd : plainD x = ⟨1, true, 0, ⟨#[]⟩, 0⟩ := by unfold plainD; rw [if_neg (by omega), if_pos hx, decide_eq_true hb]
    rw [if_pos hb] at h8
    rw [hpd]
    clear hpd hb
    go_enter Try.func31, Try.ntmps31
    go_wp2_with (first
      | (go_at_call 30; refine HC.out.mono ?_; rintro e w1 ⟨rfl, HN⟩; have x1 := HN.o.cell 0; have x2 := HN.o.froz 0; have HN := Lib.hid HN)
      | (at_builtin; go_loud (refine wpList_append_win rfl _ _ _ rfl Try.underlying23 info_ev rfl rfl (HN.out.made.2.1.alloc _) _ rfl 1 _ (src_new _ Try.underlying23 5 1 (evsC [⟨1, true, 0, ⟨#[]⟩, 0⟩]) 40 _ rfl (evsC_one _) (heap_alloc_new _ _)) ?e1 ?e2 ?_)))
    case e1 => unfold maxLen; omega
    case e2 => omega
    intro v3 w3 hW3 hG3 hO3
    have hD := HN.out.put ⟨1, true, 0, ⟨#[]⟩, 0⟩ (up_alloc (Below.refl _ _) _) hW3.out hG3.out (by simpa using hO3.out)
    have hH := HN.out.held (up_alloc (Below.refl _ _) _) hG3.out
    have y1 := hH.cell 0
    have y2 := hH.froz 0
    obtain ⟨a3, c3, rfl, _, _⟩ := hD.made.2.1.slice_form
    have hD := Lib.hid hD
    clear hW3 hG3 hO3 hH x1 x2 x0
    go_wp2
    refine bodyPost_end (results_none rfl _ _ _) rfl ?_
    exact ⟨_, rfl, hD.out⟩
  · have hpd : plainD x = ⟨1, false, 0, ⟨#[]⟩, 0⟩ := by unfold plainD; rw [if_neg (by omega), if_pos hx, decide_eq_false hb]
    rw [if_neg hb] at h8
    rw [hpd]
    clear hpd hb
    go_enter Try.func31, Try.ntmps31
    go_wp2_with (first
      | (go_at_call 30; refine HC.out.mono ?_; rintro e w1 ⟨rfl, HN⟩; have x1 := HN.o.cell 0; have x2 := HN.o.froz 0; have HN := Lib.hid HN)
      | (at_builtin; go_loud (refine wpList_append_win rfl _ _ _ rfl Try.underlying23 info_ev rfl rfl (HN.out.made.2.1.alloc _) _ rfl 1 _ (src_new _ Try.underlying23 5 1 (evsC [⟨1, false, 0, ⟨#[]⟩, 0⟩]) 40 _ rfl (evsC_one _) (heap_alloc_new _ _)) ?e1 ?e2 ?_)))
    case e1 => unfold maxLen; omega
    case e2 => omega
    intro v3 w3 hW3 hG3 hO3
    have hD := HN.out.put ⟨1, false, 0, ⟨#[]⟩, 0⟩ (up_alloc (Below.refl _ _) _) hW3.out hG3.out (by simpa using hO3.out)
    have hH := HN.out.held (up_alloc (Below.refl _ _) _) hG3.out
    have y1 := hH.cell 0
    have y2 := hH.froz 0
    obtain ⟨a3, c3, rfl, _, _⟩ := hD.made.2.1.slice_form
    have hD := Lib.hid hD
    clear hW3 hG3 hO3 hH x1 x2 x0
    go_wp2
    refine bodyPost_end (results_none rfl _ _ _) rfl ?_
    exact ⟨_, rfl, hD.out⟩
end Go.Proofs.Ytgknpheefbfnlaa
