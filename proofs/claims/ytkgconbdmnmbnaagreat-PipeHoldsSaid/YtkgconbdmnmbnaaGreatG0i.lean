/-
  Parts: PinNestC, HeadNum, HeadSt, PinPa, PinPd.
-/
import Derived.Test.YtkgconbdmnmbnaaGreatG0h
import Derived.Deep.RegionWith
import Derived.Test.YtkgconbdmnmbnaaGreatG0b
set_option maxRecDepth 100000
set_option maxHeartbeats 16000000
open Go.Lib (hid)
namespace Go.Proofs.YtkgconbdmnmbnaaGreat
section
open Go.RowKit
open Go.Lib
theorem pkey_any {w : World} {v : Value} {s : List Bx} (h : Win w 255 2 v s.length (inP s)) (hk : OkP s) :
    Calls Tryz.prog 200 #[v] w fun r w' => r = .returned (.bool (keyB s)) ∧ w = w' := by
  cases s with
  | nil =>
    obtain ⟨a, cp, rfl, _, _⟩ := h.slice_form; clear h; go_enter Tryz.func200, Tryz.ntmps200; go_wp2; go_ret; exact ⟨rfl, rfl⟩
  | cons x r =>
    have hx := hk.all x (by simp); have hle := hx.le; obtain ⟨l, hl⟩ : ∃ l : Nat, cntB x - (x.have_ : Int) = l := ⟨(cntB x - (x.have_ : Int)).toNat, by have := hx.2.2; omega⟩
    have hkey : keyB (x :: r) = (x.map && decide (l % 2 = 0)) := by
      rw [key_eq]; cases hm : x.map with
      | false => rfl
      | true =>
        have hc : cntB x = 2 * x.c := by unfold cntB; rw [hm, if_neg (by have := hx.1; omega), if_pos rfl]
        rw [Bool.true_and, Bool.true_and, Bool.eq_iff_iff, Bool.not_eq_true', decide_eq_false_iff_not, decide_eq_true_eq]; omega
    rw [hkey]; simp only [inP, ccP, hl, List.length_cons] at h; obtain ⟨g, off, cap, rfl, ⟨c0, c1⟩, ⟨f0, f1⟩⟩ := nsp_last (outP_length r) h; have hd := hk.deep; simp only [List.length_cons] at hd; have hz2 : ((l : Int) % 2 == 0) = decide (l % 2 = 0) := by
      rw [Bool.eq_iff_iff, beq_iff_eq, decide_eq_true_eq]; omega
    clear hk hx hle hl hkey h; generalize r.length = n at *
    have hwn : wrap64 (n : Int) = (n : Int) := by unfold wrap64; omega
    have hwn2 : IntKind.i64.wrap (n : Int) = (n : Int) := by simp only [IntKind.wrap_i64]; omega
    have hz : ((n : Int) ≥ 0) = True := by simp
    generalize x.map = m at *
    generalize decide (l % 2 = 0) = K at *
    cases m with
    | false =>
      go_enter Tryz.func200, Tryz.ntmps200; go_wp2; go_ret; exact ⟨rfl, rfl⟩
    | true =>
      go_enter Tryz.func200, Tryz.ntmps200; go_wp2; go_ret; exact ⟨by simp, rfl⟩
theorem penter_end {w W w3 : World} {b o n : Nat} {v v3 : Value} {xs ys : List Value} {ob : Obj} (h : NsP W b o v n xs) (hS : Subg (Value.owner v) b o 1 w W) (hb : b < w.heap.size)
    (hW : Win w3 255 2 v3 (n + 1) (xs ++ ys)) (hG : (W.alloc ob).drew.grownBy w3 v.ownBlock) (hO : v3.ownBlock = v.ownBlock ∨ v3.ownBlock = some (W.alloc ob).drew.heap.size ∧ (W.alloc ob).drew.heap.size < w3.heap.size) :
    (w3.cell? ⟨b, o, none⟩ = some v ∧ w3.frozen? ⟨b, o, none⟩ = false) ∧ NsP (w3.setCell ⟨b, o, none⟩ v3) b o v3 (n + 1) (xs ++ ys) ∧ (∀ k ∈ Value.owner v3, k ∈ Value.owner v ∨ w.heap.size ≤ k) ∧ Subg (Value.owner v) b o 1 w (w3.setCell ⟨b, o, none⟩ v3) := by
  have hbW : b < W.heap.size := Nat.lt_of_lt_of_le hb hS.size; have hnb : v.ownBlock ≠ some b := fun e => h.far ((ob_iff _ _).1 e)
  have hblk : w3.heap[b]? = W.heap[b]? := (hG.block b (by show b < (W.alloc ob).heap.size; simp; omega) (fun e => hnb e.symm)).trans (Below.heap_alloc W ob b hbW); have hA := h.ptr.keep hblk; have hown : ∀ k ∈ Value.owner v3, k ∈ Value.owner v ∨ W.heap.size ≤ k := by
    intro k hk; rcases hO with e | ⟨e, _⟩
    · exact .inl ((ob_iff _ _).1 (e ▸ (ob_iff _ _).2 hk))
    · have h2 := (ob_iff _ _).2 hk
      rw [e] at h2; cases h2; exact .inr (by show W.heap.size ≤ (W.alloc ob).heap.size; simp)
  have hfar : b ∉ Value.owner v3 := fun hk => (hown b hk).elim h.far (fun h => by omega)
  refine ⟨hA 0 _ rfl, ⟨hA.set 0 (by simp) v3, hW.setCell_far hfar _, hfar⟩, fun k hk => (hown k hk).imp id (fun h => Nat.le_trans hS.size h), ?_⟩; have h1 : Subg (Value.owner v) b o 1 W w3 := by
    have h2 : Subg (Value.owner v) b o 1 W (W.alloc ob).drew := (subg_below (below_drw ((Below.refl _ W).alloc (Nat.le_refl _) ob)) hbW _ _ _)
    exact h2.tr (subg_grown hG (fun k hk => (ob_iff _ _).1 hk) hnb (by show b < (W.alloc ob).heap.size; simp; omega))
  exact (hS.tr h1).tr ((sub_setCell w3 o v3 (by omega)).subg _)
theorem penter_f {w : World} {b o : Nat} {v : Value} {n : Nat} {xs : List Value} (h : NsP w b o v n xs) (hd : n < 16) (c : Int) :
    Calls Tryz.prog 201 #[.pointer (some ⟨b, o, none⟩), .agg #[.bool false, .int .i64 c]] w fun e w' => e = .returned (.tuple #[]) ∧ ∃ v', NsP w' b o v' (n + 1) (xs ++ [.bool false, .int .i64 (c)]) ∧ (∀ k ∈ Value.owner v', k ∈ Value.owner v ∨ w.heap.size ≤ k) ∧ Subg (Value.owner v) b o 1 w w' := by
  have hb := h.ptr.lt (by simp); have hbel : Below w.heap.size w ((w.alloc (.cells #[.bool false, .int .i64 c] 163)).alloc (.cells #[.bool false, .int .i64 c] 255)) := up_alloc (up_alloc (Below.refl _ _) _) _; have E2 : Hid (Blk ((w.alloc (.cells #[.bool false, .int .i64 c] 163)).alloc (.cells #[.bool false, .int .i64 c] 255)) (w.heap.size + 1) #[.bool false, .int .i64 (c)] 255) := hid (by
    have h0 := blk_new (w.alloc (.cells #[.bool false, .int .i64 c] 163)) #[.bool false, .int .i64 c] 255
    rwa [show ∀ x, (w.alloc x).heap.size = w.heap.size + 1 from fun x => by simp] at h0)
  have hN := h.keep hbel; have HN := hid hN; have hS := subg_below hbel hb (Value.owner v) o 1; obtain ⟨a, cp, rfl, _, _⟩ := h.win.slice_form; have WD : ∀ x, Hid (Win ((((w.alloc (.cells #[.bool false, .int .i64 c] 163)).alloc (.cells #[.bool false, .int .i64 c] 255))).alloc x).drew 255 2 (.slice a n cp) n xs) := fun x => hid (hN.win.alloc x)
  have h5 : (((w.alloc (.cells #[.bool false, .int .i64 c] 163)).alloc (.cells #[.bool false, .int .i64 c] 255))).cell? ⟨b, o, none⟩ = some (.slice a n cp) := (hN.ptr 0 _ rfl).1; have f5 : ∀ x, ((((w.alloc (.cells #[.bool false, .int .i64 c] 163)).alloc (.cells #[.bool false, .int .i64 c] 255))).alloc x).cell? ⟨b, o, none⟩ = some (.slice a n cp) := fun x => ((hN.ptr.alloc (by simp) x) 0 _ rfl).1
  have h0 : (((w.alloc (.cells #[.bool false, .int .i64 c] 163)).alloc (.cells #[.bool false, .int .i64 c] 255))).cell? ⟨w.heap.size + 1, 0, none⟩ = some (.bool false) := E2.out.cell 0; have h1 : (((w.alloc (.cells #[.bool false, .int .i64 c] 163)).alloc (.cells #[.bool false, .int .i64 c] 255))).cell? ⟨w.heap.size + 1, 1, none⟩ = some (.int .i64 (c)) := E2.out.cell 1; have e0 : ∀ x, ((((w.alloc (.cells #[.bool false, .int .i64 c] 163)).alloc (.cells #[.bool false, .int .i64 c] 255))).alloc x).cell? ⟨w.heap.size + 1, 0, none⟩ = some (.bool false) := fun x => (E2.out.alloc x).cell 0
  have e1 : ∀ x, ((((w.alloc (.cells #[.bool false, .int .i64 c] 163)).alloc (.cells #[.bool false, .int .i64 c] 255))).alloc x).cell? ⟨w.heap.size + 1, 1, none⟩ = some (.int .i64 (c)) := fun x => (E2.out.alloc x).cell 1
  have HE := hid (fun (w3 : World) (a3 : Option Addr) (c3 : Nat) ob hW hG hO => penter_end (w := w) (W := ((w.alloc (.cells #[.bool false, .int .i64 c] 163)).alloc (.cells #[.bool false, .int .i64 c] 255))) (w3 := w3) (v3 := .slice a3 (n + 1) c3) (ys := [.bool false, .int .i64 (c)]) (ob := ob) hN hS hb hW hG hO); clear h hbel hN hb hS E2; go_enter Tryz.func201, Tryz.ntmps201; go_wp2; generalize ((w.alloc (.cells #[.bool false, .int .i64 c] 163)).alloc (.cells #[.bool false, .int .i64 c] 255)) = W at *
  go_region_law (first
    | (refine step_append_win rfl _ _ _ rfl Tryz.underlying148 info_conP rfl rfl (WD _).out _ rfl 1 _ (src_new _ Tryz.underlying148 2 1 [.bool false, .int .i64 (c)] 255 _ rfl (by simp [Value.oneCell']) (heap_alloc_new _ _)) (by unfold maxLen; omega) (by omega) ?_; intro v3 w3 hW3 hG3 hO3; obtain ⟨a3, c3, rfl, _, _⟩ := Win.slice_form hW3.out; have HP := hid (HE.out w3 a3 c3 _ hW3.out hG3.out hO3.out); have g0 := HP.out.1.1; have g1 := HP.out.1.2; clear hW3 hG3 hO3))
  all_goals
    go_wp2
    go_end0
    exact ⟨rfl, _, HP.out.2⟩
theorem penter_t {w : World} {b o : Nat} {v : Value} {n : Nat} {xs : List Value} (h : NsP w b o v n xs) (hd : n < 16) {c : Int} (hc : 0 ≤ c ∧ c ≤ 1000000) :
    Calls Tryz.prog 201 #[.pointer (some ⟨b, o, none⟩), .agg #[.bool true, .int .i64 c]] w fun e w' => e = .returned (.tuple #[]) ∧ ∃ v', NsP w' b o v' (n + 1) (xs ++ [.bool true, .int .i64 (c * 2)]) ∧ (∀ k ∈ Value.owner v', k ∈ Value.owner v ∨ w.heap.size ≤ k) ∧ Subg (Value.owner v) b o 1 w w' := by
  have hb := h.ptr.lt (by simp); have hw : wrap64 (c * 2) = c * 2 := by unfold wrap64; omega
  have hw2 : IntKind.i64.wrap (c * 2) = c * 2 := by simp only [IntKind.wrap_i64]; omega
  have hz : (c != -1) = true := by rw [bne_iff_ne]; omega
  have hbel : Below w.heap.size w ((w.alloc (.cells #[.bool true, .int .i64 c] 163)).alloc (.cells #[.bool true, .int .i64 (c * 2)] 255)) := up_alloc (up_alloc (Below.refl _ _) _) _; have E2 : Hid (Blk ((w.alloc (.cells #[.bool true, .int .i64 c] 163)).alloc (.cells #[.bool true, .int .i64 (c * 2)] 255)) (w.heap.size + 1) #[.bool true, .int .i64 (c * 2)] 255) := hid (by
    have h0 := blk_new (w.alloc (.cells #[.bool true, .int .i64 c] 163)) #[.bool true, .int .i64 (c * 2)] 255
    rwa [show ∀ x, (w.alloc x).heap.size = w.heap.size + 1 from fun x => by simp] at h0)
  have hN := h.keep hbel; have HN := hid hN; have hS := subg_below hbel hb (Value.owner v) o 1; obtain ⟨a, cp, rfl, _, _⟩ := h.win.slice_form; have WD : ∀ x, Hid (Win ((((w.alloc (.cells #[.bool true, .int .i64 c] 163)).alloc (.cells #[.bool true, .int .i64 (c * 2)] 255))).alloc x).drew 255 2 (.slice a n cp) n xs) := fun x => hid (hN.win.alloc x)
  have h5 : (((w.alloc (.cells #[.bool true, .int .i64 c] 163)).alloc (.cells #[.bool true, .int .i64 (c * 2)] 255))).cell? ⟨b, o, none⟩ = some (.slice a n cp) := (hN.ptr 0 _ rfl).1; have f5 : ∀ x, ((((w.alloc (.cells #[.bool true, .int .i64 c] 163)).alloc (.cells #[.bool true, .int .i64 (c * 2)] 255))).alloc x).cell? ⟨b, o, none⟩ = some (.slice a n cp) := fun x => ((hN.ptr.alloc (by simp) x) 0 _ rfl).1
  have h0 : (((w.alloc (.cells #[.bool true, .int .i64 c] 163)).alloc (.cells #[.bool true, .int .i64 (c * 2)] 255))).cell? ⟨w.heap.size + 1, 0, none⟩ = some (.bool true) := E2.out.cell 0; have h1 : (((w.alloc (.cells #[.bool true, .int .i64 c] 163)).alloc (.cells #[.bool true, .int .i64 (c * 2)] 255))).cell? ⟨w.heap.size + 1, 1, none⟩ = some (.int .i64 (c * 2)) := E2.out.cell 1; have e0 : ∀ x, ((((w.alloc (.cells #[.bool true, .int .i64 c] 163)).alloc (.cells #[.bool true, .int .i64 (c * 2)] 255))).alloc x).cell? ⟨w.heap.size + 1, 0, none⟩ = some (.bool true) := fun x => (E2.out.alloc x).cell 0
  have e1 : ∀ x, ((((w.alloc (.cells #[.bool true, .int .i64 c] 163)).alloc (.cells #[.bool true, .int .i64 (c * 2)] 255))).alloc x).cell? ⟨w.heap.size + 1, 1, none⟩ = some (.int .i64 (c * 2)) := fun x => (E2.out.alloc x).cell 1
  have HE := hid (fun (w3 : World) (a3 : Option Addr) (c3 : Nat) ob hW hG hO => penter_end (w := w) (W := ((w.alloc (.cells #[.bool true, .int .i64 c] 163)).alloc (.cells #[.bool true, .int .i64 (c * 2)] 255))) (w3 := w3) (v3 := .slice a3 (n + 1) c3) (ys := [.bool true, .int .i64 (c * 2)]) (ob := ob) hN hS hb hW hG hO); clear h hbel hN hb hS E2; go_enter Tryz.func201, Tryz.ntmps201; go_wp2; generalize ((w.alloc (.cells #[.bool true, .int .i64 c] 163)).alloc (.cells #[.bool true, .int .i64 (c * 2)] 255)) = W at *
  go_region_law (first
    | (refine step_append_win rfl _ _ _ rfl Tryz.underlying148 info_conP rfl rfl (WD _).out _ rfl 1 _ (src_new _ Tryz.underlying148 2 1 [.bool true, .int .i64 (c * 2)] 255 _ rfl (by simp [Value.oneCell']) (heap_alloc_new _ _)) (by unfold maxLen; omega) (by omega) ?_; intro v3 w3 hW3 hG3 hO3; obtain ⟨a3, c3, rfl, _, _⟩ := Win.slice_form hW3.out; have HP := hid (HE.out w3 a3 c3 _ hW3.out hG3.out hO3.out); have g0 := HP.out.1.1; have g1 := HP.out.1.2; clear hW3 hG3 hO3))
  all_goals
    go_wp2
    go_end0
    exact ⟨rfl, _, HP.out.2⟩
theorem penter_at {w : World} {b o : Nat} {v : Value} {s : List Bx} (h : NsP w b o v s.length (inP s)) (hd : s.length < 16) (m : Bool) (c : Int) (hc : 0 < c ∧ c ≤ 1000000) :
    Calls Tryz.prog 201 #[.pointer (some ⟨b, o, none⟩), .agg #[.bool m, .int .i64 c]] w fun e w' => e = .returned (.tuple #[]) ∧ ∃ v', NsP w' b o v' (s.length + 1) (inP (⟨m, c, 0⟩ :: incB s)) ∧ (∀ k ∈ Value.owner v', k ∈ Value.owner v ∨ w.heap.size ≤ k) ∧ Subg (Value.owner v) b o 1 w w' := by
  have e0 : ((0 : Nat) : Int) = 0 := rfl; simp only [inP, inP_out, ccP, ccL, e0, Int.sub_zero]; cases m with
  | false =>
    have : cntB ⟨false, c, 0⟩ = c := by unfold cntB; rw [if_neg (by simp only; omega), if_neg (by simp)]
    rw [this]; exact penter_f h hd c
  | true =>
    have : cntB ⟨true, c, 0⟩ = c * 2 := by unfold cntB; rw [if_neg (by simp only; omega), if_pos rfl]; simp only; omega
    rw [this]; exact penter_t h hd ⟨by omega, hc.2⟩
end
section
open Go.RowKit
open Go.Lib
theorem wrapI_u64 (n : Int) (h0 : 0 ≤ n) (h1 : n < 18446744073709551616) : IntKind.u64.wrap n = n := by
  simp [IntKind.wrap, IntKind.bits, IntKind.signed]; omega
theorem wrapI_u8 (n : Int) (h0 : 0 ≤ n) (h1 : n < 256) : IntKind.u8.wrap n = n := by
  simp [IntKind.wrap, IntKind.bits, IntKind.signed]; omega
theorem and31 (x : Nat) (h : x < 256) : bits .and .u8 (x : Int) 31 = ((x % 32 : Nat) : Int) := by
  have h1 : (BitVec.ofInt 8 (x : Int)).toNat = x := by
    rw [BitVec.ofInt_natCast, BitVec.toNat_ofNat]; exact Nat.mod_eq_of_lt (by omega)
  have h2 : (BitVec.ofInt 8 (31 : Int)).toNat = 31 := by decide
  show IntKind.u8.wrap ((BitVec.ofInt 8 (x : Int) &&& BitVec.ofInt 8 (31 : Int)).toNat : Int) = _; rw [BitVec.toNat_and, h1, h2, show 31 = 2 ^ 5 - 1 by decide, Nat.and_two_pow_sub_one_eq_mod, wrapI_u8 _ (by omega) (by omega)]
theorem or_u64 (a c k : Nat) (ha : a * 2 ^ k + c < 18446744073709551616) (hc : c < 2 ^ k) : bits .or .u64 ((a * 2 ^ k : Nat) : Int) (c : Int) = ((a * 2 ^ k + c : Nat) : Int) := by
  have h1 : (BitVec.ofInt 64 ((a * 2 ^ k : Nat) : Int)).toNat = a * 2 ^ k := by
    rw [BitVec.ofInt_natCast, BitVec.toNat_ofNat]; exact Nat.mod_eq_of_lt (by omega)
  have h2 : (BitVec.ofInt 64 (c : Int)).toNat = c := by
    rw [BitVec.ofInt_natCast, BitVec.toNat_ofNat]; exact Nat.mod_eq_of_lt (by omega)
  show IntKind.u64.wrap ((BitVec.ofInt 64 ((a * 2 ^ k : Nat) : Int) ||| BitVec.ofInt 64 (c : Int)).toNat : Int) = _; rw [BitVec.toNat_or, h1, h2, show a * 2 ^ k = 2 ^ k * a by rw [Nat.mul_comm], ← Nat.two_pow_add_eq_or_of_lt hc, wrapI_u64 _ (by omega) (by rw [Nat.mul_comm]; omega)]
end
section
open Go.RowKit
open Go.Lib
def hd6 (e p m : Nat) (o : Bool) (l v : Nat) : List Value := [.int .i64 e, .int .i64 p, .int .i64 m, .bool o, .int .i64 l, .int .u64 v]
def hdCells : Hd → List Value
  | .bad e => hd6 e 0 0 false 0 0
  | .new => hd6 0 0 0 false 0 0
  | .mid m n v => hd6 0 1 m false n v
  | .fin m v o => hd6 0 2 m o 0 v
def WfH : Hd → Prop
  | .bad e => e = 2 ∨ e = 14
  | .new => True
  | .mid m n v => m < 8 ∧ 1 ≤ n ∧ n ≤ 8 ∧ (v + 1) * 256 ^ n ≤ 18446744073709551616
  | .fin m v _ => m < 8 ∧ v < 18446744073709551616
def HAt (w : World) (b o : Nat) (s : Hd) : Prop := WfH s ∧ At w b o (hdCells s)
theorem hdCells_len (s : Hd) : (hdCells s).length = 6 := by cases s <;> rfl
theorem HAt.lt {w : World} {b o : Nat} {s : Hd} (h : HAt w b o s) : b < w.heap.size := h.2.lt (by intro e; have := hdCells_len s; rw [e] at this; simp at this)
theorem HAt.map {w w' : World} {b o : Nat} {s : Hd} (h : HAt w b o s) (hk : ∀ vs : List Value, vs.length = 6 → At w b o vs → At w' b o vs) : HAt w' b o s := ⟨h.1, hk _ (hdCells_len s) h.2⟩
theorem HAt.keep {w w' : World} {b o : Nat} {s : Hd} (h : HAt w b o s) (hk : w'.heap[b]? = w.heap[b]?) : HAt w' b o s := h.map fun _ _ h => h.keep hk
theorem HAt.sub {w w' : World} {b o o' n : Nat} {s : Hd} (h : HAt w b o s) (k : Sub b o' n w w') (hd : o + 6 ≤ o' ∨ o' + n ≤ o) : HAt w' b o s := h.map fun vs hv h => h.sub k (by omega)
theorem HAt.drewN {w : World} {b o : Nat} {s : Hd} (h : HAt w b o s) (q : Nat) : HAt (w.drewN q) b o s := h.map fun _ _ h => h
def HPost (w : World) (b o : Nat) (s : Hd) (w' : World) : Prop := HAt w' b o s ∧ Sub b o 6 w w'
theorem At.six {w : World} {b o : Nat} {v0 v1 v2 v3 v4 v5 : Value} (h : At w b o [v0, v1, v2, v3, v4, v5]) :
    (w.cell? ⟨b, o, none⟩ = some v0 ∧ w.frozen? ⟨b, o, none⟩ = false) ∧ (w.cell? ⟨b, o + 1, none⟩ = some v1 ∧ w.frozen? ⟨b, o + 1, none⟩ = false) ∧
    (w.cell? ⟨b, o + 2, none⟩ = some v2 ∧ w.frozen? ⟨b, o + 2, none⟩ = false) ∧ (w.cell? ⟨b, o + 3, none⟩ = some v3 ∧ w.frozen? ⟨b, o + 3, none⟩ = false) ∧
    (w.cell? ⟨b, o + 4, none⟩ = some v4 ∧ w.frozen? ⟨b, o + 4, none⟩ = false) ∧ (w.cell? ⟨b, o + 5, none⟩ = some v5 ∧ w.frozen? ⟨b, o + 5, none⟩ = false) :=
  ⟨h 0 v0 rfl, h 1 v1 rfl, h 2 v2 rfl, h 3 v3 rfl, h 4 v4 rfl, h 5 v5 rfl⟩
theorem wf_stepH (s : Hd) (x : Nat) (hx : x < 256) (h : WfH s) : WfH (stepH s x) := by
  cases s with
  | bad e => exact h
  | fin m v o => exact .inr rfl
  | new =>
    simp only [stepH]; split
    · exact ⟨by omega, by omega⟩
    · split
      · obtain ⟨k, hk⟩ : ∃ k, x % 32 - 24 = k := ⟨_, rfl⟩
        rw [hk]; have : k = 0 ∨ k = 1 ∨ k = 2 ∨ k = 3 := by omega
        refine ⟨by omega, ?_⟩; rcases this with rfl | rfl | rfl | rfl <;> decide
      · split
        · exact ⟨by omega, by omega⟩
        · exact .inl rfl
  | mid m n v =>
    obtain ⟨h1, h2, h3, h4⟩ := h; obtain ⟨k, rfl⟩ : ∃ k, n = k + 1 := ⟨n - 1, by omega⟩
    have hp : (v * 256 + x + 1) * 256 ^ k ≤ 18446744073709551616 := by
      have : (v * 256 + x + 1) * 256 ^ k ≤ ((v + 1) * 256) * 256 ^ k := Nat.mul_le_mul_right _ (by omega); have e : (v + 1) * 256 * 256 ^ k = (v + 1) * 256 ^ (k + 1) := by rw [Nat.pow_succ, Nat.mul_assoc, Nat.mul_comm 256]
      omega
    have h1p : 1 ≤ 256 ^ k := Nat.pow_pos (by decide); have hv : v * 256 + x < 18446744073709551616 := by
      have := Nat.mul_le_mul_left (v * 256 + x + 1) h1p; omega
    simp only [stepH]; split
    · exact ⟨h1, hv⟩
    · exact ⟨h1, by omega, by omega, hp⟩
theorem value_at {w : World} {b o : Nat} {s : Hd} (h : HAt w b o s) :
    Calls Tryz.prog 161 #[.pointer (some ⟨b, o, none⟩)] w fun e w' => e = .returned (.int .u64 (valH s)) ∧ w = w' := by
  cases s with
  | bad f =>
    obtain ⟨_, ⟨hc, _⟩, _⟩ := At.six h.2; clear h; go_enter Tryz.func161, Tryz.ntmps161; go_wp2; go_ret; exact ⟨rfl, rfl⟩
  | new =>
    obtain ⟨_, ⟨hc, _⟩, _⟩ := At.six h.2; clear h; go_enter Tryz.func161, Tryz.ntmps161; go_wp2; go_ret; exact ⟨rfl, rfl⟩
  | mid m n v =>
    obtain ⟨_, ⟨hc, _⟩, _⟩ := At.six h.2; clear h; go_enter Tryz.func161, Tryz.ntmps161; go_wp2; go_ret; exact ⟨rfl, rfl⟩
  | fin m v q =>
    obtain ⟨_, ⟨hc, _⟩, _, _, _, ⟨hc5, _⟩⟩ := At.six h.2; clear h; go_enter Tryz.func161, Tryz.ntmps161; go_wp2; go_ret; exact ⟨rfl, rfl⟩
theorem At.set0 {w : World} {b o : Nat} {v : Value} {vs : List Value} (h : At w b o (v :: vs)) (u : Value) : At (w.setCell ⟨b, o, none⟩ u) b o (u :: vs) := h.set 0 (by simp) u
theorem hd_all {w : World} {b o e p m : Nat} {q : Bool} {l v : Nat} (h : At w b o (hd6 e p m q l v)) (e' p' m' : Nat) (q' : Bool) (l' v' : Nat) :
    At ((((((w.setCell ⟨b, o, none⟩ (.int .i64 e')).setCell ⟨b, o + 1, none⟩ (.int .i64 p')).setCell ⟨b, o + 2, none⟩ (.int .i64 m')).setCell ⟨b, o + 3, none⟩ (.bool q')).setCell ⟨b, o + 4, none⟩ (.int .i64 l')).setCell ⟨b, o + 5, none⟩ (.int .u64 v')) b o (hd6 e' p' m' q' l' v') ∧
    Sub b o 6 w ((((((w.setCell ⟨b, o, none⟩ (.int .i64 e')).setCell ⟨b, o + 1, none⟩ (.int .i64 p')).setCell ⟨b, o + 2, none⟩ (.int .i64 m')).setCell ⟨b, o + 3, none⟩ (.bool q')).setCell ⟨b, o + 4, none⟩ (.int .i64 l')).setCell ⟨b, o + 5, none⟩ (.int .u64 v')) :=
  ⟨(((((h.set0 (.int .i64 e')).set 1 (by simp) (.int .i64 p')).set 2 (by simp) (.int .i64 m')).set 3 (by simp) (.bool q')).set 4 (by simp) (.int .i64 l')).set 5 (by simp) (.int .u64 v'),
   ((((((sub_setCell w o _ (by omega)).setCell (o + 1) _ (by omega)).setCell (o + 2) _ (by omega)).setCell (o + 3) _ (by omega)).setCell (o + 4) _ (by omega)).setCell (o + 5) _ (by omega))⟩
theorem clear_six {w : World} {b o e p m : Nat} {q : Bool} {l v : Nat} (hA : At w b o (hd6 e p m q l v)) :
    Calls Tryz.prog 151 #[.pointer (some ⟨b, o, none⟩)] w fun e w' => e = .returned (.tuple #[]) ∧ HPost w b o .new w' := by
  have HP : Hid (HPost w b o .new _) := hid ⟨⟨trivial, (hd_all hA 0 0 0 false 0 0).1⟩, (hd_all hA 0 0 0 false 0 0).2⟩; obtain ⟨⟨c0, f0⟩, ⟨c1, f1⟩, ⟨c2, f2⟩, ⟨c3, f3⟩, ⟨c4, f4⟩, ⟨c5, f5⟩⟩ := hA.six; clear hA; go_enter Tryz.func151, Tryz.ntmps151; go_wp2
  go_end0
  exact ⟨rfl, HP.out⟩
theorem clear_at {w : World} {b o : Nat} {s : Hd} (h : HAt w b o s) :
    Calls Tryz.prog 151 #[.pointer (some ⟨b, o, none⟩)] w fun e w' => e = .returned (.tuple #[]) ∧ HPost w b o .new w' := by
  have h0 := h.2; cases s <;> exact clear_six h0
theorem go_on {w : World} {b o m n v x : Nat} (hx : x < 256) (h : HAt w b o (.mid m n v)) :
    Calls Tryz.prog 170 #[.pointer (some ⟨b, o, none⟩), .int .u8 x] w fun e w' => e = .returned (.tuple #[]) ∧ HPost w b o (stepH (.mid m n v) x) w' := by
  have hwf := wf_stepH _ x hx h.1; obtain ⟨⟨h1, h2, h3, h4⟩, hA⟩ := h; have hA : At w b o (hd6 0 1 m false n v) := hA; have hv : v * 2 ^ 8 + x < 18446744073709551616 := by
    have hp : 256 ≤ 256 ^ n := by
      have := Nat.pow_le_pow_right (n := 256) (by decide) h2; simpa using this
    have := Nat.mul_le_mul_left (v + 1) hp; omega
  have ho := or_u64 v x 8 hv (by omega); have hw1 : IntKind.u64.wrap ((v : Int) * 256) = ((v * 2 ^ 8 : Nat) : Int) := by rw [wrapI_u64 _ (by omega) (by omega)]; omega
  rw [← hw1] at ho; have hw2 : wrap64 ((n : Int) - 1) = ((n - 1 : Nat) : Int) := by
    unfold wrap64; omega
  obtain ⟨u, hu⟩ : ∃ u, v * 256 + x = u := ⟨_, rfl⟩
  rw [show v * 2 ^ 8 + x = u by omega] at ho; obtain ⟨k, hk⟩ : ∃ k, n - 1 = k := ⟨_, rfl⟩
  rw [hk] at hw2; obtain ⟨⟨c0, f0⟩, ⟨c1, f1⟩, ⟨c2, f2⟩, ⟨c3, f3⟩, ⟨c4, f4⟩, ⟨c5, f5⟩⟩ := At.six hA; by_cases hn : n = 1
  · subst hn
    obtain rfl : k = 0 := by omega
    rw [show stepH (.mid m 1 v) x = .fin m u false by simp [stepH, hu]] at hwf ⊢; have HP : Hid (HPost w b o (.fin m u false) (((w.setCell ⟨b, o + 5, none⟩ (.int .u64 u)).setCell ⟨b, o + 4, none⟩ (.int .i64 0)).setCell ⟨b, o + 1, none⟩ (.int .i64 2))) :=
      hid ⟨⟨hwf, ((hA.set 5 (by simp [hd6]) (.int .u64 u)).set 4 (by simp [hd6]) (.int .i64 0)).set 1 (by simp [hd6]) (.int .i64 2)⟩, ((sub_setCell w (o + 5) _ (by omega)).setCell (o + 4) _ (by omega)).setCell (o + 1) _ (by omega)⟩
    clear hA hwf hv h1 h2 h3 h4 hu hk hw1 hw2; go_enter Tryz.func170, Tryz.ntmps170; go_wp2
    go_end0
    exact ⟨rfl, HP.out⟩
  · rw [show stepH (.mid m n v) x = .mid m k u by simp [stepH, hu, hk, hn]] at hwf ⊢
    have HP : Hid (HPost w b o (.mid m k u) ((w.setCell ⟨b, o + 5, none⟩ (.int .u64 u)).setCell ⟨b, o + 4, none⟩ (.int .i64 k))) :=
      hid ⟨⟨hwf, (hA.set 5 (by simp [hd6]) (.int .u64 u)).set 4 (by simp [hd6]) (.int .i64 k)⟩, (sub_setCell w (o + 5) _ (by omega)).setCell (o + 4) _ (by omega)⟩
    have hz : ((k : Int) == 0) = false := by rw [beq_eq_false_iff_ne]; omega
    clear hA hwf hv h1 h2 h3 h4 hu hk hw1 hn; go_enter Tryz.func170, Tryz.ntmps170; go_wp2
    go_end0
    exact ⟨rfl, HP.out⟩
theorem begin_low {w : World} {b o x : Nat} (hx : x < 256) (h1 : x % 32 < 24) (h : HAt w b o .new) :
    Calls Tryz.prog 169 #[.pointer (some ⟨b, o, none⟩), .int .u8 x] w fun e w' => e = .returned (.int .i64 0) ∧ HPost w b o (stepH .new x) w' := by
  have hwf := wf_stepH _ x hx h.1; have hA : At w b o (hd6 0 0 0 false 0 0) := h.2; obtain ⟨⟨c0, f0⟩, ⟨c1, f1⟩, ⟨c2, f2⟩, ⟨c3, f3⟩, ⟨c4, f4⟩, ⟨c5, f5⟩⟩ := At.six hA; have hb := and31 x hx; rw [show stepH .new x = .fin (x / 32) (x % 32) false by simp [stepH, h1]] at hwf ⊢; have HP : Hid (HPost w b o (.fin (x / 32) (x % 32) false) (((w.setCell ⟨b, o + 2, none⟩ (.int .i64 ((x / 32 : Nat) : Int))).setCell ⟨b, o + 1, none⟩ (.int .i64 2)).setCell ⟨b, o + 5, none⟩ (.int .u64 ((x % 32 : Nat) : Int)))) :=
    hid ⟨⟨hwf, ((hA.set 2 (by simp [hd6]) (.int .i64 ((x / 32 : Nat) : Int))).set 1 (by simp [hd6]) (.int .i64 2)).set 5 (by simp [hd6]) (.int .u64 ((x % 32 : Nat) : Int))⟩, ((sub_setCell w (o + 2) _ (by omega)).setCell (o + 1) _ (by omega)).setCell (o + 5) _ (by omega)⟩
  rw [show ((x / 32 : Nat) : Int) = (x : Int) / 32 by omega] at HP; generalize x % 32 = l at *
  have hl : ((l : Int) < 24) = True := by simp only [eq_iff_iff, iff_true]; omega
  have hwl : IntKind.u64.wrap (l : Int) = (l : Int) := wrapI_u64 _ (by omega) (by omega); clear hA hwf h1; go_enter Tryz.func169, Tryz.ntmps169; go_wp2; go_ret; exact ⟨rfl, HP.out⟩
theorem begin_mid24 {w : World} {b o x : Nat} (hx : x < 256) (h1 : x % 32 = 24) (h : HAt w b o .new) :
    Calls Tryz.prog 169 #[.pointer (some ⟨b, o, none⟩), .int .u8 x] w fun e w' => e = .returned (.int .i64 0) ∧ HPost w b o (stepH .new x) w' := by
  have hwf := wf_stepH _ x hx h.1; have hA : At w b o (hd6 0 0 0 false 0 0) := h.2; obtain ⟨⟨c0, f0⟩, ⟨c1, f1⟩, ⟨c2, f2⟩, ⟨c3, f3⟩, ⟨c4, f4⟩, ⟨c5, f5⟩⟩ := At.six hA; have hb := and31 x hx; rw [h1] at hb; rw [show stepH .new x = .mid (x / 32) 1 0 by simp [stepH, h1]] at hwf ⊢; have HP : Hid (HPost w b o (.mid (x / 32) 1 0) ((((w.setCell ⟨b, o + 2, none⟩ (.int .i64 ((x / 32 : Nat) : Int))).setCell ⟨b, o + 1, none⟩ (.int .i64 2)).setCell ⟨b, o + 1, none⟩ (.int .i64 1)).setCell ⟨b, o + 4, none⟩ (.int .i64 1))) :=
    hid ⟨⟨hwf, (((hA.set 2 (by simp [hd6]) (.int .i64 ((x / 32 : Nat) : Int))).set 1 (by simp [hd6]) (.int .i64 2)).set 1 (by simp [hd6]) (.int .i64 1)).set 4 (by simp [hd6]) (.int .i64 1)⟩, (((sub_setCell w (o + 2) _ (by omega)).setCell (o + 1) _ (by omega)).setCell (o + 1) _ (by omega)).setCell (o + 4) _ (by omega)⟩
  rw [show ((x / 32 : Nat) : Int) = (x : Int) / 32 by omega] at HP; clear hA hwf h1; go_enter Tryz.func169, Tryz.ntmps169; go_wp2; go_ret; exact ⟨rfl, HP.out⟩
theorem begin_mid25 {w : World} {b o x : Nat} (hx : x < 256) (h1 : x % 32 = 25) (h : HAt w b o .new) :
    Calls Tryz.prog 169 #[.pointer (some ⟨b, o, none⟩), .int .u8 x] w fun e w' => e = .returned (.int .i64 0) ∧ HPost w b o (stepH .new x) w' := by
  have hwf := wf_stepH _ x hx h.1; have hA : At w b o (hd6 0 0 0 false 0 0) := h.2; obtain ⟨⟨c0, f0⟩, ⟨c1, f1⟩, ⟨c2, f2⟩, ⟨c3, f3⟩, ⟨c4, f4⟩, ⟨c5, f5⟩⟩ := At.six hA; have hb := and31 x hx; rw [h1] at hb; rw [show stepH .new x = .mid (x / 32) 2 0 by simp [stepH, h1]] at hwf ⊢; have HP : Hid (HPost w b o (.mid (x / 32) 2 0) ((((w.setCell ⟨b, o + 2, none⟩ (.int .i64 ((x / 32 : Nat) : Int))).setCell ⟨b, o + 1, none⟩ (.int .i64 2)).setCell ⟨b, o + 1, none⟩ (.int .i64 1)).setCell ⟨b, o + 4, none⟩ (.int .i64 2))) :=
    hid ⟨⟨hwf, (((hA.set 2 (by simp [hd6]) (.int .i64 ((x / 32 : Nat) : Int))).set 1 (by simp [hd6]) (.int .i64 2)).set 1 (by simp [hd6]) (.int .i64 1)).set 4 (by simp [hd6]) (.int .i64 2)⟩, (((sub_setCell w (o + 2) _ (by omega)).setCell (o + 1) _ (by omega)).setCell (o + 1) _ (by omega)).setCell (o + 4) _ (by omega)⟩
  rw [show ((x / 32 : Nat) : Int) = (x : Int) / 32 by omega] at HP; clear hA hwf h1; go_enter Tryz.func169, Tryz.ntmps169; go_wp2; go_ret; exact ⟨rfl, HP.out⟩
theorem begin_mid26 {w : World} {b o x : Nat} (hx : x < 256) (h1 : x % 32 = 26) (h : HAt w b o .new) :
    Calls Tryz.prog 169 #[.pointer (some ⟨b, o, none⟩), .int .u8 x] w fun e w' => e = .returned (.int .i64 0) ∧ HPost w b o (stepH .new x) w' := by
  have hwf := wf_stepH _ x hx h.1; have hA : At w b o (hd6 0 0 0 false 0 0) := h.2; obtain ⟨⟨c0, f0⟩, ⟨c1, f1⟩, ⟨c2, f2⟩, ⟨c3, f3⟩, ⟨c4, f4⟩, ⟨c5, f5⟩⟩ := At.six hA; have hb := and31 x hx; rw [h1] at hb; rw [show stepH .new x = .mid (x / 32) 4 0 by simp [stepH, h1]] at hwf ⊢; have HP : Hid (HPost w b o (.mid (x / 32) 4 0) ((((w.setCell ⟨b, o + 2, none⟩ (.int .i64 ((x / 32 : Nat) : Int))).setCell ⟨b, o + 1, none⟩ (.int .i64 2)).setCell ⟨b, o + 1, none⟩ (.int .i64 1)).setCell ⟨b, o + 4, none⟩ (.int .i64 4))) :=
    hid ⟨⟨hwf, (((hA.set 2 (by simp [hd6]) (.int .i64 ((x / 32 : Nat) : Int))).set 1 (by simp [hd6]) (.int .i64 2)).set 1 (by simp [hd6]) (.int .i64 1)).set 4 (by simp [hd6]) (.int .i64 4)⟩, (((sub_setCell w (o + 2) _ (by omega)).setCell (o + 1) _ (by omega)).setCell (o + 1) _ (by omega)).setCell (o + 4) _ (by omega)⟩
  rw [show ((x / 32 : Nat) : Int) = (x : Int) / 32 by omega] at HP; clear hA hwf h1; go_enter Tryz.func169, Tryz.ntmps169; go_wp2; go_ret; exact ⟨rfl, HP.out⟩
theorem begin_mid27 {w : World} {b o x : Nat} (hx : x < 256) (h1 : x % 32 = 27) (h : HAt w b o .new) :
    Calls Tryz.prog 169 #[.pointer (some ⟨b, o, none⟩), .int .u8 x] w fun e w' => e = .returned (.int .i64 0) ∧ HPost w b o (stepH .new x) w' := by
  have hwf := wf_stepH _ x hx h.1; have hA : At w b o (hd6 0 0 0 false 0 0) := h.2; obtain ⟨⟨c0, f0⟩, ⟨c1, f1⟩, ⟨c2, f2⟩, ⟨c3, f3⟩, ⟨c4, f4⟩, ⟨c5, f5⟩⟩ := At.six hA; have hb := and31 x hx; rw [h1] at hb; rw [show stepH .new x = .mid (x / 32) 8 0 by simp [stepH, h1]] at hwf ⊢; have HP : Hid (HPost w b o (.mid (x / 32) 8 0) ((((w.setCell ⟨b, o + 2, none⟩ (.int .i64 ((x / 32 : Nat) : Int))).setCell ⟨b, o + 1, none⟩ (.int .i64 2)).setCell ⟨b, o + 1, none⟩ (.int .i64 1)).setCell ⟨b, o + 4, none⟩ (.int .i64 8))) :=
    hid ⟨⟨hwf, (((hA.set 2 (by simp [hd6]) (.int .i64 ((x / 32 : Nat) : Int))).set 1 (by simp [hd6]) (.int .i64 2)).set 1 (by simp [hd6]) (.int .i64 1)).set 4 (by simp [hd6]) (.int .i64 8)⟩, (((sub_setCell w (o + 2) _ (by omega)).setCell (o + 1) _ (by omega)).setCell (o + 1) _ (by omega)).setCell (o + 4) _ (by omega)⟩
  rw [show ((x / 32 : Nat) : Int) = (x : Int) / 32 by omega] at HP; clear hA hwf h1; go_enter Tryz.func169, Tryz.ntmps169; go_wp2; go_ret; exact ⟨rfl, HP.out⟩
theorem begin_open {w : World} {b o x : Nat} (hx : x < 256) (h1 : x % 32 = 31) (h : HAt w b o .new) :
    Calls Tryz.prog 169 #[.pointer (some ⟨b, o, none⟩), .int .u8 x] w fun e w' => e = .returned (.int .i64 0) ∧ HPost w b o (stepH .new x) w' := by
  have hwf := wf_stepH _ x hx h.1; have hA : At w b o (hd6 0 0 0 false 0 0) := h.2; obtain ⟨⟨c0, f0⟩, ⟨c1, f1⟩, ⟨c2, f2⟩, ⟨c3, f3⟩, ⟨c4, f4⟩, ⟨c5, f5⟩⟩ := At.six hA; have hb := and31 x hx; rw [h1] at hb; rw [show stepH .new x = .fin (x / 32) 0 true by simp [stepH, h1]] at hwf ⊢; have HP : Hid (HPost w b o (.fin (x / 32) 0 true) (((w.setCell ⟨b, o + 2, none⟩ (.int .i64 ((x / 32 : Nat) : Int))).setCell ⟨b, o + 1, none⟩ (.int .i64 2)).setCell ⟨b, o + 3, none⟩ (.bool true))) :=
    hid ⟨⟨hwf, ((hA.set 2 (by simp [hd6]) (.int .i64 ((x / 32 : Nat) : Int))).set 1 (by simp [hd6]) (.int .i64 2)).set 3 (by simp [hd6]) (.bool true)⟩, ((sub_setCell w (o + 2) _ (by omega)).setCell (o + 1) _ (by omega)).setCell (o + 3) _ (by omega)⟩
  rw [show ((x / 32 : Nat) : Int) = (x : Int) / 32 by omega] at HP; clear hA hwf h1; go_enter Tryz.func169, Tryz.ntmps169; go_wp2; go_ret; exact ⟨rfl, HP.out⟩
theorem begin_bad {w : World} {b o x : Nat} (hx : x < 256) (l : Nat) (hl : l = 28 ∨ l = 29 ∨ l = 30) (h1 : x % 32 = l) (h : HAt w b o .new) :
    Calls Tryz.prog 169 #[.pointer (some ⟨b, o, none⟩), .int .u8 x] w fun e w' => e = .returned (.int .i64 2) ∧ At w' b o (hd6 0 2 (x / 32) false 0 0) ∧ Sub b o 6 w w' := by
  have hA : At w b o (hd6 0 0 0 false 0 0) := h.2; obtain ⟨⟨c0, f0⟩, ⟨c1, f1⟩, ⟨c2, f2⟩, ⟨c3, f3⟩, ⟨c4, f4⟩, ⟨c5, f5⟩⟩ := At.six hA; have hb := and31 x hx; rw [h1] at hb; have HP : Hid (At ((w.setCell ⟨b, o + 2, none⟩ (.int .i64 ((x / 32 : Nat) : Int))).setCell ⟨b, o + 1, none⟩ (.int .i64 2)) b o (hd6 0 2 (x / 32) false 0 0) ∧ Sub b o 6 w ((w.setCell ⟨b, o + 2, none⟩ (.int .i64 ((x / 32 : Nat) : Int))).setCell ⟨b, o + 1, none⟩ (.int .i64 2))) :=
    hid ⟨(hA.set 2 (by simp [hd6]) (.int .i64 ((x / 32 : Nat) : Int))).set 1 (by simp [hd6]) (.int .i64 2), (sub_setCell w (o + 2) _ (by omega)).setCell (o + 1) _ (by omega)⟩
  rw [show ((x / 32 : Nat) : Int) = (x : Int) / 32 by omega] at HP; clear hA h1; rcases hl with rfl | rfl | rfl
  all_goals
    go_enter Tryz.func169, Tryz.ntmps169; go_wp2; go_ret; exact ⟨rfl, HP.out⟩
theorem begin_at {w : World} {b o x : Nat} (hx : x < 256) (h : HAt w b o .new) :
    Calls Tryz.prog 169 #[.pointer (some ⟨b, o, none⟩), .int .u8 x] w fun e w' => e = .returned (.int .i64 (errH (stepH .new x))) ∧ ((∃ f, stepH .new x = .bad f) ∨ HAt w' b o (stepH .new x)) ∧ (∃ e p m q l v, At w' b o (hd6 e p m q l v)) ∧ Sub b o 6 w w' := by
  by_cases h1 : x % 32 < 24
  · have he : errH (stepH .new x) = 0 := by simp [stepH, h1, errH]
    rw [he]; refine (begin_low hx h1 h).mono ?_; rintro e w' ⟨rfl, hP, hS⟩; refine ⟨rfl, .inr hP, ?_, hS⟩; have := hP.2; rw [show stepH .new x = .fin (x / 32) (x % 32) false by simp [stepH, h1]] at this; exact ⟨_, _, _, _, _, _, this⟩
  · by_cases h2 : x % 32 < 28
    · have he : errH (stepH .new x) = 0 := by simp [stepH, h1, h2, errH]
      rw [he]; have hd : x % 32 = 24 ∨ x % 32 = 25 ∨ x % 32 = 26 ∨ x % 32 = 27 := by omega
      have hw' : stepH .new x = .mid (x / 32) (2 ^ (x % 32 - 24)) 0 := by simp [stepH, h1, h2]
      rcases hd with hd | hd | hd | hd
      · refine (begin_mid24 hx hd h).mono ?_
        rintro e w' ⟨rfl, hP, hS⟩; refine ⟨rfl, .inr hP, ?_, hS⟩; have := hP.2; rw [hw'] at this; exact ⟨_, _, _, _, _, _, this⟩
      · refine (begin_mid25 hx hd h).mono ?_
        rintro e w' ⟨rfl, hP, hS⟩; refine ⟨rfl, .inr hP, ?_, hS⟩; have := hP.2; rw [hw'] at this; exact ⟨_, _, _, _, _, _, this⟩
      · refine (begin_mid26 hx hd h).mono ?_
        rintro e w' ⟨rfl, hP, hS⟩; refine ⟨rfl, .inr hP, ?_, hS⟩; have := hP.2; rw [hw'] at this; exact ⟨_, _, _, _, _, _, this⟩
      · refine (begin_mid27 hx hd h).mono ?_
        rintro e w' ⟨rfl, hP, hS⟩; refine ⟨rfl, .inr hP, ?_, hS⟩; have := hP.2; rw [hw'] at this; exact ⟨_, _, _, _, _, _, this⟩
    · by_cases h3 : x % 32 = 31
      · have he : errH (stepH .new x) = 0 := by simp [stepH, h3, errH]
        rw [he]; refine (begin_open hx h3 h).mono ?_; rintro e w' ⟨rfl, hP, hS⟩; refine ⟨rfl, .inr hP, ?_, hS⟩; have := hP.2; rw [show stepH .new x = .fin (x / 32) 0 true by simp [stepH, h3]] at this; exact ⟨_, _, _, _, _, _, this⟩
      · have he : stepH .new x = .bad 2 := by simp [stepH, h1, h2, h3]
        rw [he]; refine (begin_bad hx (x % 32) (by omega) rfl h).mono ?_; rintro e w' ⟨rfl, hP, hS⟩; exact ⟨rfl, .inl ⟨2, rfl⟩, ⟨_, _, _, _, _, _, hP⟩, hS⟩
theorem htake_at {w : World} {b o x : Nat} {s : Hd} (hx : x < 256) (hs : errH s = 0) (h : HAt w b o s) :
    Calls Tryz.prog 155 #[.pointer (some ⟨b, o, none⟩), .int .u8 x] w fun e w' => e = .returned (.int .i64 (errH (stepH s x))) ∧ ((∃ f, stepH s x = .bad f) ∨ HAt w' b o (stepH s x)) ∧ (∃ e p m q l v, At w' b o (hd6 e p m q l v)) ∧ Sub b o 6 w w' := by
  cases s with
  | bad f =>
    have h0 : f = 0 := hs; rcases h.1 with h | h <;> omega
  | new =>
    obtain ⟨_, ⟨c1, f1⟩, _⟩ := At.six h.2; have HB := hid (begin_at hx h); clear h; go_enter Tryz.func155, Tryz.ntmps155; (go_wp2_with fail); refine HB.out.mono ?_; rintro e w' ⟨rfl, hP⟩; have HP := hid hP; clear hP; go_wp2; go_ret; exact ⟨rfl, HP.out⟩
  | mid m n v =>
    obtain ⟨_, ⟨c1, f1⟩, _⟩ := At.six h.2; have he : errH (stepH (.mid m n v) x) = 0 := by simp only [stepH]; split <;> rfl
    rw [he]; have HB := hid (go_on hx h); clear h he; go_enter Tryz.func155, Tryz.ntmps155; (go_wp2_with fail); refine HB.out.mono ?_; rintro e w' ⟨rfl, hP⟩; have HP := hid hP; clear hP; go_wp2; go_ret; refine ⟨rfl, .inr HP.out.1, ?_, HP.out.2⟩; have h2 := HP.out.1.2; simp only [stepH] at h2; split at h2 <;> exact ⟨_, _, _, _, _, _, h2⟩
  | fin m v q =>
    have h0 : At w b o (hd6 0 2 m q 0 v) := h.2; obtain ⟨_, ⟨c1, f1⟩, _⟩ := At.six h.2; clear h; go_enter Tryz.func155, Tryz.ntmps155; go_wp2; go_ret; exact ⟨rfl, .inl ⟨14, rfl⟩, ⟨_, _, _, _, _, _, h0⟩, Sub.refl _ _ _ _⟩
theorem hstep_at {w : World} {b o x : Nat} {s : Hd} (hx : x < 256) (h : HAt w b o s) :
    Calls Tryz.prog 149 #[.pointer (some ⟨b, o, none⟩), .int .u8 x] w fun e w' => e = .returned (.tuple #[.bool (endH (stepH s x)), .int .i64 (errH (stepH s x))]) ∧ HPost w b o (stepH s x) w' := by
  by_cases hs : errH s = 0
  · have hwf := wf_stepH s x hx h.1
    have hc0 : w.cell? ⟨b, o, none⟩ = some (.int .i64 0) := by
      have := h.2; cases s with
      | bad f => have h0 : f = 0 := hs; rcases h.1 with h | h <;> omega
      | _ => exact (At.six this).1.1
    have HT := hid (htake_at hx hs h); clear h; generalize stepH s x = s' at *
    cases s' with
    | bad f =>
      have hf : ((f : Int) != 0) = true := by rcases hwf with rfl | rfl <;> rfl
      have HT' := HT; simp only [errH, endH] at HT' ⊢; clear HT; go_enter Tryz.func149, Tryz.ntmps149; (go_wp2_with fail); refine HT'.out.mono ?_; rintro e w1 ⟨rfl, _, ⟨e1, p1, m1, q1, l1, v1, hA⟩, hS⟩; have HP : Hid (HPost w b o (.bad f) _) := hid ⟨⟨hwf, (hd_all hA f 0 0 false 0 0).1⟩, hS.trans (hd_all hA f 0 0 false 0 0).2⟩; obtain ⟨⟨c0, f0⟩, ⟨c1, f1⟩, ⟨c2, f2⟩, ⟨c3, f3⟩, ⟨c4, f4⟩, ⟨c5, f5⟩⟩ := hA.six; clear hA hS HT' hwf hs hc0; go_wp2; go_ret2; exact ⟨rfl, HP.out⟩
    | new =>
      have HT' := HT; simp only [errH, endH] at HT' ⊢; clear HT; go_enter Tryz.func149, Tryz.ntmps149; (go_wp2_with fail); refine HT'.out.mono ?_; rintro e w1 ⟨rfl, hP, _, hS⟩; have hP : HAt w1 b o .new := hP.elim (fun ⟨_, h⟩ => by cases h) id; obtain ⟨⟨c0, f0⟩, ⟨c1, f1⟩, _⟩ := At.six hP.2; have HP : Hid (HPost w b o .new w1) := hid ⟨hP, hS⟩; clear hP hS HT' hwf hs hc0; go_wp2; go_ret2; exact ⟨rfl, HP.out⟩
    | mid m n v =>
      have HT' := HT; simp only [errH, endH] at HT' ⊢; clear HT; go_enter Tryz.func149, Tryz.ntmps149; (go_wp2_with fail); refine HT'.out.mono ?_; rintro e w1 ⟨rfl, hP, _, hS⟩; have hP : HAt w1 b o (.mid m n v) := hP.elim (fun ⟨_, h⟩ => by cases h) id; obtain ⟨⟨c0, f0⟩, ⟨c1, f1⟩, _⟩ := At.six hP.2; have HP : Hid (HPost w b o (.mid m n v) w1) := hid ⟨hP, hS⟩; clear hP hS HT' hwf hs hc0; go_wp2; go_ret2; exact ⟨rfl, HP.out⟩
    | fin m v q =>
      have HT' := HT; simp only [errH, endH] at HT' ⊢; clear HT; go_enter Tryz.func149, Tryz.ntmps149; (go_wp2_with fail); refine HT'.out.mono ?_; rintro e w1 ⟨rfl, hP, _, hS⟩; have hP : HAt w1 b o (.fin m v q) := hP.elim (fun ⟨_, h⟩ => by cases h) id; obtain ⟨⟨c0, f0⟩, ⟨c1, f1⟩, _⟩ := At.six hP.2; have HP : Hid (HPost w b o (.fin m v q) w1) := hid ⟨hP, hS⟩; clear hP hS HT' hwf hs hc0; go_wp2; go_ret2; exact ⟨rfl, HP.out⟩
  · cases s with
    | bad f =>
      have hf : ((f : Int) != 0) = true := by rcases h.1 with rfl | rfl <;> rfl
      obtain ⟨⟨c0, f0⟩, _⟩ := At.six h.2; have HP : Hid (HPost w b o (.bad f) w) := hid ⟨h, Sub.refl _ _ _ _⟩; clear h hs; show Calls _ _ _ _ fun e w' => e = .returned (.tuple #[.bool false, .int .i64 f]) ∧ HPost w b o (.bad f) w'
      have HQ : ∀ q, Hid (HPost w b o (.bad f) (w.drewN q)) := fun q => hid ⟨HP.out.1.drewN q, HP.out.2.drewN q⟩
      clear HP; go_enter Tryz.func149, Tryz.ntmps149; (go_wp2_with fail)
      go_quiet (fail)
      go_wp2; go_ret2; exact ⟨rfl, (HQ _).out⟩
    | _ => exact absurd rfl hs
end
section
open Go.RowKit
open Go.Lib
structure PP (w : World) (b o D pl kd nm fm : Nat) (h : Hd) (tk lk : Nat) (vt : Value) (t : List UInt8) (u : Option (Nat × Nat × Nat)) (vs : Value) (n : Nat) (xs : List Value) : Prop where
  a : At w b o [.int .i64 0, .int .i64 D, .int .i64 pl]
  it : At w b (o + 3) [.int .i64 kd, .int .u64 nm, .int .u8 fm]
  hd : HAt w b (o + 6) h
  tx : At w b (o + 12) [.int .i64 tk, .int .i64 lk, vt]
  ck : CAt w b (o + 15) u
  op : NsP w b (o + 19) vs n xs
  wt : Win w 5 1 vt t.length (bCells t)
  ft : b ∉ Value.owner vt
theorem PP.lt {w : World} {b o D pl kd nm fm : Nat} {h : Hd} {tk lk : Nat} {vt : Value} {t : List UInt8} {u : Option (Nat × Nat × Nat)} {vs : Value} {n : Nat} {xs : List Value} (c : PP w b o D pl kd nm fm h tk lk vt t u vs n xs) : b < w.heap.size := c.hd.lt
theorem PP.go {w : World} {b o D pl kd nm fm : Nat} {h : Hd} {tk lk : Nat} {vt : Value} {t : List UInt8} {u : Option (Nat × Nat × Nat)} {vs : Value} {n : Nat} {xs : List Value} {w' : World} (c : PP w b o D pl kd nm fm h tk lk vt t u vs n xs) (k : Below w.heap.size w w') : PP w' b o D pl kd nm fm h tk lk vt t u vs n xs := by
  have hk := k.block b c.lt; exact ⟨c.a.keep hk, c.it.keep hk, c.hd.keep hk, c.tx.keep hk, c.ck.keep hk, c.op.keep k, c.wt.keep fun i hi => k.block i (c.wt.lt i hi), c.ft⟩
theorem PP.apart {w : World} {b o D pl kd nm fm : Nat} {h : Hd} {tk lk : Nat} {vt : Value} {t : List UInt8} {u : Option (Nat × Nat × Nat)} {vs : Value} {n : Nat} {xs : List Value} (c : PP w b o D pl kd nm fm h tk lk vt t u vs n xs) : ∀ k ∈ Value.owner vs, k ∉ Value.owner vt := c.wt.apart2 c.op.win (by decide)
theorem PP.cells {w : World} {b o D pl kd nm fm : Nat} {h : Hd} {tk lk : Nat} {vt : Value} {t : List UInt8} {u : Option (Nat × Nat × Nat)} {vs : Value} {n : Nat} {xs : List Value} (c : PP w b o D pl kd nm fm h tk lk vt t u vs n xs) :
    ((w.cell? ⟨b, o, none⟩ = some (.int .i64 0) ∧ w.frozen? ⟨b, o, none⟩ = false) ∧ (w.cell? ⟨b, o + 1, none⟩ = some (.int .i64 D) ∧ w.frozen? ⟨b, o + 1, none⟩ = false) ∧ (w.cell? ⟨b, o + 2, none⟩ = some (.int .i64 pl) ∧ w.frozen? ⟨b, o + 2, none⟩ = false)) ∧
    ((w.cell? ⟨b, o + 3, none⟩ = some (.int .i64 kd) ∧ w.frozen? ⟨b, o + 3, none⟩ = false) ∧ (w.cell? ⟨b, o + 3 + 1, none⟩ = some (.int .u64 nm) ∧ w.frozen? ⟨b, o + 3 + 1, none⟩ = false) ∧ (w.cell? ⟨b, o + 3 + 2, none⟩ = some (.int .u8 fm) ∧ w.frozen? ⟨b, o + 3 + 2, none⟩ = false)) ∧
    ((w.cell? ⟨b, o + 12, none⟩ = some (.int .i64 tk) ∧ w.frozen? ⟨b, o + 12, none⟩ = false) ∧ (w.cell? ⟨b, o + 12 + 1, none⟩ = some (.int .i64 lk) ∧ w.frozen? ⟨b, o + 12 + 1, none⟩ = false) ∧ (w.cell? ⟨b, o + 12 + 2, none⟩ = some vt ∧ w.frozen? ⟨b, o + 12 + 2, none⟩ = false)) ∧
    (w.cell? ⟨b, o + 19, none⟩ = some vs ∧ w.frozen? ⟨b, o + 19, none⟩ = false) :=
  ⟨⟨c.a 0 _ rfl, c.a 1 _ rfl, c.a 2 _ rfl⟩, ⟨c.it 0 _ rfl, c.it 1 _ rfl, c.it 2 _ rfl⟩, ⟨c.tx 0 _ rfl, c.tx 1 _ rfl, c.tx 2 _ rfl⟩, c.op.ptr 0 _ rfl⟩
theorem PP.setA {w : World} {b o D pl kd nm fm : Nat} {h : Hd} {tk lk : Nat} {vt : Value} {t : List UInt8} {u : Option (Nat × Nat × Nat)} {vs : Value} {n : Nat} {xs : List Value} (c : PP w b o D pl kd nm fm h tk lk vt t u vs n xs) {w' : World} (k : Sub b o 3 w w') {pl' : Nat} (ha : At w' b o [.int .i64 0, .int .i64 D, .int .i64 pl']) : PP w' b o D pl' kd nm fm h tk lk vt t u vs n xs :=
  ⟨ha, c.it.sub k (by omega), c.hd.sub k (by omega), c.tx.sub k (by omega), c.ck.sub k (by omega), c.op.subg (k.subg []) (by omega) (by simp), c.wt.subg (k.subg []) c.ft (by simp), c.ft⟩
theorem PP.setPl {w : World} {b o D pl kd nm fm : Nat} {h : Hd} {tk lk : Nat} {vt : Value} {t : List UInt8} {u : Option (Nat × Nat × Nat)} {vs : Value} {n : Nat} {xs : List Value} (c : PP w b o D pl kd nm fm h tk lk vt t u vs n xs) (p : Nat) : PP (w.setCell ⟨b, o + 2, none⟩ (.int .i64 p)) b o D p kd nm fm h tk lk vt t u vs n xs :=
  c.setA (sub_setCell w (o + 2) _ (by omega)) (c.a.set 2 (by simp) _)
theorem PP.setIt {w : World} {b o D pl kd nm fm : Nat} {h : Hd} {tk lk : Nat} {vt : Value} {t : List UInt8} {u : Option (Nat × Nat × Nat)} {vs : Value} {n : Nat} {xs : List Value} (c : PP w b o D pl kd nm fm h tk lk vt t u vs n xs) {w' : World} (k : Sub b (o + 3) 3 w w') {kd' nm' fm' : Nat} (ha : At w' b (o + 3) [.int .i64 kd', .int .u64 nm', .int .u8 fm']) : PP w' b o D pl kd' nm' fm' h tk lk vt t u vs n xs :=
  ⟨c.a.sub k (by simp), ha, c.hd.sub k (by omega), c.tx.sub k (by omega), c.ck.sub k (by omega), c.op.subg (k.subg []) (by omega) (by simp), c.wt.subg (k.subg []) c.ft (by simp), c.ft⟩
theorem PP.setHd {w : World} {b o D pl kd nm fm : Nat} {h : Hd} {tk lk : Nat} {vt : Value} {t : List UInt8} {u : Option (Nat × Nat × Nat)} {vs : Value} {n : Nat} {xs : List Value} (c : PP w b o D pl kd nm fm h tk lk vt t u vs n xs) {w' : World} (k : Sub b (o + 6) 6 w w') {h' : Hd} (ha : HAt w' b (o + 6) h') : PP w' b o D pl kd nm fm h' tk lk vt t u vs n xs :=
  ⟨c.a.sub k (by simp), c.it.sub k (by simp), ha, c.tx.sub k (by omega), c.ck.sub k (by omega), c.op.subg (k.subg []) (by omega) (by simp), c.wt.subg (k.subg []) c.ft (by simp), c.ft⟩
theorem PP.setTx {w : World} {b o D pl kd nm fm : Nat} {h : Hd} {tk lk : Nat} {vt : Value} {t : List UInt8} {u : Option (Nat × Nat × Nat)} {vs : Value} {n : Nat} {xs : List Value} (c : PP w b o D pl kd nm fm h tk lk vt t u vs n xs) {w' : World} {g : List Nat} (k : Subg g b (o + 12) 7 w w') (hg : ∀ x ∈ Value.owner vs, x ∉ g) {tk' lk' : Nat} {vt' : Value} {t' : List UInt8} {u' : Option (Nat × Nat × Nat)}
    (ha : At w' b (o + 12) [.int .i64 tk', .int .i64 lk', vt']) (hk : CAt w' b (o + 15) u') (hw : Win w' 5 1 vt' t'.length (bCells t')) (hf : b ∉ Value.owner vt') : PP w' b o D pl kd nm fm h tk' lk' vt' t' u' vs n xs :=
  ⟨c.a.subg k (by simp), c.it.subg k (by simp), c.hd.map fun vs hv h => h.subg k (by omega), ha, hk, c.op.subg k (by omega) hg, hw, hf⟩
theorem PP.setOp {w : World} {b o D pl kd nm fm : Nat} {h : Hd} {tk lk : Nat} {vt : Value} {t : List UInt8} {u : Option (Nat × Nat × Nat)} {vs : Value} {n : Nat} {xs : List Value} (c : PP w b o D pl kd nm fm h tk lk vt t u vs n xs) {w' : World} {g : List Nat} (k : Subg g b (o + 19) 1 w w') (hg : ∀ x ∈ Value.owner vt, x ∉ g) {vs' : Value} {n' : Nat} {xs' : List Value} (ha : NsP w' b (o + 19) vs' n' xs') : PP w' b o D pl kd nm fm h tk lk vt t u vs' n' xs' :=
  ⟨c.a.subg k (by simp), c.it.subg k (by simp), c.hd.map fun vs hv h => h.subg k (by omega), c.tx.subg k (by simp), (by
    refine c.ck.map fun vs hv h => h.subg k (by omega)), ha, c.wt.subg k c.ft hg, c.ft⟩
theorem PP.drewN {w : World} {b o D pl kd nm fm : Nat} {h : Hd} {tk lk : Nat} {vt : Value} {t : List UInt8} {u : Option (Nat × Nat × Nat)} {vs : Value} {n : Nat} {xs : List Value} (c : PP w b o D pl kd nm fm h tk lk vt t u vs n xs) (q : Nat) : PP (w.drewN q) b o D pl kd nm fm h tk lk vt t u vs n xs := ⟨c.a, c.it, c.hd.drewN q, c.tx, (c.ck.map fun _ _ h => h), c.op.drewN q, c.wt, c.ft⟩
theorem PP.tx7 {w : World} {b o D pl kd nm fm : Nat} {h : Hd} {tk lk : Nat} {vt : Value} {t : List UInt8} {u : Option (Nat × Nat × Nat)} {vs : Value} {n : Nat} {xs : List Value} (c : PP w b o D pl kd nm fm h tk lk vt t u vs n xs) : Room w b (o + 12) 7 := by
  obtain ⟨n, lo, hi, hk⟩ := c.ck.cells; have := (At.append c.tx (us := ckCells n lo hi u.isNone) hk).room (by simp); simpa [ckCells] using this
theorem PP.room {w : World} {b o D pl kd nm fm : Nat} {h : Hd} {tk lk : Nat} {vt : Value} {t : List UInt8} {u : Option (Nat × Nat × Nat)} {vs : Value} {n : Nat} {xs : List Value} (c : PP w b o D pl kd nm fm h tk lk vt t u vs n xs) : Room w b o 20 := by
  obtain ⟨n, lo, hi, hk⟩ := c.ck.cells; have h1 := At.append c.tx (us := ckCells n lo hi u.isNone) hk; have h2 := At.append h1 (us := [vs]) (by simpa [ckCells] using c.op.ptr); have h3 := At.append c.hd.2 (us := _) (by rw [hdCells_len]; exact h2); have h4 := At.append c.it h3; have h5 := At.append c.a h4; have := h5.room (by simp); simpa [ckCells, hdCells_len] using this
def tkT (m : Bool) : Nat := if m = true then 8 else 7
theorem ppart_at {w : World} {b o : Nat} {m : Bool} {lk : Nat} {vt : Value} {t : List UInt8} (hA : At w b o [.int .i64 (tkT m : Nat), .int .i64 lk, vt]) (hW : Win w 5 1 vt t.length (bCells t)) :
    Calls Tryz.prog 198 #[.pointer (some ⟨b, o, none⟩)] w fun r w' => r = .returned (valE (evTxC m t)) ∧ w = w' := by
  have c0 := (hA 0 _ rfl).1; have c2 := (hA 2 _ rfl).1; simp only [Nat.add_zero] at c0; cases m with
  | true =>
    have hcv := conv_as (T := 176) Tryz.underlying176 hW; rw [show valE (evTxC true t) = .iface 176 (.string ⟨t.toArray⟩) from rfl]; obtain ⟨a, cp, rfl, _, _⟩ := hW.slice_form; simp only [tkT] at c0; generalize (⟨t.toArray⟩ : ByteArray) = X at *
    clear hA hW; go_enter Tryz.func198, Tryz.ntmps198; go_wp2; go_ret; exact ⟨rfl, rfl⟩
  | false =>
    have hcv := conv_as (T := 178) Tryz.underlying178 hW; rw [show valE (evTxC false t) = .iface 178 (.string ⟨t.toArray⟩) from rfl]; obtain ⟨a, cp, rfl, _, _⟩ := hW.slice_form; simp only [tkT] at c0; generalize (⟨t.toArray⟩ : ByteArray) = X at *
    clear hA hW; go_enter Tryz.func198, Tryz.ntmps198; go_wp2; go_ret; exact ⟨rfl, rfl⟩
end
section
open Go.RowKit
open Go.Lib
structure EndsJ (w0 w wr : World) (b o D pl : Nat) (kd nm fm : Nat) (h : Hd) (tk lk : Nat) (vt : Value) (t : List UInt8) (u : Option (Nat × Nat × Nat)) (v vs' : Value) (q : List Bx) (L : List Ev) (j : Nat) (v1 : Value) (g : List Nat) : Prop where
  cp : PP wr b o D pl kd nm fm h tk lk vt t u vs' q.length (inP q)
  vls : Vls w0 wr v1 (L ++ List.replicate j evEnd)
  sub : Subg g b o 20 w wr
  size : w0.heap.size ≤ wr.heap.size
theorem EndsJ.next {w0 w wr w3 : World} {b o D pl : Nat} {kd nm fm : Nat} {h : Hd} {tk lk : Nat} {vt : Value} {t : List UInt8} {u : Option (Nat × Nat × Nat)} {v vs' : Value} {q : List Bx} {L : List Ev} {j : Nat} {v1 v3 : Value} {vs : Value} {ob : Obj}
    (I : EndsJ w0 w wr b o D pl kd nm fm h tk lk vt t u v vs' q L j v1 (Value.owner v ++ Value.owner vs))
    (hv1 : ∀ k ∈ Value.owner v1, k ∈ Value.owner v ∨ w.heap.size ≤ k) (hb0 : b < w0.heap.size) (hvt : ∀ k ∈ Value.owner vt, k < w0.heap.size) (hvs : ∀ k ∈ Value.owner vs', k < w0.heap.size)
    (hW : Win w3 20 1 v3 (L.length + j + 1) ((L ++ List.replicate j evEnd).map valE ++ [valE evEnd])) (hG : (wr.alloc ob).grownBy w3 v1.ownBlock) (hO : v3.ownBlock = v1.ownBlock ∨ v3.ownBlock = some (wr.alloc ob).heap.size ∧ (wr.alloc ob).heap.size < w3.heap.size) :
    EndsJ w0 w w3 b o D pl kd nm fm h tk lk vt t u v vs' q L (j + 1) v3 (Value.owner v ++ Value.owner vs) ∧ (∀ k ∈ Value.owner v3, k ∈ Value.owner v ∨ w.heap.size ≤ k) := by
  have hz : (wr.alloc ob).heap.size = wr.heap.size + 1 := by simp
  have hkeep : ∀ k, k < w0.heap.size → w3.heap[k]? = wr.heap[k]? := fun k hk => by
    have hk2 : k < wr.heap.size := Nat.lt_of_lt_of_le hk I.size; refine (hG.block k (by omega) (fun e => ?_)).trans (Below.heap_alloc wr ob k hk2); have := I.vls.new k ((ob_iff _ _).1 e.symm); omega
  have hB : Below w0.heap.size wr w3 := ⟨hG.os, hG.tape, hG.output, by have := hG.size; omega, hkeep⟩
  have hw := I.sub.size; refine ⟨⟨?_, ?_, ?_, by have := hG.size; have := I.size; omega⟩, fun k hk => ?_⟩
  · have hk := hkeep b hb0
    exact ⟨I.cp.a.keep hk, I.cp.it.keep hk, I.cp.hd.keep hk, I.cp.tx.keep hk, I.cp.ck.keep hk, ⟨I.cp.op.ptr.keep hk, I.cp.op.win.keep fun k hx => hkeep k (hvs k hx), I.cp.op.far⟩, I.cp.wt.keep fun k hx => hkeep k (hvt k hx), I.cp.ft⟩
  · rw [List.replicate_succ', ← List.append_assoc]
    refine vls_more (K := [evEnd]) (w := wr.alloc ob) (n := L.length + j) (m := 1) ((I.vls.go ((Below.refl _ _).alloc (Nat.le_refl _) ob))) (by simp) rfl (by have := I.size; omega) ?_ hO; simpa using hW
  · have h1 : Subg (Value.owner v1) b o 20 wr w3 :=
      (subg_below ((Below.refl _ _).alloc (Nat.le_refl _) ob) I.cp.lt _ _ _).tr (subg_grown hG (fun k hk => (ob_iff _ _).1 hk) (fun e => by have := I.vls.new b ((ob_iff _ _).1 e); omega) (by have := I.cp.lt; omega))
    refine I.sub.trans h1 (fun k hk => ?_); exact (hv1 k hk).imp (fun h => List.mem_append.2 (.inl h)) id
  · rcases hO with e | ⟨e, _⟩
    · exact hv1 k ((ob_iff _ _).1 (e ▸ (ob_iff _ _).2 hk))
    · have h2 := (ob_iff _ _).2 hk
      rw [e] at h2; cases h2; exact .inr (by omega)
structure EndsQ (w0 w w' : World) (b o D : Nat) (kd nm fm : Nat) (h : Hd) (tk lk : Nat) (vt : Value) (t : List UInt8) (u : Option (Nat × Nat × Nat)) (v vs : Value) (s : List Bx) (L : List Ev) (x : Value) : Prop where
  cp : ∃ vs', PP w' b o D (plE (restC s)) kd nm fm h tk lk vt t u vs' (restC s).length (inP (restC s)) ∧ Value.owner vs' = Value.owner vs
  vls : Vls w0 w' x (L ++ endsC s)
  sub : Subg (Value.owner v ++ Value.owner vs) b o 20 w w'
theorem pends_at {w0 w : World} {b o D pl : Nat} {kd nm fm : Nat} {h : Hd} {tk lk : Nat} {vt : Value} {t : List UInt8} {u : Option (Nat × Nat × Nat)} {vs : Value} {s : List Bx} {v : Value} {L : List Ev} (c : PP w b o D pl kd nm fm h tk lk vt t u vs s.length (outP s)) (hV : Vls w0 w v L) (hL : L.length ≤ 2) (hs : w0.heap.size ≤ w.heap.size) (hb0 : b < w0.heap.size) (hvt : ∀ k ∈ Value.owner vt, k < w0.heap.size) (hvs : ∀ k ∈ Value.owner vs, k < w0.heap.size)
    (hk : OutP s) :
    Calls Tryz.prog 196 #[.pointer (some ⟨b, o, none⟩), v] w fun r w' => ∃ x, r = .returned x ∧ EndsQ w0 w w' b o D kd nm fm h tk lk vt t u v vs s L x := by
  have hE := pendItem_at c.op hk; have hnum : numC s ≤ 16 := by
    have : ∀ s : List Bx, numC s ≤ s.length := by
      intro s
      induction s with
      | nil => simp [numC]
      | cons b r ih => simp only [numC, List.length_cons]; split <;> omega
    have := this s; have := hk.deep; omega
  have HE := hid hE; have H := hid (And.intro c (And.intro hV (And.intro hL (And.intro hs (And.intro hb0 (And.intro hvt hvs)))))); obtain ⟨N, hN⟩ : ∃ N, numC s = N := ⟨_, rfl⟩
  have HNN := hid hN; rw [hN] at HE hnum; obtain ⟨n0, hn0⟩ : ∃ n0, L.length = n0 := ⟨_, rfl⟩
  have HN0 := hid hn0; have hn2 : n0 ≤ 2 := by omega
  obtain ⟨a, cp, hv⟩ := hV.form; rw [hn0] at hv; subst hv; clear hE hN c hV hL hs hb0 hvt hvs hk hn0; go_enter Tryz.func196, Tryz.ntmps196; (go_wp2_with fail); refine HE.out.mono ?_; rintro r w1 ⟨rfl, vs', hN1, ho1, hS1⟩; have hI : EndsJ w0 w w1 b o D pl kd nm fm h tk lk vt t u (.slice a n0 cp) vs' (restC s) L 0 (.slice a n0 cp) (Value.owner (.slice a n0 cp) ++ Value.owner vs) := by
    obtain ⟨c, hV, hL, hs, hb0, hvt, hvs⟩ := H.out; have hne : ∀ x ∈ Value.owner (.slice a n0 cp), x ≠ b ∧ x ∉ Value.owner vs := fun x hx => by
      have h1 := hV.new x hx; exact ⟨by omega, fun h2 => by have := hvs x h2; omega⟩
    refine ⟨c.setOp hS1 (fun x hx h2 => c.apart x h2 hx) hN1, ?_, hS1.widen (fun x hx => List.mem_append.2 (.inr hx)) (by omega) (by omega), Nat.le_trans hs hS1.size⟩; rw [List.replicate_zero, List.append_nil]; exact ⟨hV.win.keep fun k hk => hS1.block k (hV.win.lt k hk) (hne k hk).1 (hne k hk).2, hV.new⟩
  have HI := hid hI; have HO := hid ho1; clear hN1 ho1 hS1 hI HE; go_wp2
  go_loopw [1, 9] (fun l i wr => ∃ (j : Nat) (a1 : Option Addr) (c1 : Nat), l = .slice a1 (n0 + j) c1 ∧ i = .int .i64 j ∧ j ≤ N ∧ Hid (EndsJ w0 w wr b o D pl kd nm fm h tk lk vt t u (.slice a n0 cp) vs' (restC s) L j (.slice a1 (n0 + j) c1) (Value.owner (.slice a n0 cp) ++ Value.owner vs) ∧ (∀ k ∈ Value.owner (.slice a1 (n0 + j) c1), k ∈ Value.owner (.slice a n0 cp) ∨ w.heap.size ≤ k))) (fun _ i _ => N - (RowKit.intOf i).toNat)
  case atStart => exact ⟨0, a, cp, rfl, rfl, by omega, hid ⟨HI.out, fun k hk => .inl hk⟩⟩
  case round =>
    obtain ⟨j, a1, c1, rfl, rfl, hj, HR⟩ := hrel; clear HI; by_cases hlt : j < N
    · have hwin : Hid (∀ ob, Win (wr.alloc ob) 20 1 (.slice a1 (n0 + j) c1) (n0 + j) ((L ++ List.replicate j evEnd).map valE)) := hid (fun ob => by
        have := HR.out.1.vls.win.alloc ob; simpa [HN0.out] using this)
      go_wp2_with (at_builtin; refine wpList_append_win rfl _ _ _ rfl Tryz.underlying67 info_any rfl rfl (hwin.out _) _ rfl 1 _ (src_new _ Tryz.underlying67 1 1 [valE evEnd] 20 _ rfl (vals_one [evEnd]) (heap_alloc_new _ _)) ?e1 ?e2 ?_)
      case e1 => unfold maxLen; omega
      case e2 => omega
      intro v3 w3 hW3 hG3 hO3; have hX := HR.out.1.next (vs := vs) HR.out.2 H.out.2.2.2.2.1 H.out.2.2.2.2.2.1 (by rw [HO.out]; exact H.out.2.2.2.2.2.2) (by rw [HN0.out]; simpa using hW3.out) hG3.out (by simpa using hO3.out); obtain ⟨a3, c3, rfl, _, _⟩ := Win.slice_form hW3.out; have H3 := hid hX; clear hW3 hG3 hO3 hX; go_wp2
      go_roundw
      case rel => exact ⟨j + 1, a3, c3, by rw [Nat.add_assoc], rfl, hlt, hid (by have := H3.out; rwa [Nat.add_assoc] at this)⟩
      case measure => simp [RowKit.intOf]; omega
    · obtain rfl : j = N := by omega
      have hF := HR.out.1.cp; obtain ⟨⟨_, _, ⟨c2, f2⟩⟩, _, _, c19, f19⟩ := hF.cells; have hlen := HR.out.1.cp.op.win.slice_form; obtain ⟨a5, c5, rfl, _, _⟩ := hlen; have HF := hid hF; have hfin : Hid (∀ x wq q, PP wq b o D (plE (restC s)) kd nm fm h tk lk vt t u (.slice a5 (restC s).length c5) (restC s).length (inP (restC s)) → Sub b o 20 wr wq → x = (Value.slice a1 (n0 + j) c1) → EndsQ w0 w (wq.drewN q) b o D kd nm fm h tk lk vt t u (.slice a n0 cp) vs s L x) := hid (by
        rintro x wq q hc hs rfl; refine ⟨⟨_, hc.drewN q, HO.out⟩, ?_, (HR.out.1.sub.tr (hs.subg _)).drewN q⟩; have := HR.out.1.vls.sub hs H.out.2.2.2.2.1; unfold endsC; rw [HNN.out]; exact ⟨this.win, this.new⟩)
      by_cases he : (restC s).length = 0
      · have hp : plE (restC s) = 3 := by unfold plE; rw [if_pos (by simpa using he)]
        rw [hp] at hfin; have HP := hid (And.intro ((hF.setPl 0).setPl 3) ((sub_setCell (b := b) (o := o) (n := 20) wr (o + 2) (.int .i64 0) (by omega)).setCell (o + 2) (.int .i64 3) (by omega))); have hz : ((restC s).length : Int) = 0 := by omega
        have hz2 : (((restC s).length : Int) == 0) = true := by rw [hz]; rfl
        generalize (restC s).length = K at *
        clear HR hF HF hz he hp; go_wp2; go_ret; exact ⟨_, rfl, hfin.out _ _ 0 HP.out.1 HP.out.2 rfl⟩
      · have hp : plE (restC s) = 0 := by unfold plE; rw [if_neg (by simpa using he)]
        rw [hp] at hfin; have HP := hid (And.intro (hF.setPl 0) (sub_setCell (b := b) (o := o) (n := 20) wr (o + 2) (.int .i64 0) (by omega))); have hz2 : (((restC s).length : Int) == 0) = false := by rw [beq_eq_false_iff_ne]; omega
        generalize (restC s).length = K at *
        clear HR hF HF he hp; go_wp2; go_ret; exact ⟨_, rfl, hfin.out _ _ 0 HP.out.1 HP.out.2 rfl⟩
end
end Go.Proofs.YtkgconbdmnmbnaaGreat
