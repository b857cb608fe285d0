/-
  THE DOCUMENT'S OWN READER (truchmanref1.in), where no container is open: of, size, end.
-/
import Derived.Test.YtonjdnahplphhaaHPoRd
/-
  THE DOCUMENT'S OWN READER (truchmanref1.in), where no container is open: of, size, end.
-/
namespace Go.Proofs.Ytonjdnahplphhaa
open Go.RowKit
open Go.Lib
theorem idx_rd (l : List UInt8) (j : Nat) (hj : j < l.length) (W : World) : (Instr.index 9 (.string ⟨l.toArray⟩) (.int .i64 (j : Int))).run Try.prog W = .ok (.int .u8 (l[j].toNat : Int)) W := by
  rw [run_index_string W 9 ⟨l.toArray⟩ .i64 (j : Int) Try.underlying9, dif_pos (by show 0 ≤ (j : Int) ∧ (j : Int) < ((l.toArray.size : Nat) : Int); simp; omega)]
  rfl
theorem pow256 : ∀ j, j < 8 → 256 ^ j ≤ 72057594037927936 := fun j hj => by
  have : j = 0 ∨ j = 1 ∨ j = 2 ∨ j = 3 ∨ j = 4 ∨ j = 5 ∨ j = 6 ∨ j = 7 := by omega
  rcases this with h | h | h | h | h | h | h | h <;> subst h <;> decide
set_option maxRecDepth 100000 in
set_option maxHeartbeats 1000000 in
/-- OF: the number of up to eight bytes. -/
theorem rof_any (l : List UInt8) (hl : l.length ≤ 8) (w : World) :
    Calls Try.prog 74 #[.string ⟨l.toArray⟩] w fun e w' => e = .returned (.int .u64 (valB 0 l : Nat)) ∧ w = w' := by
  obtain ⟨n, hn⟩ : ∃ n, l.length = n := ⟨_, rfl⟩
  have hsz : (⟨l.toArray⟩ : ByteArray).size = n := by rw [size_of, hn]
  have HI := Lib.hid (fun j hj => idx_rd l j hj)
  have HN := Lib.hid hn
  have HV : Hid (∀ j, ∀ h : j < l.length, valB 0 (l.take (j + 1)) = valB 0 (l.take j) * 256 + l[j].toNat ∧ valB 0 (l.take j) < 72057594037927936) := Lib.hid (fun j h => by
    refine ⟨?_, ?_⟩
    · rw [List.take_add_one, List.getElem?_eq_getElem h, valB_append]
      rfl
    · have h1 := valB_lt (l.take j)
      rw [List.length_take, Nat.min_eq_left (by omega)] at h1
      exact Nat.lt_of_lt_of_le h1 (pow256 j (by omega)))
  have hend : valB 0 (l.take n) = valB 0 l := by rw [← hn, List.take_length]
  have HD := Lib.hid hend
  have hz : valB 0 (l.take 0) = 0 := rfl
  have HZ := Lib.hid hz
  generalize (⟨l.toArray⟩ : ByteArray) = X at *
  clear hend hz hn
  go_enter Try.func74, Try.ntmps74
  go_wp2
  go_loopw [3, 4] (fun v i wr => ∃ j : Nat, i = .int .i64 j ∧ v = .int .u64 ((valB 0 (l.take j) : Nat) : Int) ∧ j ≤ n ∧ w = wr) (fun _ i _ => n - (RowKit.intOf i).toNat)
  case atStart => exact ⟨0, rfl, by rw [HZ.out]; rfl, Nat.zero_le _, rfl⟩
  case round =>
    obtain ⟨j, rfl, rfl, hj, rfl⟩ := hrel
    by_cases hlt : j < n
    · have hlt2 : j < l.length := by rw [HN.out]; exact hlt
      have hix := HI.out j hlt2
      obtain ⟨h1, h2⟩ := HV.out j hlt2
      have hb := l[j].toNat_lt
      have H1 := Lib.hid h1
      clear h1 HI HV
      generalize l[j].toNat = b at *
      generalize valB 0 (l.take j) = V at *
      have q1 : IntKind.u64.wrap ((V : Int) * 256) = (V : Int) * 256 := by simp only [IntKind.wrap_u64]; omega
      have q2 : IntKind.u64.wrap (b : Int) = (b : Int) := by simp only [IntKind.wrap_u64]; omega
      have q3 : IntKind.u64.wrap ((V : Int) * 256 + (b : Int)) = (V : Int) * 256 + (b : Int) := by simp only [IntKind.wrap_u64]; omega
      go_wp2
      go_roundw
      case rel => exact ⟨j + 1, rfl, by rw [H1.out]; go_num, hlt, by first | rfl | trivial⟩
      case measure => simp [RowKit.intOf]; omega
    · obtain rfl : j = n := by omega
      rw [HD.out]
      clear HI HV HD
      go_wp2
      go_ret
      exact ⟨rfl, rfl⟩
set_option maxRecDepth 100000 in
set_option maxHeartbeats 2000000 in
/-- SIZE: a number of n bytes that are there. -/
theorem rd_size {w0 w : World} {p r : Nat} {S : ByteArray} {i d : Nat} {v : Value} {L : List Ev} {dn : Bool} (h : RdAt w0 w p r S i d v L dn) (n : Nat) (l : List UInt8) (hl : l.length = n) (hn : n ≤ 8) (hi : i ≤ 100000) (hS : i + n ≤ S.size) (hx : S.extract i (i + n) = ⟨l.toArray⟩) :
    Calls Try.prog 60 #[.pointer (some ⟨p, 0, none⟩), .int .i64 (n : Int)] w fun e w' => e = .returned (.tuple #[.int .u64 (valB 0 l : Nat), .bool true]) ∧ RdAt w0 w' p r S (i + n) d v L dn := by
  obtain ⟨⟨c0, c1, c2, c3, c4⟩, g1, _, _⟩ := h.cells
  have hsl := fun W => slice_str_lh S i (i + n) (by omega) hS W
  rw [hx] at hsl
  have HO := Lib.hid (fun W => rof_any l (by omega) W)
  generalize valB 0 l = V at *
  generalize (⟨l.toArray⟩ : ByteArray) = X at *
  have H := Lib.hid h
  have t1 : ((S.size : Int) < (i : Int) + (n : Int)) = False := by simp only [eq_iff_iff, iff_false]; omega
  have hw : IntKind.i64.wrap ((i : Int) + (n : Int)) = (i : Int) + (n : Int) := by simp only [IntKind.wrap_i64]; omega
  have hc : ((i + n : Nat) : Int) = (i : Int) + (n : Int) := by omega
  rw [hc] at hsl
  have HC := Lib.hid hc
  clear h hl hn hi hS hx hc
  go_enter Try.func60, Try.ntmps60
  go_wp2_with fail
  go_quiet (fail)
  have H1 := Lib.hid (H.out.drewN nq)
  obtain ⟨⟨d0, d1, d2, d3, d4⟩, k1, _, _⟩ := H1.out.cells
  clear c0 c1 c2 c3 c4 g1 H
  generalize w.drewN nq = w1 at *
  have HQ : Hid (∀ q, Calls Try.prog 74 #[.string X] (w1.drewN q) fun e w' => e = .returned (.int .u64 (V : Nat)) ∧ w' = w1.drewN q) := Lib.hid (fun q => (HO.out (w1.drewN q)).mono (by
    rintro r w' ⟨a, b⟩
    exact ⟨a, b.symm⟩))
  go_wp2_with fail
  go_quiet ((first | (go_at_call 74; exact Calls.quiet_of_same (HQ.out _))))
  go_wp2
  go_ret2
  exact ⟨rfl, by have := (H1.out.drewN nq).to (i + n); rwa [HC.out] at this⟩
theorem RdAt.held {w0 w : World} {p r : Nat} {S : ByteArray} {i d : Nat} {v : Value} {L : List Ev} {dn : Bool} (h : RdAt w0 w p r S i d v L dn) : RdAt w0 (w.setCell ⟨r, 3, none⟩ (.int .i64 0)) p r S i d v L dn :=
  ⟨h.pc.keep (Below.heap_setCell w _ _ p (fun e => h.far.2.2 e)), by simpa using h.rc.set 3 (by simp) (.int .i64 0), h.win.setCell_far h.far.2.1 _, h.far, h.lo, h.bel.setCell h.lo.2 _⟩
/-- A store in a block that is none of the reader's. -/
theorem RdAt.other {w0 w : World} {p r : Nat} {S : ByteArray} {i d : Nat} {v : Value} {L : List Ev} {dn : Bool} (h : RdAt w0 w p r S i d v L dn) {b : Nat} (hb : b ≠ p ∧ b ≠ r ∧ b ∉ Value.owner v ∧ w0.heap.size ≤ b) (j : Nat) (u : Value) : RdAt w0 (w.setCell ⟨b, j, none⟩ u) p r S i d v L dn :=
  ⟨h.pc.keep (Below.heap_setCell w _ _ p (fun e => hb.1 e.symm)), h.rc.keep (Below.heap_setCell w _ _ r (fun e => hb.2.1 e.symm)), h.win.setCell_far hb.2.2.1 _, h.far, h.lo, h.bel.setCell hb.2.2.2 _⟩
set_option maxRecDepth 100000 in
set_option maxHeartbeats 2000000 in
/-- END. -/
theorem rd_end {w0 w : World} {p r : Nat} {S : ByteArray} {i d : Nat} {a : Option Addr} {n cp : Nat} {L : List Ev} {dn : Bool} (h : RdAt w0 w p r S i d (.slice a n cp) L dn) :
    Calls Try.prog 38 #[.pointer (some ⟨p, 0, none⟩)] w fun e w' => e = .returned (.agg #[.slice a n cp, .int .i64 0, .bool dn, .int .i64 0]) ∧ RdAt w0 w' p r S i d (.slice a n cp) L dn := by
  have hA := h.go (up_alloc (Below.refl w.heap.size w) (.cells #[.slice none 0 0, .int .i64 0, .bool false, .int .i64 0] 57))
  have hb := blk_new w #[.slice none 0 0, .int .i64 0, .bool false, .int .i64 0] 57
  obtain ⟨⟨c0, c1, c2, c3, c4⟩, g1, ⟨r0, r1, r2, r3⟩, ⟨g0, g2, g3⟩⟩ := hA.cells
  have x0 : (w.alloc (.cells #[.slice none 0 0, .int .i64 0, .bool false, .int .i64 0] 57)).cell? ⟨w.heap.size, 0, none⟩ = some (.slice none 0 0) := hb.cell 0
  have x1 : (w.alloc (.cells #[.slice none 0 0, .int .i64 0, .bool false, .int .i64 0] 57)).cell? ⟨w.heap.size, 1, none⟩ = some (.int .i64 0) := hb.cell 1
  have x2 : (w.alloc (.cells #[.slice none 0 0, .int .i64 0, .bool false, .int .i64 0] 57)).cell? ⟨w.heap.size, 2, none⟩ = some (.bool false) := hb.cell 2
  have x3 : (w.alloc (.cells #[.slice none 0 0, .int .i64 0, .bool false, .int .i64 0] 57)).cell? ⟨w.heap.size, 3, none⟩ = some (.int .i64 0) := hb.cell 3
  have y0 : (w.alloc (.cells #[.slice none 0 0, .int .i64 0, .bool false, .int .i64 0] 57)).frozen? ⟨w.heap.size, 0, none⟩ = false := hb.froz 0
  have y1 : (w.alloc (.cells #[.slice none 0 0, .int .i64 0, .bool false, .int .i64 0] 57)).frozen? ⟨w.heap.size, 1, none⟩ = false := hb.froz 1
  have y2 : (w.alloc (.cells #[.slice none 0 0, .int .i64 0, .bool false, .int .i64 0] 57)).frozen? ⟨w.heap.size, 2, none⟩ = false := hb.froz 2
  have y3 : (w.alloc (.cells #[.slice none 0 0, .int .i64 0, .bool false, .int .i64 0] 57)).frozen? ⟨w.heap.size, 3, none⟩ = false := hb.froz 3
  have hlt := h.lt
  have hne2 : p ≠ r := h.far.2.2
  have hrb : r ≠ w.heap.size := by omega
  have hpb : p ≠ w.heap.size := by omega
  have HOB : Hid (w.heap.size ≠ p ∧ w.heap.size ≠ r ∧ w.heap.size ∉ Value.owner (.slice a n cp) ∧ w0.heap.size ≤ w.heap.size) := Lib.hid ⟨fun e => hpb e.symm, fun e => hrb e.symm, fun hm => by have := h.win.lt _ hm; omega, h.bel.size⟩
  have H := Lib.hid (hA.held.drewN 1)
  have HB := Lib.hid hb
  have hw0 : IntKind.i64.wrap 0 = 0 := rfl
  clear h hA hb hlt
  go_enter Try.func38, Try.ntmps38
  go_wp2_with fail
  generalize (w.alloc (.cells #[.slice none 0 0, .int .i64 0, .bool false, .int .i64 0] 57)) = W at *
  generalize w.heap.size = b at *
  refine wp_region_tail 19 (by kernel_rfl) (by kernel_rfl) ?_
  simp only [List.take_succ_cons, List.take_zero, List.drop_succ_cons, List.drop_zero]
  repeat still_step
  refine wpStill_nil ?_
  go_wp2
  have hB5 : Blk (((((W.setCell ⟨r, 3, none⟩ (.int .i64 0)).setCell ⟨b, 0, none⟩ (.slice a n cp)).setCell ⟨b, 1, none⟩ (.int .i64 0)).setCell ⟨b, 2, none⟩ (.bool dn)).setCell ⟨b, 3, none⟩ (.int .i64 0)).drew b #[.slice a n cp, .int .i64 0, .bool dn, .int .i64 0] 57 :=
    Blk.drew (((((HB.out.far (fun e => hrb e.symm) _).set 0 _).set 1 _).set 2 _).set 3 _)
  have H5 := Lib.hid (((((H.out.other HOB.out 0 (.slice a n cp)).other HOB.out 1 (.int .i64 0)).other HOB.out 2 (.bool dn)).other HOB.out 3 (.int .i64 0)))
  have z0 := hB5.cell 0
  have z1 := hB5.cell 1
  have z2 := hB5.cell 2
  have z3 := hB5.cell 3
  have H6 : Hid (RdAt w0 (((((W.setCell ⟨r, 3, none⟩ (.int .i64 0)).setCell ⟨b, 0, none⟩ (.slice a n cp)).setCell ⟨b, 1, none⟩ (.int .i64 0)).setCell ⟨b, 2, none⟩ (.bool dn)).setCell ⟨b, 3, none⟩ (.int .i64 0)).drew p r S i d (.slice a n cp) L dn) := H5
  generalize (((((W.setCell ⟨r, 3, none⟩ (.int .i64 0)).setCell ⟨b, 0, none⟩ (.slice a n cp)).setCell ⟨b, 1, none⟩ (.int .i64 0)).setCell ⟨b, 2, none⟩ (.bool dn)).setCell ⟨b, 3, none⟩ (.int .i64 0)).drew = w5 at *
  simp [bodyPost, results, Try.results38, go_sem, z0, z1, z2, z3]
  exact H6.out
end Go.Proofs.Ytonjdnahplphhaa
