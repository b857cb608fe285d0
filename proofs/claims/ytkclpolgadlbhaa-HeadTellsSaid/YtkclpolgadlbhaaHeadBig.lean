/-
  CONTRACTS of head.Big and truchmanref1.Big: the bytes of a number.
-/
import Derived.Test.YtkclpolgadlbhaaHead
namespace Go.Proofs.Ytkclpolgadlbhaa
open Go.RowKit
open Go.Lib
/-- The row of a number's bytes when k of them are laid, from the last on. -/
def rowB (n k v : Nat) : List UInt8 := List.replicate (n - k) 0 ++ bigB k v
theorem rowB_zero (n v : Nat) : rowB n 0 v = List.replicate n 0 := by simp [rowB, bigB]
theorem rowB_all (n v : Nat) : rowB n n v = bigB n v := by simp [rowB]
theorem rowB_len (n k v : Nat) (h : k ≤ n) : (rowB n k v).length = n := by simp [rowB, bigB_length]; omega
theorem rowB_set (n k v : Nat) (h : k < n) : (rowB n k v).set (n - 1 - k) (UInt8.ofNat (v / 256 ^ k % 256)) = rowB n (k + 1) v := by
  have e : List.replicate (n - k) (0 : UInt8) = List.replicate (n - 1 - k) 0 ++ [0] := by
    rw [show n - k = (n - 1 - k) + 1 by omega, List.replicate_succ']
  unfold rowB
  rw [e, List.append_assoc, List.set_append_right _ _ (by simp)]
  simp [bigB, show n - (k + 1) = n - 1 - k by omega]
theorem bCells_set (l : List UInt8) (k : Nat) (b : UInt8) : (bCells l).set k (.int .u8 (b.toNat : Int)) = bCells (l.set k b) := by
  simp [bCells, List.map_set]
theorem at_new (w : World) (l : List UInt8) : At (w.alloc (.cells (Lib.byteCells l).toArray 5)) w.heap.size 0 (bCells l) := fun j u hj => by
  have hb : (w.alloc (.cells (Lib.byteCells l).toArray 5)).heap[w.heap.size]? = some (.cells (Lib.byteCells l).toArray 5 (0, 0)) := by
    show (w.heap.push _)[_]? = _
    rw [Array.getElem?_push, if_pos rfl]
  have hu : (Lib.byteCells l)[j]? = some u := hj
  refine ⟨?_, ?_⟩
  · simp only [World.cell?, hb, Nat.zero_add]
    simpa using hu
  · unfold World.frozen?
    rw [hb]
    simp
theorem conv_at {w : World} {g : Nat} {l : List UInt8} (n cap : Nat) (hl : l.length = n) (h : At w g 0 (bCells l)) :
    (convert 39 9 (.slice (some ⟨g, 0, none⟩) n cap)).run Try.prog w = .ok (.string ⟨l.toArray⟩) w := by
  have hby : Lib.Bytes w g 0 ⟨l.toArray⟩ := by
    intro i hi
    have hi' : i < l.length := by simpa [ByteArray.size] using hi
    have := (h i (.int .u8 l[i].toNat) (by simp [bCells, hi'])).1
    exact this
  have := run_convert_window (P := Try.prog) w 39 5 9 Try.underlying39 Try.underlying5 Try.underlying9 g 0 ⟨l.toArray⟩ hby 0 n cap (by simp [ByteArray.size]; omega)
  rw [Nat.zero_add] at this
  rw [this]
  congr 2
  apply ByteArray.ext
  apply Array.toList_inj.1
  rw [extract_data]
  show List.take _ l = l
  exact List.take_of_length_le (by omega)
set_option maxHeartbeats 1000000 in
theorem big_any (v n : Nat) (h1 : 1 ≤ n) (h8 : n ≤ 8) (w : World) :
    Calls Try.prog 16 #[.int .u64 v, .int .i64 n] w fun e w' => e = .returned (.string ⟨(bigB n v).toArray⟩) ∧ Below w.heap.size w w' := by
  have hmk := make_zero n (by omega) n rfl
  have g1 : ((n : Int) < 1) = False := by simp only [eq_iff_iff, iff_false]; omega
  have g2 : ((8 : Int) < n) = False := by simp only [eq_iff_iff, iff_false]; omega
  have HN : Hid (At (w.alloc (.cells (Lib.byteCells (List.replicate n 0)).toArray 5)) w.heap.size 0 (bCells (rowB n 0 v))) := Lib.hid (by rw [rowB_zero]; exact at_new w _)
  go_enter Try.func16, Try.ntmps16
  go_wp2
  go_loopw [17] (fun i wr => ∃ k : Nat, k ≤ n ∧ i = .int .i64 k ∧ Hid (At wr w.heap.size 0 (bCells (rowB n k v)) ∧ Below w.heap.size w wr)) (fun i _ => n - (RowKit.intOf i).toNat)
  case atStart => exact ⟨0, Nat.zero_le _, rfl, Lib.hid ⟨HN.out, (Below.refl _ _).alloc (Nat.le_refl _) _⟩⟩
  case round =>
    obtain ⟨k, hk, rfl, HP⟩ := hrel
    by_cases hlt : k < n
    · have hc : ∃ u, wr.cell? ⟨w.heap.size, n - 1 - k, none⟩ = some u ∧ wr.frozen? ⟨w.heap.size, n - 1 - k, none⟩ = false := by
        have hl : n - 1 - k < (bCells (rowB n k v)).length := by rw [bCells_length, rowB_len _ _ _ hk]; omega
        have := HP.out.1 (n - 1 - k) _ (List.getElem?_eq_getElem hl)
        rw [Nat.zero_add] at this
        exact ⟨_, this⟩
      obtain ⟨u, hcell, hfroz⟩ := hc
      have e1 : (n : Int) - 1 - k = ((n - 1 - k : Nat) : Int) := by omega
      have hv2 : ((v : Int) / 2 ^ (k * 8) % 256) = (((UInt8.ofNat (v / 256 ^ k % 256)).toNat : Nat) : Int) := by
        rw [byte_of, show (256 : Nat) ^ k = 2 ^ (k * 8) by rw [show (256 : Nat) = 2 ^ 8 from rfl, ← Nat.pow_mul, Nat.mul_comm]]
        simp
      have HQ : Hid (At (wr.setCell ⟨w.heap.size, n - 1 - k, none⟩ (.int .u8 ((v : Int) / 2 ^ (k * 8) % 256))) w.heap.size 0 (bCells (rowB n (k + 1) v)) ∧ Below w.heap.size w (wr.setCell ⟨w.heap.size, n - 1 - k, none⟩ (.int .u8 ((v : Int) / 2 ^ (k * 8) % 256)))) := Lib.hid (by
        refine ⟨?_, HP.out.2.setCell (by simp) _⟩
        have := HP.out.1.set (n - 1 - k) (by rw [bCells_length, rowB_len _ _ _ hk]; omega) (.int .u8 ((v : Int) / 2 ^ (k * 8) % 256))
        rw [hv2, bCells_set, rowB_set n k v hlt, ← hv2, Nat.zero_add] at this
        exact this)
      clear hv2
      go_wp2
      go_roundw
      case rel => exact ⟨k + 1, by omega, by go_num, HQ⟩
      case measure => simp [RowKit.intOf]; omega
    · have hkn : k = n := by omega
      subst hkn
      have hcv : (convert 39 9 (.slice (some ⟨w.heap.size, 0, none⟩) k k)).run Try.prog wr = .ok (.string ⟨(bigB k v).toArray⟩) wr := by
        have := HP.out.1
        rw [rowB_all] at this
        exact conv_at k k (bigB_length k v) this
      go_wp2
      go_ret
      exact ⟨rfl, HP.out.2⟩
theorem big_out (v : Nat) (n : Int) (h : n < 1 ∨ 8 < n) (w : World) :
    Calls Try.prog 16 #[.int .u64 v, .int .i64 n] w fun e w' => e = .returned (.string ⟨#[]⟩) ∧ Below w.heap.size w w' := by
  by_cases h1 : n < 1
  · clear h
    go_enter Try.func16, Try.ntmps16
    go_wp2
    go_ret
    exact ⟨rfl, Below.refl _ _⟩
  · have h8 : 8 < n := by omega
    have g1 : (n < 1) = False := by simp only [eq_iff_iff, iff_false]; omega
    clear h h1
    go_enter Try.func16, Try.ntmps16
    go_wp2
    go_ret
    exact ⟨rfl, Below.refl _ _⟩
theorem and255 (x : Nat) (h : x < 18446744073709551616) : bits .and .u64 (x : Int) 255 = ((x % 256 : Nat) : Int) := by
  have h1 : (BitVec.ofInt 64 (x : Int)).toNat = x := by
    rw [BitVec.ofInt_natCast, BitVec.toNat_ofNat]; exact Nat.mod_eq_of_lt (by omega)
  have h2 : (BitVec.ofInt 64 (255 : Int)).toNat = 255 := by decide
  show IntKind.u64.wrap ((BitVec.ofInt 64 (x : Int) &&& BitVec.ofInt 64 (255 : Int)).toNat : Int) = _
  rw [BitVec.toNat_and, h1, h2, show 255 = 2 ^ 8 - 1 by decide, Nat.and_two_pow_sub_one_eq_mod, wrapI_u64 _ (by omega) (by omega)]
set_option maxHeartbeats 1000000 in
theorem rbig_any (v n : Nat) (hv : v < 18446744073709551616) (h1 : 1 ≤ n) (h8 : n ≤ 8) (w : World) :
    Calls Try.prog 17 #[.int .u64 v, .int .i64 n] w fun e w' => e = .returned (.string ⟨(bigB n v).toArray⟩) ∧ Below w.heap.size w w' := by
  have hmk := make_zero n (by omega) n rfl
  have g1 : ((n : Int) < 1) = False := by simp only [eq_iff_iff, iff_false]; omega
  have g2 : ((8 : Int) < n) = False := by simp only [eq_iff_iff, iff_false]; omega
  have HN : Hid (At (w.alloc (.cells (Lib.byteCells (List.replicate n 0)).toArray 5)) w.heap.size 0 (bCells (rowB n 0 v))) := Lib.hid (by rw [rowB_zero]; exact at_new w _)
  go_enter Try.func17, Try.ntmps17
  go_wp2
  go_loopw [0, 6] (fun x i wr => ∃ k : Nat, k ≤ n ∧ i = .int .i64 ((n : Int) - 1 - k) ∧ x = .int .u64 ((v / 256 ^ k : Nat) : Int) ∧ Hid (At wr w.heap.size 0 (bCells (rowB n k v)) ∧ Below w.heap.size w wr)) (fun _ i _ => (RowKit.intOf i + 1).toNat)
  case atStart => exact ⟨0, Nat.zero_le _, by simp, by simp, Lib.hid ⟨HN.out, (Below.refl _ _).alloc (Nat.le_refl _) _⟩⟩
  case round =>
    obtain ⟨k, hk, rfl, rfl, HP⟩ := hrel
    have hx : v / 256 ^ k < 18446744073709551616 := Nat.lt_of_le_of_lt (Nat.div_le_self _ _) hv
    by_cases hlt : k < n
    · have hc : ∃ u, wr.cell? ⟨w.heap.size, n - 1 - k, none⟩ = some u ∧ wr.frozen? ⟨w.heap.size, n - 1 - k, none⟩ = false := by
        have hl : n - 1 - k < (bCells (rowB n k v)).length := by rw [bCells_length, rowB_len _ _ _ hk]; omega
        have := HP.out.1 (n - 1 - k) _ (List.getElem?_eq_getElem hl)
        rw [Nat.zero_add] at this
        exact ⟨_, this⟩
      obtain ⟨u, hcell, hfroz⟩ := hc
      obtain ⟨j, hj⟩ : ∃ j, n - 1 - k = j := ⟨_, rfl⟩
      rw [hj] at hcell hfroz
      rw [show (n : Int) - 1 - k = (j : Int) by omega]
      obtain ⟨y, hy⟩ : ∃ y, v / 256 ^ k = y := ⟨_, rfl⟩
      rw [hy] at hx ⊢
      have hand := and255 y hx
      have hw8 : IntKind.u8.wrap ((y % 256 : Nat) : Int) = ((y % 256 : Nat) : Int) := wrapI_u8 _ (by omega) (by omega)
      have hdiv : Hid (((y : Int) / 256) = ((v / 256 ^ (k + 1) : Nat) : Int)) := Lib.hid (by
        rw [Nat.pow_succ, ← Nat.div_div_eq_div_mul, hy]
        omega)
      have HQ : Hid (At (wr.setCell ⟨w.heap.size, j, none⟩ (.int .u8 ((y % 256 : Nat) : Int))) w.heap.size 0 (bCells (rowB n (k + 1) v)) ∧ Below w.heap.size w (wr.setCell ⟨w.heap.size, j, none⟩ (.int .u8 ((y % 256 : Nat) : Int)))) := Lib.hid (by
        refine ⟨?_, HP.out.2.setCell (by simp) _⟩
        have := HP.out.1.set (n - 1 - k) (by rw [bCells_length, rowB_len _ _ _ hk]; omega) (.int .u8 ((y % 256 : Nat) : Int))
        rw [← byte_of y, ← hy, bCells_set, rowB_set n k v hlt, byte_of, hy, hj, Nat.zero_add] at this
        exact this)
      obtain ⟨z, hz⟩ : ∃ z, y % 256 = z := ⟨_, rfl⟩
      rw [hz] at hand hw8 HQ
      clear hy HP HN
      go_wp2
      go_roundw
      case rel => exact ⟨k + 1, by omega, by rw [← hj]; go_num, by rw [hdiv.out], HQ⟩
      case measure => simp [RowKit.intOf]
    · have hkn : k = n := by omega
      subst hkn
      rw [show (k : Int) - 1 - k = -1 by omega]
      have hcv : (convert 39 9 (.slice (some ⟨w.heap.size, 0, none⟩) k k)).run Try.prog wr = .ok (.string ⟨(bigB k v).toArray⟩) wr := by
        have := HP.out.1
        rw [rowB_all] at this
        exact conv_at k k (bigB_length k v) this
      go_wp2
      go_ret
      exact ⟨rfl, HP.out.2⟩
theorem rbig_out (v : Nat) (n : Int) (h : n < 1 ∨ 8 < n) (w : World) :
    Calls Try.prog 17 #[.int .u64 v, .int .i64 n] w fun e w' => e = .returned (.string ⟨#[]⟩) ∧ Below w.heap.size w w' := by
  by_cases h1 : n < 1
  · clear h
    go_enter Try.func17, Try.ntmps17
    go_wp2
    go_ret
    exact ⟨rfl, Below.refl _ _⟩
  · have h8 : 8 < n := by omega
    have g1 : (n < 1) = False := by simp only [eq_iff_iff, iff_false]; omega
    clear h h1
    go_enter Try.func17, Try.ntmps17
    go_wp2
    go_ret
    exact ⟨rfl, Below.refl _ _⟩
end Go.Proofs.Ytkclpolgadlbhaa
