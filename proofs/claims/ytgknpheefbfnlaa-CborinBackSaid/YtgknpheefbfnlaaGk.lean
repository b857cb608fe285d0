/-
  CONTRACTS of the document's own Big and Head.
-/
import Derived.Test.YtgknpheefbfnlaaGa
import Derived.Test.YtgknpheefbfnlaaGb
import Derived.Deep.RegionWith
/-
  CONTRACT of truchmanref1.Big: the bytes of a number; a []byte made, written cell by cell, turned into a string.
-/
namespace Go.Proofs.Ytgknpheefbfnlaa
open Go.RowKit
open Go.Lib
/-- The row of a number's bytes when k of them are laid, from the last on. -/
def rowB (n k v : Nat) : List UInt8 := List.replicate (n - k) 0 ++ bigB k v
theorem rowB_zero (n v : Nat) : rowB n 0 v = List.replicate n 0 := by simp [rowB, bigB]
theorem rowB_all (n v : Nat) : rowB n n v = bigB n v := by simp [rowB]
theorem rowB_len (n k v : Nat) (h : k ≤ n) : (rowB n k v).length = n := by simp [rowB, bigB_length]; omega
theorem rowB_set (n k v : Nat) (h : k < n) : (rowB n k v).set (n - 1 - k) (UInt8.ofNat (v / 256 ^ k % 256)) = rowB n (k + 1) v := by
  have e : List.replicate (n - k) (0 : UInt8) = List.replicate (n - 1 - k) 0 ++ [0] := by
    rw [show n - k = (n - 1 - k) + 1 by omega, List.replicate_succ']
  unfold rowB
  rw [e, List.append_assoc, List.set_append_right _ _ (by simp)]
  simp [bigB, show n - (k + 1) = n - 1 - k by omega]
theorem bCells_set (l : List UInt8) (k : Nat) (b : UInt8) : (bCells l).set k (.int .u8 (b.toNat : Int)) = bCells (l.set k b) := by
  simp [bCells, List.map_set]
theorem at_new (w : World) (l : List UInt8) : At (w.alloc (.cells (Lib.byteCells l).toArray 5)) w.heap.size 0 (bCells l) := fun j u hj => by
  have hb : (w.alloc (.cells (Lib.byteCells l).toArray 5)).heap[w.heap.size]? = some (.cells (Lib.byteCells l).toArray 5 (0, 0)) := by
    show (w.heap.push _)[_]? = _
    rw [Array.getElem?_push, if_pos rfl]
  have hu : (Lib.byteCells l)[j]? = some u := hj
  refine ⟨?_, ?_⟩
  · simp only [World.cell?, hb, Nat.zero_add]
    simpa using hu
  · unfold World.frozen?
    rw [hb]
    simp
theorem conv_at {w : World} {g : Nat} {l : List UInt8} (n cap : Nat) (hl : l.length = n) (h : At w g 0 (bCells l)) :
    (convert 43 9 (.slice (some ⟨g, 0, none⟩) n cap)).run Try.prog w = .ok (.string ⟨l.toArray⟩) w := by
  have hby : Lib.Bytes w g 0 ⟨l.toArray⟩ := by
    intro i hi
    have hi' : i < l.length := by simpa [ByteArray.size] using hi
    have := (h i (.int .u8 l[i].toNat) (by simp [bCells, hi'])).1
    exact this
  have := run_convert_window (P := Try.prog) w 43 5 9 Try.underlying43 Try.underlying5 Try.underlying9 g 0 ⟨l.toArray⟩ hby 0 n cap (by simp [ByteArray.size]; omega)
  rw [Nat.zero_add] at this
  have e : ByteArray.extract ⟨l.toArray⟩ 0 (0 + n) = ⟨l.toArray⟩ := by
    apply ByteArray.ext
    apply Array.toList_inj.1
    rw [extract_data]
    show List.take _ l = l
    exact List.take_of_length_le (by omega)
  rw [this, e]
theorem and255 (x : Nat) (h : x < 18446744073709551616) : bits .and .u64 (x : Int) 255 = ((x % 256 : Nat) : Int) := by
  have h1 : (BitVec.ofInt 64 (x : Int)).toNat = x := by
    rw [BitVec.ofInt_natCast, BitVec.toNat_ofNat]; exact Nat.mod_eq_of_lt (by omega)
  have h2 : (BitVec.ofInt 64 (255 : Int)).toNat = 255 := by decide
  show IntKind.u64.wrap ((BitVec.ofInt 64 (x : Int) &&& BitVec.ofInt 64 (255 : Int)).toNat : Int) = _
  rw [BitVec.toNat_and, h1, h2, show 255 = 2 ^ 8 - 1 by decide, Nat.and_two_pow_sub_one_eq_mod, wrapI_u64 _ (by omega) (by omega)]
set_option maxHeartbeats 1000000 in
theorem rbig_any (v n : Nat) (hv : v < 18446744073709551616) (h1 : 1 ≤ n) (h8 : n ≤ 8) (w : World) :
    Calls Try.prog 26 #[.int .u64 v, .int .i64 n] w fun e w' => e = .returned (.string ⟨(bigB n v).toArray⟩) ∧ Below w.heap.size w w' := by
  have hmk := make_zero n (by omega) n rfl
  have g1 : ((n : Int) < 1) = False := by simp only [eq_iff_iff, iff_false]; omega
  have g2 : ((8 : Int) < n) = False := by simp only [eq_iff_iff, iff_false]; omega
  have HN : Hid (At (w.alloc (.cells (Lib.byteCells (List.replicate n 0)).toArray 5)) w.heap.size 0 (bCells (rowB n 0 v))) := Lib.hid (by rw [rowB_zero]; exact at_new w _)
  go_enter Try.func26, Try.ntmps26
  go_wp2
  go_loopw [0, 6] (fun x i wr => ∃ k : Nat, k ≤ n ∧ i = .int .i64 ((n : Int) - 1 - k) ∧ x = .int .u64 ((v / 256 ^ k : Nat) : Int) ∧ Hid (At wr w.heap.size 0 (bCells (rowB n k v)) ∧ Below w.heap.size w wr)) (fun _ i _ => (RowKit.intOf i + 1).toNat)
  case atStart => exact ⟨0, Nat.zero_le _, by simp, by simp, Lib.hid ⟨HN.out, (Below.refl _ _).alloc (Nat.le_refl _) _⟩⟩
  case round =>
    obtain ⟨k, hk, rfl, rfl, HP⟩ := hrel
    have hx : v / 256 ^ k < 18446744073709551616 := Nat.lt_of_le_of_lt (Nat.div_le_self _ _) hv
    by_cases hlt : k < n
    · have hc : ∃ u, wr.cell? ⟨w.heap.size, n - 1 - k, none⟩ = some u ∧ wr.frozen? ⟨w.heap.size, n - 1 - k, none⟩ = false := by
        have hl : n - 1 - k < (bCells (rowB n k v)).length := by rw [bCells_length, rowB_len _ _ _ hk]; omega
        have := HP.out.1 (n - 1 - k) _ (List.getElem?_eq_getElem hl)
        rw [Nat.zero_add] at this
        exact ⟨_, this⟩
      obtain ⟨u, hcell, hfroz⟩ := hc
      obtain ⟨j, hj⟩ : ∃ j, n - 1 - k = j := ⟨_, rfl⟩
      rw [hj] at hcell hfroz
      rw [show (n : Int) - 1 - k = (j : Int) by omega]
      obtain ⟨y, hy⟩ : ∃ y, v / 256 ^ k = y := ⟨_, rfl⟩
      rw [hy] at hx ⊢
      have hand := and255 y hx
      have hw8 : IntKind.u8.wrap ((y % 256 : Nat) : Int) = ((y % 256 : Nat) : Int) := wrapI_u8 _ (by omega) (by omega)
      have hdiv : Hid (((y : Int) / 256) = ((v / 256 ^ (k + 1) : Nat) : Int)) := Lib.hid (by
        rw [Nat.pow_succ, ← Nat.div_div_eq_div_mul, hy]
        omega)
      have HQ : Hid (At (wr.setCell ⟨w.heap.size, j, none⟩ (.int .u8 ((y % 256 : Nat) : Int))) w.heap.size 0 (bCells (rowB n (k + 1) v)) ∧ Below w.heap.size w (wr.setCell ⟨w.heap.size, j, none⟩ (.int .u8 ((y % 256 : Nat) : Int)))) := Lib.hid (by
        refine ⟨?_, HP.out.2.setCell (by simp) _⟩
        have := HP.out.1.set (n - 1 - k) (by rw [bCells_length, rowB_len _ _ _ hk]; omega) (.int .u8 ((y % 256 : Nat) : Int))
        rw [← byte_of y, ← hy, bCells_set, rowB_set n k v hlt, byte_of, hy, hj, Nat.zero_add] at this
        exact this)
      obtain ⟨z, hz⟩ : ∃ z, y % 256 = z := ⟨_, rfl⟩
      rw [hz] at hand hw8 HQ
      clear hy HP HN
      go_wp2
      go_roundw
      case rel => exact ⟨k + 1, by omega, by rw [← hj]; go_num, by rw [hdiv.out], HQ⟩
      case measure => simp [RowKit.intOf]
    · have hkn : k = n := by omega
      subst hkn
      rw [show (k : Int) - 1 - k = -1 by omega]
      have hcv : (convert 43 9 (.slice (some ⟨w.heap.size, 0, none⟩) k k)).run Try.prog wr = .ok (.string ⟨(bigB k v).toArray⟩) wr := by
        have := HP.out.1
        rw [rowB_all] at this
        exact conv_at k k (bigB_length k v) this
      go_wp2
      go_ret
      exact ⟨rfl, HP.out.2⟩
theorem rbig_out (v : Nat) (n : Int) (h : n < 1 ∨ 8 < n) (w : World) :
    Calls Try.prog 26 #[.int .u64 v, .int .i64 n] w fun e w' => e = .returned (.string ⟨#[]⟩) ∧ Below w.heap.size w w' := by
  by_cases h1 : n < 1
  · clear h
    go_enter Try.func26, Try.ntmps26
    go_wp2
    go_ret
    exact ⟨rfl, Below.refl _ _⟩
  · have h8 : 8 < n := by omega
    have g1 : (n < 1) = False := by simp only [eq_iff_iff, iff_false]; omega
    clear h h1
    go_enter Try.func26, Try.ntmps26
    go_wp2
    go_ret
    exact ⟨rfl, Below.refl _ _⟩
end Go.Proofs.Ytgknpheefbfnlaa
/-
  CONTRACT of truchmanref1.Head: the shortest head of a number.
-/
namespace Go.Proofs.Ytgknpheefbfnlaa
open Go.RowKit
open Go.Lib
theorem mod8_ref (a : Int) : (wrap64 (a.tmod 8 + 8)).tmod 8 = ((a % 8).toNat : Int) := by
  have h1 := Int.tmod_lt_of_pos a (show (0 : Int) < 8 by omega)
  have h2 : -(8 : Int) < a.tmod 8 := Int.lt_tmod_of_pos a (show (0 : Int) < 8 by omega)
  have h0 : a.tmod 8 = a % 8 ∨ a.tmod 8 = a % 8 - 8 := by
    rw [Int.tmod_eq_emod]
    split
    · exact .inl (by omega)
    · exact .inr rfl
  have hw : wrap64 (a.tmod 8 + 8) = a.tmod 8 + 8 := by unfold wrap64; omega
  rw [hw, Int.tmod_eq_emod_of_nonneg (by omega)]
  omega
theorem big_one (v : Nat) : bigB 1 v = [UInt8.ofNat v] := by
  simp only [bigB, Nat.pow_zero, Nat.div_one]
  congr 1
  apply UInt8.toNat_inj.1
  simp
theorem sizH_k (v K : Nat) (hv : v < 18446744073709551616) (h24 : 24 ≤ v) (hK : K = 0 ∧ v < 256 ∨ K = 1 ∧ 256 ≤ v ∧ v < 65536 ∨ K = 2 ∧ 65536 ≤ v ∧ v < 4294967296 ∨ K = 3 ∧ 4294967296 ≤ v) : sizH v = (2 ^ K, 24 + K) := by
  rcases sizH_cases v hv with ⟨h, e⟩ | ⟨h, e⟩ | ⟨h, e⟩ | ⟨h, e⟩ | ⟨h, e⟩ <;> rcases hK with hK | hK | hK | hK <;> first | omega | (obtain ⟨rfl, _⟩ := hK; exact e)
theorem class_of (v : Nat) : ∃ K : Nat, K = 0 ∧ v < 256 ∨ K = 1 ∧ 256 ≤ v ∧ v < 65536 ∨ K = 2 ∧ 65536 ≤ v ∧ v < 4294967296 ∨ K = 3 ∧ 4294967296 ≤ v := by
  by_cases h1 : v < 256
  · exact ⟨0, .inl ⟨rfl, h1⟩⟩
  · by_cases h2 : v < 65536
    · exact ⟨1, by omega⟩
    · by_cases h3 : v < 4294967296
      · exact ⟨2, by omega⟩
      · exact ⟨3, by omega⟩
theorem ba_cons (a b : List UInt8) (c : List UInt8) (h : a ++ b = c) : (⟨a.toArray⟩ : ByteArray) ++ (⟨b.toArray⟩ : ByteArray) = ⟨c.toArray⟩ := by
  rw [ba_append, h]
theorem ba_size (l : List UInt8) : (⟨l.toArray⟩ : ByteArray).size = l.length := rfl
theorem cell_of {w : World} {g : Nat} {x : UInt8} {c : Int} (hc : c = ((x.toNat : Nat) : Int)) (h : w.heap[g]? = some (.cells #[.int .u8 c] 5 (0, 0))) :
    (convert 43 9 (.slice (some ⟨g, 0, none⟩) 1 1)).run Try.prog w = .ok (.string ⟨#[x]⟩) w := by
  subst hc
  exact conv_row (w := w) (g := g) (l := [x]) h 0 1 1 (by simp)
theorem heap_last (w : World) (x : Obj) : (w.alloc x).heap[w.heap.size]? = some x := by
  show (w.heap.push _)[_]? = _
  rw [Array.getElem?_push, if_pos rfl]
theorem ho_drew (w : World) (x : UInt8) (c : Int) (hc : c = ((x.toNat : Nat) : Int)) :
    (convert 43 9 (.slice (some ⟨w.heap.size, 0, none⟩) 1 1)).run Try.prog (w.alloc (.cells #[.int .u8 c] 5)).drew = .ok (.string ⟨#[x]⟩) (w.alloc (.cells #[.int .u8 c] 5)).drew := cell_of hc (heap_last w _)
theorem ends1 {w w1 : World} {O : Obj} (b : Below (w.alloc O).drew.heap.size (w.alloc O).drew w1) : Below w.heap.size w w1 := by
  have a : Below w.heap.size w (w.alloc O).drew := below_drewN ((Below.refl w.heap.size w).alloc (Nat.le_refl _) O) 1
  exact a.trans (b.mono a.size)
theorem ends2 {w w1 : World} (O : Obj) (b : Below w.drew.heap.size w.drew w1) : Below w.heap.size w (w1.alloc O) := by
  have a : Below w.heap.size w w.drew := below_drewN (Below.refl w.heap.size w) 1
  have c := a.trans b
  exact c.alloc c.size O
/-- One byte, made ahead of a call, or behind it. -/
theorem ho_new (w : World) (x : UInt8) (c : Int) (hc : c = ((x.toNat : Nat) : Int)) :
    (convert 43 9 (.slice (some ⟨w.heap.size, 0, none⟩) 1 1)).run Try.prog (w.alloc (.cells #[.int .u8 c] 5)) = .ok (.string ⟨#[x]⟩) (w.alloc (.cells #[.int .u8 c] 5)) := cell_of hc (heap_last w _)
theorem ho_old {w w2 : World} (x : UInt8) (c : Int) (hc : c = ((x.toNat : Nat) : Int)) (hb : Below (w.alloc (.cells #[.int .u8 c] 5)).drew.heap.size (w.alloc (.cells #[.int .u8 c] 5)).drew w2) :
    (convert 43 9 (.slice (some ⟨w.heap.size, 0, none⟩) 1 1)).run Try.prog w2 = .ok (.string ⟨#[x]⟩) w2 := cell_of hc ((hb.block _ (by show w.heap.size < (w.heap.push _).size; simp)).trans (heap_last w _))
theorem rbig_n (f n : Nat) (z : Int) (hz : z = n) (hf : f < 18446744073709551616) (h1 : 1 ≤ n) (h8 : n ≤ 8) (X : ByteArray) (h : X = ⟨(bigB n f).toArray⟩) (w : World) : Calls Try.prog 26 #[.int .u64 f, .int .i64 z] w fun e w' => e = .returned (.string X) ∧ Below w.heap.size w w' := by
  subst h hz
  exact rbig_any f n hf h1 h8 w
set_option maxHeartbeats 1000000 in
theorem rhead_small (n : Int) (v : Nat) (hv : v < 24) (w : World) :
    Calls Try.prog 24 #[.int .i64 n, .int .u64 v] w fun e w' => e = .returned (.string ⟨(headB (n % 8).toNat v).toArray⟩) ∧ Below w.heap.size w w' := by
  have ha := mod8_ref n
  obtain ⟨m, hm⟩ : ∃ m, (n % 8).toNat = m := ⟨_, rfl⟩
  have hm8 : m < 8 := by omega
  rw [hm] at ha ⊢
  have hw1 : IntKind.u8.wrap (m : Int) = (m : Int) := wrapI_u8 _ (by omega) (by omega)
  have hw2 : IntKind.u8.wrap ((m : Int) * 32) = (m : Int) * 32 := wrapI_u8 _ (by omega) (by omega)
  have hw3 : IntKind.u8.wrap (v : Int) = (v : Int) := wrapI_u8 _ (by omega) (by omega)
  have hw4 : IntKind.u8.wrap ((m : Int) * 32 + (v : Int)) = (m : Int) * 32 + (v : Int) := wrapI_u8 _ (by omega) (by omega)
  have hcv := ho_new w (UInt8.ofNat (m * 32 + v)) ((m : Int) * 32 + (v : Int)) (by simp; omega)
  have e : headB m v = [UInt8.ofNat (m * 32 + v)] := by simp [headB, sizH, hv, bigB]
  rw [e]
  have hz : ((v : Int) < 24) = True := by simp only [eq_iff_iff, iff_true]; omega
  generalize (⟨#[UInt8.ofNat (m * 32 + v)]⟩ : ByteArray) = X at *
  clear e hm
  go_enter Try.func24, Try.ntmps24
  go_wp2
  go_ret
  exact ⟨rfl, (Below.refl _ _).alloc (Nat.le_refl _) _⟩
set_option maxHeartbeats 2000000 in
theorem rhead_0 (n : Int) (v : Nat) (hv : v < 18446744073709551616) (h24 : 24 ≤ v) (hK : v < 256) (w : World) :
    Calls Try.prog 24 #[.int .i64 n, .int .u64 v] w fun e w' => e = .returned (.string ⟨(headB (n % 8).toNat v).toArray⟩) ∧ Below w.heap.size w w' := by
  have ha := mod8_ref n
  obtain ⟨m, hm⟩ : ∃ m, (n % 8).toNat = m := ⟨_, rfl⟩
  have hm8 : m < 8 := by omega
  rw [hm] at ha ⊢
  have hw1 : IntKind.u8.wrap (m : Int) = (m : Int) := wrapI_u8 _ (by omega) (by omega)
  have hw2 : IntKind.u8.wrap ((m : Int) * 32) = (m : Int) * 32 := wrapI_u8 _ (by omega) (by omega)
  have hw4 : IntKind.u8.wrap ((m : Int) * 32 + 24) = (m : Int) * 32 + 24 := wrapI_u8 _ (by omega) (by omega)
  have hc : (m : Int) * 32 + 24 = (((UInt8.ofNat (m * 32 + 24)).toNat : Nat) : Int) := by simp; omega
  have hcv := fun W => ho_new W (UInt8.ofNat (m * 32 + 24)) ((m : Int) * 32 + 24) hc
  have hcd := ho_drew w (UInt8.ofNat (m * 32 + 24)) ((m : Int) * 32 + 24) hc
  have HO := Lib.hid (fun (W W2 : World) hb => ho_old (w := W) (w2 := W2) (UInt8.ofNat (m * 32 + 24)) ((m : Int) * 32 + 24) hc hb)
  have HB := Lib.hid (fun W => rbig_n v 1 1 rfl hv (by omega) (by omega) _ rfl W)
  have e : (⟨(headB m v).toArray⟩ : ByteArray) = (⟨#[UInt8.ofNat (m * 32 + 24)]⟩ : ByteArray) ++ ⟨(bigB 1 v).toArray⟩ := by
    rw [show (⟨#[UInt8.ofNat (m * 32 + 24)]⟩ : ByteArray) = ⟨[UInt8.ofNat (m * 32 + 24)].toArray⟩ from rfl, ba_append]
    simp [headB, sizH_k v 0 hv h24 (by omega)]
  rw [e]
  have s2 : (⟨(bigB 1 v).toArray⟩ : ByteArray).size = 1 := by rw [ba_size, bigB_length]
  have s1 : (⟨#[UInt8.ofNat (m * 32 + 24)]⟩ : ByteArray).size = 1 := rfl
  generalize (⟨#[UInt8.ofNat (m * 32 + 24)]⟩ : ByteArray) = X at *
  generalize (⟨(bigB 1 v).toArray⟩ : ByteArray) = Y at *
  have hsum : (9223372036854775807 < X.size + Y.size) = False := by simp only [eq_iff_iff, iff_false]; omega
  have hz0 : ((v : Int) < 24) = False := by simp only [eq_iff_iff, iff_false]; omega
  have hz1 : ((v : Int) < 256) = True := by simp only [eq_iff_iff, iff_true]; omega
  clear e hm hc hK
  go_enter Try.func24, Try.ntmps24
  go_wp2_with fail
  go_region_with ((go_at_call 26); (with_reducible refine (HB.out _).mono ?_); (rintro e w1 ⟨rfl, b1⟩); (first | (have hcx := HO.out w w1 b1) | skip))
  all_goals
    go_wp2
    go_ret
    refine ⟨rfl, ?_⟩
    first
      | exact ends1 b1
      | exact ends2 _ b1
set_option maxHeartbeats 2000000 in
theorem rhead_1 (n : Int) (v : Nat) (hv : v < 18446744073709551616) (h24 : 24 ≤ v) (hK : 256 ≤ v ∧ v < 65536) (w : World) :
    Calls Try.prog 24 #[.int .i64 n, .int .u64 v] w fun e w' => e = .returned (.string ⟨(headB (n % 8).toNat v).toArray⟩) ∧ Below w.heap.size w w' := by
  have ha := mod8_ref n
  obtain ⟨m, hm⟩ : ∃ m, (n % 8).toNat = m := ⟨_, rfl⟩
  have hm8 : m < 8 := by omega
  rw [hm] at ha ⊢
  have hw1 : IntKind.u8.wrap (m : Int) = (m : Int) := wrapI_u8 _ (by omega) (by omega)
  have hw2 : IntKind.u8.wrap ((m : Int) * 32) = (m : Int) * 32 := wrapI_u8 _ (by omega) (by omega)
  have hw4 : IntKind.u8.wrap ((m : Int) * 32 + 25) = (m : Int) * 32 + 25 := wrapI_u8 _ (by omega) (by omega)
  have hc : (m : Int) * 32 + 25 = (((UInt8.ofNat (m * 32 + 25)).toNat : Nat) : Int) := by simp; omega
  have hcv := fun W => ho_new W (UInt8.ofNat (m * 32 + 25)) ((m : Int) * 32 + 25) hc
  have hcd := ho_drew w (UInt8.ofNat (m * 32 + 25)) ((m : Int) * 32 + 25) hc
  have HO := Lib.hid (fun (W W2 : World) hb => ho_old (w := W) (w2 := W2) (UInt8.ofNat (m * 32 + 25)) ((m : Int) * 32 + 25) hc hb)
  have HB := Lib.hid (fun W => rbig_n v 2 2 rfl hv (by omega) (by omega) _ rfl W)
  have e : (⟨(headB m v).toArray⟩ : ByteArray) = (⟨#[UInt8.ofNat (m * 32 + 25)]⟩ : ByteArray) ++ ⟨(bigB 2 v).toArray⟩ := by
    rw [show (⟨#[UInt8.ofNat (m * 32 + 25)]⟩ : ByteArray) = ⟨[UInt8.ofNat (m * 32 + 25)].toArray⟩ from rfl, ba_append]
    simp [headB, sizH_k v 1 hv h24 (by omega)]
  rw [e]
  have s2 : (⟨(bigB 2 v).toArray⟩ : ByteArray).size = 2 := by rw [ba_size, bigB_length]
  have s1 : (⟨#[UInt8.ofNat (m * 32 + 25)]⟩ : ByteArray).size = 1 := rfl
  generalize (⟨#[UInt8.ofNat (m * 32 + 25)]⟩ : ByteArray) = X at *
  generalize (⟨(bigB 2 v).toArray⟩ : ByteArray) = Y at *
  have hsum : (9223372036854775807 < X.size + Y.size) = False := by simp only [eq_iff_iff, iff_false]; omega
  have hz0 : ((v : Int) < 24) = False := by simp only [eq_iff_iff, iff_false]; omega
  have hz1 : ((v : Int) < 256) = False := by simp only [eq_iff_iff, iff_false]; omega
  have hz2 : ((v : Int) < 65536) = True := by simp only [eq_iff_iff, iff_true]; omega
  clear e hm hc hK
  go_enter Try.func24, Try.ntmps24
  go_wp2_with fail
  go_region_with ((go_at_call 26); (with_reducible refine (HB.out _).mono ?_); (rintro e w1 ⟨rfl, b1⟩); (first | (have hcx := HO.out w w1 b1) | skip))
  all_goals
    go_wp2
    go_ret
    refine ⟨rfl, ?_⟩
    first
      | exact ends1 b1
      | exact ends2 _ b1
set_option maxHeartbeats 2000000 in
theorem rhead_2 (n : Int) (v : Nat) (hv : v < 18446744073709551616) (h24 : 24 ≤ v) (hK : 65536 ≤ v ∧ v < 4294967296) (w : World) :
    Calls Try.prog 24 #[.int .i64 n, .int .u64 v] w fun e w' => e = .returned (.string ⟨(headB (n % 8).toNat v).toArray⟩) ∧ Below w.heap.size w w' := by
  have ha := mod8_ref n
  obtain ⟨m, hm⟩ : ∃ m, (n % 8).toNat = m := ⟨_, rfl⟩
  have hm8 : m < 8 := by omega
  rw [hm] at ha ⊢
  have hw1 : IntKind.u8.wrap (m : Int) = (m : Int) := wrapI_u8 _ (by omega) (by omega)
  have hw2 : IntKind.u8.wrap ((m : Int) * 32) = (m : Int) * 32 := wrapI_u8 _ (by omega) (by omega)
  have hw4 : IntKind.u8.wrap ((m : Int) * 32 + 26) = (m : Int) * 32 + 26 := wrapI_u8 _ (by omega) (by omega)
  have hc : (m : Int) * 32 + 26 = (((UInt8.ofNat (m * 32 + 26)).toNat : Nat) : Int) := by simp; omega
  have hcv := fun W => ho_new W (UInt8.ofNat (m * 32 + 26)) ((m : Int) * 32 + 26) hc
  have hcd := ho_drew w (UInt8.ofNat (m * 32 + 26)) ((m : Int) * 32 + 26) hc
  have HO := Lib.hid (fun (W W2 : World) hb => ho_old (w := W) (w2 := W2) (UInt8.ofNat (m * 32 + 26)) ((m : Int) * 32 + 26) hc hb)
  have HB := Lib.hid (fun W => rbig_n v 4 4 rfl hv (by omega) (by omega) _ rfl W)
  have e : (⟨(headB m v).toArray⟩ : ByteArray) = (⟨#[UInt8.ofNat (m * 32 + 26)]⟩ : ByteArray) ++ ⟨(bigB 4 v).toArray⟩ := by
    rw [show (⟨#[UInt8.ofNat (m * 32 + 26)]⟩ : ByteArray) = ⟨[UInt8.ofNat (m * 32 + 26)].toArray⟩ from rfl, ba_append]
    simp [headB, sizH_k v 2 hv h24 (by omega)]
  rw [e]
  have s2 : (⟨(bigB 4 v).toArray⟩ : ByteArray).size = 4 := by rw [ba_size, bigB_length]
  have s1 : (⟨#[UInt8.ofNat (m * 32 + 26)]⟩ : ByteArray).size = 1 := rfl
  generalize (⟨#[UInt8.ofNat (m * 32 + 26)]⟩ : ByteArray) = X at *
  generalize (⟨(bigB 4 v).toArray⟩ : ByteArray) = Y at *
  have hsum : (9223372036854775807 < X.size + Y.size) = False := by simp only [eq_iff_iff, iff_false]; omega
  have hz0 : ((v : Int) < 24) = False := by simp only [eq_iff_iff, iff_false]; omega
  have hz1 : ((v : Int) < 256) = False := by simp only [eq_iff_iff, iff_false]; omega
  have hz2 : ((v : Int) < 65536) = False := by simp only [eq_iff_iff, iff_false]; omega
  have hz3 : ((v : Int) < 4294967296) = True := by simp only [eq_iff_iff, iff_true]; omega
  clear e hm hc hK
  go_enter Try.func24, Try.ntmps24
  go_wp2_with fail
  go_region_with ((go_at_call 26); (with_reducible refine (HB.out _).mono ?_); (rintro e w1 ⟨rfl, b1⟩); (first | (have hcx := HO.out w w1 b1) | skip))
  all_goals
    go_wp2
    go_ret
    refine ⟨rfl, ?_⟩
    first
      | exact ends1 b1
      | exact ends2 _ b1
set_option maxHeartbeats 2000000 in
theorem rhead_3 (n : Int) (v : Nat) (hv : v < 18446744073709551616) (h24 : 24 ≤ v) (hK : 4294967296 ≤ v) (w : World) :
    Calls Try.prog 24 #[.int .i64 n, .int .u64 v] w fun e w' => e = .returned (.string ⟨(headB (n % 8).toNat v).toArray⟩) ∧ Below w.heap.size w w' := by
  have ha := mod8_ref n
  obtain ⟨m, hm⟩ : ∃ m, (n % 8).toNat = m := ⟨_, rfl⟩
  have hm8 : m < 8 := by omega
  rw [hm] at ha ⊢
  have hw1 : IntKind.u8.wrap (m : Int) = (m : Int) := wrapI_u8 _ (by omega) (by omega)
  have hw2 : IntKind.u8.wrap ((m : Int) * 32) = (m : Int) * 32 := wrapI_u8 _ (by omega) (by omega)
  have hw4 : IntKind.u8.wrap ((m : Int) * 32 + 27) = (m : Int) * 32 + 27 := wrapI_u8 _ (by omega) (by omega)
  have hc : (m : Int) * 32 + 27 = (((UInt8.ofNat (m * 32 + 27)).toNat : Nat) : Int) := by simp; omega
  have hcv := fun W => ho_new W (UInt8.ofNat (m * 32 + 27)) ((m : Int) * 32 + 27) hc
  have hcd := ho_drew w (UInt8.ofNat (m * 32 + 27)) ((m : Int) * 32 + 27) hc
  have HO := Lib.hid (fun (W W2 : World) hb => ho_old (w := W) (w2 := W2) (UInt8.ofNat (m * 32 + 27)) ((m : Int) * 32 + 27) hc hb)
  have HB := Lib.hid (fun W => rbig_n v 8 8 rfl hv (by omega) (by omega) _ rfl W)
  have e : (⟨(headB m v).toArray⟩ : ByteArray) = (⟨#[UInt8.ofNat (m * 32 + 27)]⟩ : ByteArray) ++ ⟨(bigB 8 v).toArray⟩ := by
    rw [show (⟨#[UInt8.ofNat (m * 32 + 27)]⟩ : ByteArray) = ⟨[UInt8.ofNat (m * 32 + 27)].toArray⟩ from rfl, ba_append]
    simp [headB, sizH_k v 3 hv h24 (by omega)]
  rw [e]
  have s2 : (⟨(bigB 8 v).toArray⟩ : ByteArray).size = 8 := by rw [ba_size, bigB_length]
  have s1 : (⟨#[UInt8.ofNat (m * 32 + 27)]⟩ : ByteArray).size = 1 := rfl
  generalize (⟨#[UInt8.ofNat (m * 32 + 27)]⟩ : ByteArray) = X at *
  generalize (⟨(bigB 8 v).toArray⟩ : ByteArray) = Y at *
  have hsum : (9223372036854775807 < X.size + Y.size) = False := by simp only [eq_iff_iff, iff_false]; omega
  have hz0 : ((v : Int) < 24) = False := by simp only [eq_iff_iff, iff_false]; omega
  have hz1 : ((v : Int) < 256) = False := by simp only [eq_iff_iff, iff_false]; omega
  have hz2 : ((v : Int) < 65536) = False := by simp only [eq_iff_iff, iff_false]; omega
  have hz3 : ((v : Int) < 4294967296) = False := by simp only [eq_iff_iff, iff_false]; omega
  clear e hm hc hK
  go_enter Try.func24, Try.ntmps24
  go_wp2_with fail
  go_region_with ((go_at_call 26); (with_reducible refine (HB.out _).mono ?_); (rintro e w1 ⟨rfl, b1⟩); (first | (have hcx := HO.out w w1 b1) | skip))
  all_goals
    go_wp2
    go_ret
    refine ⟨rfl, ?_⟩
    first
      | exact ends1 b1
      | exact ends2 _ b1
theorem rhead_any (n : Int) (v : Nat) (hv : v < 18446744073709551616) (w : World) :
    Calls Try.prog 24 #[.int .i64 n, .int .u64 v] w fun e w' => e = .returned (.string ⟨(headB (n % 8).toNat v).toArray⟩) ∧ Below w.heap.size w w' := by
  by_cases h : v < 24
  · exact rhead_small n v h w
  · obtain ⟨K, hK⟩ := class_of v
    rcases hK with hK | hK | hK | hK
    · exact rhead_0 n v hv (by omega) hK.2 w
    · exact rhead_1 n v hv (by omega) hK.2 w
    · exact rhead_2 n v hv (by omega) hK.2 w
    · exact rhead_3 n v hv (by omega) hK.2 w
end Go.Proofs.Ytgknpheefbfnlaa
